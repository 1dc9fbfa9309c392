/- Two treaps joined: the specification's JoinTreaps. -/
import Derived.Test.YtnmbnebofbdmfaaTpJi
namespace Go.Proofs.Ytnmbnebofbdmfaa
open Go.RowKit
set_option linter.unusedVariables false

theorem below_ends {x y : List Pr} (hx : Srt x) (hy : Srt y) {p q : Pr} (hp : x[x.length - 1]? = some p) (hq : y[0]? = some q) : AllBelow x y ↔ kLt p.1 q.1 := by
  constructor
  · exact fun h => h p (List.mem_of_getElem? hp) q (List.mem_of_getElem? hq)
  · intro h u hu v hv
    obtain ⟨i, hi⟩ := List.mem_iff_getElem?.1 hu
    obtain ⟨j, hj⟩ := List.mem_iff_getElem?.1 hv
    obtain ⟨i1, rfl⟩ := List.getElem?_eq_some_iff.1 hi
    obtain ⟨j1, rfl⟩ := List.getElem?_eq_some_iff.1 hj
    obtain ⟨p1, rfl⟩ := List.getElem?_eq_some_iff.1 hp
    obtain ⟨q1, rfl⟩ := List.getElem?_eq_some_iff.1 hq
    have h2 : kLt x[i].1 y[0].1 := by
      by_cases e : i = x.length - 1
      · subst e; exact h
      · exact (List.pairwise_iff_getElem.1 hx i (x.length - 1) i1 p1 (by omega)).trans h
    by_cases e : j = 0
    · subst e; exact h2
    · exact h2.trans (List.pairwise_iff_getElem.1 hy 0 j q1 j1 (by omega))

set_option maxRecDepth 100000 in
set_option maxHeartbeats 2000000 in
theorem specJoin_own (n c n' c' : Nat) (a a' : Option Addr) (N N' : Nat → Lb) (w : World) (h : RowIs w w.heap.size (.slice a n c) n N) (hs : SmallR n N) (h' : RowIs w w.heap.size (.slice a' n' c') n' N') (hs' : SmallR n' N') :
    Calls Try.prog 5 #[.agg #[.slice a n c], .agg #[.slice a' n' c']] w (JoinGot (lbs n N) (lbs n' N') w) := by
  have HR : Hid (RowIs w w.heap.size (.slice a n c) (lbs n N).length (lbAt (lbs n N))) := h.list
  have HS : Hid ((lbs n N).length ≤ 2 ^ 20 ∧ ∀ x ∈ lbs n N, x.key.size ≤ 2 ^ 20 ∧ x.val.size ≤ 2 ^ 20) := hs.list
  have HR' : Hid (RowIs w w.heap.size (.slice a' n' c') (lbs n' N').length (lbAt (lbs n' N'))) := h'.list
  have HS' : Hid ((lbs n' N').length ≤ 2 ^ 20 ∧ ∀ x ∈ lbs n' N', x.key.size ≤ 2 ^ 20 ∧ x.val.size ≤ 2 ^ 20) := hs'.list
  clear h hs h' hs'
  have HNO : Hid (∀ w' : World, OwnR w' 0 (.slice none 0 0) ([] : List Lb).length (lbAt [])) := fun w' => ⟨none, 0, 0, rfl, by simp, .inl rfl⟩
  go_enter Try.func5, Try.ntmps5
  go_wp2_with fail
  obtain ⟨W0, hW0⟩ : ∃ W0, W0 = ((w.alloc (.cells #[.slice a n c] 28)).alloc (.cells #[.slice a' n' c'] 28)).alloc (.cells #[.slice none 0 0] 28) := ⟨_, rfl⟩
  have b0 : Below w.heap.size w W0 := by rw [hW0]; exact (((Below.refl _ _).alloc (Nat.le_refl _) _).alloc (by simp) _).alloc (by simp; omega) _
  have z0 : W0.heap.size = w.heap.size + 1 + 1 + 1 := by rw [hW0]; simp
  have r0 : W0.cell? ⟨w.heap.size + 1 + 1, 0, none⟩ = some (.slice none 0 0) := by rw [hW0]; simp [go_sem]
  have f0 : W0.frozen? ⟨w.heap.size + 1 + 1, 0, none⟩ = false := by rw [hW0]; simp [go_sem]
  have t0 : W0.cell? ⟨w.heap.size + 1, 0, none⟩ = some (.slice a' n' c') := by rw [hW0]; simp [go_sem]
  rw [← hW0]
  have HB0 : Hid (Below w.heap.size w W0) := b0
  have HK : Hid (∀ w', Below W0.heap.size W0 w' → Below w.heap.size w w' ∧ (w'.cell? ⟨w.heap.size + 1 + 1, 0, none⟩ = some (.slice none 0 0) ∧ w'.frozen? ⟨w.heap.size + 1 + 1, 0, none⟩ = false ∧ w.heap.size + 1 + 1 < w'.heap.size) ∧ w'.cell? ⟨w.heap.size + 1, 0, none⟩ = some (.slice a' n' c')) := fun w' h =>
    ⟨b0.trans (h.mono (by omega)), ⟨(h.cell (by show w.heap.size + 1 + 1 < _; omega)).trans r0, (h.frozen (by show w.heap.size + 1 + 1 < _; omega)).trans f0, by have := h.size; omega⟩, (h.cell (by show w.heap.size + 1 < _; omega)).trans t0⟩
  have HKS : Hid (∀ (w' : World) (u : Value), Below w.heap.size w w' → Below w.heap.size w (w'.setCell ⟨w.heap.size + 1 + 1, 0, none⟩ u)) := fun w' u h => h.setCell (by show w.heap.size ≤ w.heap.size + 1 + 1; omega) _
  clear hW0 b0 r0 f0 t0
  refine (l7Of_any (lbs n N) _ _ (HR.out.below HB0.out (by omega)) HS.out.1 HS.out.2).mono ?_
  rintro e w1 h1
  have hb1 := h1.2
  have HB1 : Hid (Below W0.heap.size W0 w1) := hb1
  have z1 := hb1.size
  obtain ⟨x, ax, cx, q1, he1, hox⟩ : ∃ (x : List Pr) (ax : Option Addr) (cx : Nat) (q1 : Bool), e = .returned (.tuple #[.slice ax x.length cx, .bool q1]) ∧ OwnsP w1 W0.heap.size (.slice ax x.length cx) x ∧ (q1 = true → GoodL (lbs n N) ∧ ∃ T : Bt, T.ok ∧ T.limbs 0 = lbs n N ∧ x = T.ino) ∧ (q1 = false → ¬ GoodL (lbs n N)) := by
    rcases h1.1 with ⟨hg, T, v, e, hTo, hTl, ho⟩ | ⟨hg, e⟩
    · obtain ⟨ax, cx, rfl⟩ := ho.form
      exact ⟨T.ino, ax, cx, true, e, ho, fun _ => ⟨hg, T, hTo, hTl, rfl⟩, fun h => by cases h⟩
    · exact ⟨[], none, 0, false, e, World.ownsRow_nil _ _ _ _, fun h => (by cases h), fun _ => hg⟩
  subst he1
  have HX : Hid (OwnsP w1 W0.heap.size (.slice ax x.length cx) x ∧ (q1 = true → GoodL (lbs n N) ∧ ∃ T : Bt, T.ok ∧ T.limbs 0 = lbs n N ∧ x = T.ino) ∧ (q1 = false → ¬ GoodL (lbs n N))) := hox
  obtain ⟨m, hm⟩ : ∃ m, m = x.length := ⟨_, rfl⟩
  have HM : Hid (m = x.length) := hm
  rw [← hm] at HX ⊢
  clear h1 hb1 hox hm
  obtain ⟨_, _, t1⟩ := HK.out w1 HB1.out
  go_wp2_with fail
  refine (l7Of_any (lbs n' N') _ _ (HR'.out.below (HB0.out.trans (HB1.out.mono (by omega))) (by omega)) HS'.out.1 HS'.out.2).mono ?_
  rintro e w2 h2
  have hb2 := h2.2
  have HB2 : Hid (Below W0.heap.size W0 w2) := HB1.out.trans (hb2.mono z1)
  have z2 := hb2.size
  obtain ⟨y, ay, cy, q2, he2, hoy⟩ : ∃ (y : List Pr) (ay : Option Addr) (cy : Nat) (q2 : Bool), e = .returned (.tuple #[.slice ay y.length cy, .bool q2]) ∧ OwnsP w2 w1.heap.size (.slice ay y.length cy) y ∧ (q2 = true → GoodL (lbs n' N') ∧ ∃ T : Bt, T.ok ∧ T.limbs 0 = lbs n' N' ∧ y = T.ino) ∧ (q2 = false → ¬ GoodL (lbs n' N')) := by
    rcases h2.1 with ⟨hg, T, v, e, hTo, hTl, ho⟩ | ⟨hg, e⟩
    · obtain ⟨ax, cx, rfl⟩ := ho.form
      exact ⟨T.ino, ax, cx, true, e, ho, fun _ => ⟨hg, T, hTo, hTl, rfl⟩, fun h => by cases h⟩
    · exact ⟨[], none, 0, false, e, World.ownsRow_nil _ _ _ _, fun h => (by cases h), fun _ => hg⟩
  subst he2
  have HY : Hid (OwnsP w2 w1.heap.size (.slice ay y.length cy) y ∧ (q2 = true → GoodL (lbs n' N') ∧ ∃ T : Bt, T.ok ∧ T.limbs 0 = lbs n' N' ∧ y = T.ino) ∧ (q2 = false → ¬ GoodL (lbs n' N'))) := hoy
  have HX2 : Hid (OwnsP w2 W0.heap.size (.slice ax m cx) x) := HX.out.1.below hb2
  obtain ⟨k, hk⟩ : ∃ m, m = y.length := ⟨_, rfl⟩
  have HKY : Hid (k = y.length) := hk
  rw [← hk] at HY ⊢
  clear h2 hb2 hoy hk t1
  obtain ⟨g2, ⟨r2, f2, q2'⟩, t2⟩ := HK.out w2 HB2.out
  have HW2 : Hid (Below w.heap.size w w2) := g2
  have HNOT : Hid (JTold (lbs n N) (lbs n' N') false [] → ∀ w', Below w.heap.size w w' → JoinGot (lbs n N) (lbs n' N') w (.returned (.tuple #[.agg #[.slice none 0 0], .bool false])) w') := fun h w' hb => ⟨_, _, 0, [], rfl, h, fun h => absurd rfl h, HNO.out _, hb⟩
  clear g2 t2
  cases q1 with
  | false =>
    have HD : Hid (JTold (lbs n N) (lbs n' N') false []) := .inr ⟨fun h => absurd h (HX.out.2.2 rfl), rfl, rfl⟩
    go_wp2_with fail
    go_big_quiet (fail)
    go_wp2_with fail
    exact bodyPost_ret (v := .tuple #[.agg #[.slice none 0 0], .bool false]) (by simp [results, Try.results5, go_sem, r2]) rfl (HNOT.out HD.out _ (HKS.out _ _ (drewN_belowT HW2.out _)))
  | true =>
    cases q2 with
    | false =>
      have HD : Hid (JTold (lbs n N) (lbs n' N') false []) := .inr ⟨fun _ h => absurd h (HY.out.2.2 rfl), rfl, rfl⟩
      go_wp2_with fail
      go_big_quiet (fail)
      go_wp2_with fail
      exact bodyPost_ret (v := .tuple #[.agg #[.slice none 0 0], .bool false]) (by simp [results, Try.results5, go_sem, r2]) rfl (HNOT.out HD.out _ (HKS.out _ _ (drewN_belowT HW2.out _)))
    | true =>
      obtain ⟨hg1, A, hAo, hAl, hAx⟩ := HX.out.2.1 rfl
      obtain ⟨hg2, C, hCo, hCl, hCy⟩ := HY.out.2.1 rfl
      have HG : Hid (GoodL (lbs n N) ∧ GoodL (lbs n' N') ∧ A.ok ∧ A.limbs 0 = lbs n N ∧ C.ok ∧ C.limbs 0 = lbs n' N' ∧ x = A.ino ∧ y = C.ino) := ⟨hg1, hg2, hAo, hAl, hCo, hCl, hAx, hCy⟩
      have HSZ : Hid (A.sz = m ∧ C.sz = k) := ⟨by rw [← Bt.ino_len, ← hAx, HM.out], by rw [← Bt.ino_len, ← hCy, HKY.out]⟩
      have hm60 : m ≤ 60 ∧ k ≤ 60 := ⟨by rw [← HSZ.out.1, ← A.limbs_len 0, hAl]; exact hg1.1, by rw [← HSZ.out.2, ← C.limbs_len 0, hCl]; exact hg2.1⟩
      have HSR : Hid (Srt x ∧ Srt y) := ⟨by rw [hAx]; exact hAo.1, by rw [hCy]; exact hCo.1⟩
      have HK20 : Hid (∀ p ∈ x ++ y, p.1.size ≤ 2 ^ 20) := fun p hp => by
        rcases List.mem_append.1 hp with hp | hp
        · rw [hAx] at hp
          have := (Bt.limbs_kv A p 0).2 hp
          rw [hAl] at this
          obtain ⟨u, hu, rfl⟩ := List.mem_map.1 this
          exact (HS.out.2 u hu).1
        · rw [hCy] at hp
          have := (Bt.limbs_kv C p 0).2 hp
          rw [hCl] at this
          obtain ⟨u, hu, rfl⟩ := List.mem_map.1 this
          exact (HS'.out.2 u hu).1
      have HBAD : Hid ((60 < m + k ∨ ¬ AllBelow x y) → JTold (lbs n N) (lbs n' N') false []) := fun h => .inr ⟨fun _ _ => ⟨A, C, hAo, hAl, hCo, hCl, by rw [HSZ.out.1, HSZ.out.2, ← hAx, ← hCy]; exact h⟩, rfl, rfl⟩
      clear hg1 hAo hAl hAx hg2 hCo hCl hCy
      by_cases h60 : m + k ≤ 60
      · have h60' : ¬ (60 : Int) < (m : Int) + (k : Int) := by omega
        have h60d : decide ((60 : Int) < (m : Int) + (k : Int)) = false := decide_eq_false h60'
        by_cases hm0 : m = 0
        · have HAB : Hid (AllBelow x y) := fun p hp => by
            rw [List.eq_nil_of_length_eq_zero (HM.out.symm.trans hm0)] at hp
            cases hp
          have e1 : decide ((0 : Int) < (m : Int)) = false := by simp; omega
          have e1' : decide (0 < m) = false := by simp; omega
          have HM0 : Hid (m = 0) := hm0
          clear hm0
          go_wp2_with fail
          go_big_quiet (fail)
          obtain ⟨W3, hW3⟩ : ∃ W, W = w2.drewN nq := ⟨_, rfl⟩
          have hb3 : Below w2.heap.size w2 W3 := by rw [hW3]; exact drewN_belowT (Below.refl _ _) _
          have z3 : w2.heap.size ≤ W3.heap.size := by rw [hW3]; exact Nat.le_refl _
          rw [← hW3]
          have HB3 : Hid (Below W0.heap.size W0 W3) := HB2.out.trans (hb3.mono (by omega))
          have HPX : Hid (∀ w', Below W3.heap.size W3 w' → PartT w' ax m cx 2 (prCells x) ∧ PartT w' ay k cy 2 (prCells y)) := fun w' h => by
            have hb : Below w2.heap.size w2 w' := hb3.trans (h.mono (by omega))
            exact ⟨(HX2.out.below hb).part.1, (HY.out.1.below hb).part.1⟩
          obtain ⟨S, hSo, hSi⟩ := tree_of_row (x ++ y) (srt_app.2 ⟨HSR.out.1, HSR.out.2, HAB.out⟩)
          have HSS : Hid (S.ok ∧ S.ino = x ++ y) := ⟨hSo, hSi⟩
          have HSZ2 : Hid (S.sz ≤ 60) := by
            show _ ≤ _
            rw [← Bt.ino_len, hSi, List.length_append, ← HM.out, ← HKY.out]
            exact h60
          have HD : Hid (JTold (lbs n N) (lbs n' N') true (S.limbs 0)) := .inl ⟨HG.out.1, HG.out.2.1, A, C, S, HG.out.2.2.1, HG.out.2.2.2.1, HG.out.2.2.2.2.1, HG.out.2.2.2.2.2.1, hSo, by rw [hSi, HG.out.2.2.2.2.2.2.1, HG.out.2.2.2.2.2.2.2], by rw [HSZ.out.1, HSZ.out.2]; exact h60, rfl, rfl⟩
          have HSK : Hid (∀ p ∈ S.ino, p.1.size ≤ 2 ^ 20) := by rw [hSi]; exact HK20
          obtain ⟨_, ⟨r3, f3, q3⟩, _⟩ := HK.out W3 HB3.out
          obtain ⟨iN, hi, hz0, hz1, hz2⟩ := info_parts infoPr
          have HI : Hid (Try.prog.info? 40 = some iN ∧ iN.zero = some (.agg #[.string ⟨#[]⟩, .string ⟨#[]⟩]) ∧ iN.size = 2 ∧ iN.bytes = 32) := ⟨hi, hz0, hz1, hz2⟩
          have HOE : Hid True := trivial
          have HBE : Hid (Below W3.heap.size W3 (W3.alloc (.cells #[] 40))) := (Below.refl _ _).alloc (Nat.le_refl _) _
          have HSE : Hid (W3.heap.size ≤ (W3.alloc (.cells #[] 40)).heap.size) := HBE.out.size
          have HP1 : Hid (PartT (W3.alloc (.cells #[] 40)) ax m cx 2 (prCells x)) := (HPX.out _ HBE.out).1
          clear hSo hSi hW3 hb3 hi hz0 hz1 hz2 r2 f2 q2' HX HNOT HBAD
          go_wp2_with (at_builtin; refine wpList_append_partT rfl _ _ 36 rfl W3.heap.size 40 iN _ 2 32 Try.underlying36 HI.out.1 HI.out.2.1 HI.out.2.2.1 HI.out.2.2.2 rfl (by decide) _ 0 [] rfl (World.ownsRow_lit W3 #[] 0 (Nat.le_refl _) (by decide) rfl) ax m cx (prCells x) rfl HP1.out (by unfold maxLen; omega) (by omega) (by simp) ?_)
          intro v6 w6 hown6 hg6
          have HO6 : Hid (OwnsP w6 W3.heap.size v6 x) := by
            show OwnsP _ _ _ _
            unfold OwnsP
            rw [← HM.out]
            simpa using hown6
          have hb6 : Below W3.heap.size W3 w6 := grown_belowT HBE.out (by simp) (World.ownsRow_lit (base := W3.heap.size) (e := 40) (size := 2) W3 #[] 0 (Nat.le_refl _) (by decide) rfl) hg6
          have HP6 : Hid (PartT w6 ay k cy 2 (prCells y)) := (HPX.out w6 hb6).2
          have HB6 : Hid (Below W3.heap.size W3 w6) := hb6
          have z6 := hb6.size
          obtain ⟨a6, c6, rfl⟩ := HO6.out.form
          have hxl : x.length ≤ 60 := by rw [← HM.out]; omega
          clear hown6 hg6 hb6 HP1 HOE HSE HBE
          go_wp2_with (at_builtin; refine wpList_append_partT rfl _ _ 36 rfl W3.heap.size 40 iN _ 2 32 Try.underlying36 HI.out.1 HI.out.2.1 HI.out.2.2.1 HI.out.2.2.2 rfl (by decide) _ x.length (prCells x) rfl HO6.out ay k cy (prCells y) rfl HP6.out (by unfold maxLen; omega) (by omega) z6 ?_)
          intro v7 w7 hown7 hg7
          have HO7 : Hid (OwnsP w7 W3.heap.size v7 (x ++ y)) := by
            show OwnsP _ _ _ _
            unfold OwnsP
            rw [pr_app, List.length_append, ← HKY.out]
            exact hown7
          have hb7 : Below W3.heap.size W3 w7 := grown_belowT HB6.out z6 HO6.out hg7
          have HB7 : Hid (Below W3.heap.size W3 w7) := hb7
          have z7 := hb7.size
          have HSRC : Hid (PSrc w7 v7 S.ino (fun _ => True)) := by rw [HSS.out.2]; exact HO7.out.src.any
          obtain ⟨a7, c7, rfl⟩ := HO7.out.form
          obtain ⟨m7, hm7⟩ : ∃ m, m = (x ++ y).length := ⟨_, rfl⟩
          rw [← hm7] at HSRC ⊢
          clear hown7 hg7 hb7 hm7 HO7 HO6 HP6 HPX
          go_wp2_with fail
          refine (l7Treap_any S _ _ HSRC.out HSS.out.1 HSK.out (by have := HSZ2.out; omega)).mono ?_
          rintro e w8 ⟨a8, c8, rfl, ho8, hb8⟩
          have hB8 := HB3.out.trans ((HB7.out.trans (hb8.mono z7)).mono (by omega))
          obtain ⟨g8, ⟨r8, f8, q8⟩, _⟩ := HK.out w8 hB8
          (
            obtain ⟨gb, hgb, hR8⟩ := own_of_row ho8 (by rw [Bt.limbs_len]; have := HSZ2.out; omega) zeroLb
            have HGB : Hid (S.limbs 0 ≠ [] → w.heap.size + 1 + 1 < gb) := fun h => by have := hgb h; omega
            have HRS : Hid (∀ u, OwnR (w8.setCell ⟨w.heap.size + 1 + 1, 0, none⟩ u) gb (.slice a8 (S.limbs 0).length c8) (S.limbs 0).length (lbAt (S.limbs 0))) := fun u => hR8.but2 (BelowBut.setCell _ _ _) (fun h => by
              have := HGB.out (fun e => h (by rw [e]; rfl))
              omega)
            have HW8 : Hid (Below w.heap.size w w8) := g8
            obtain ⟨L, hL⟩ : ∃ L, L = S.limbs 0 := ⟨_, rfl⟩
            rw [← hL] at HRS HGB HD ⊢
            obtain ⟨m8, hm8⟩ : ∃ m, m = L.length := ⟨_, rfl⟩
            rw [← hm8] at HRS ⊢
            have HM8 : Hid (m8 = L.length) := hm8
            clear hL hm8 hR8 hgb g8 ho8 hb8 hB8
            go_wp2_with fail
            refine bodyPost_ret (v := .tuple #[.agg #[.slice a8 m8 c8], .bool true]) (by simp [results, Try.results5, go_sem, r8]) rfl ⟨_, _, gb, L, rfl, HD.out, fun h => by have := HGB.out h; omega, ?_, HKS.out _ _ HW8.out⟩
            rw [← HM8.out]
            exact HRS.out _)
        · by_cases hk0 : k = 0
          · have HAB : Hid (AllBelow x y) := fun p hp q hq => by
              rw [List.eq_nil_of_length_eq_zero (HKY.out.symm.trans hk0)] at hq
              cases hq
            have e1 : decide ((0 : Int) < (m : Int)) = true := by simp; omega
            have e1' : decide (0 < m) = true := by simp; omega
            have e2 : decide ((0 : Int) < (k : Int)) = false := by simp; omega
            have e2' : decide (0 < k) = false := by simp; omega
            have HM0 : Hid (k = 0) := hk0
            clear hm0 hk0
            go_wp2_with fail
            go_big_quiet (fail)
            obtain ⟨W3, hW3⟩ : ∃ W, W = w2.drewN nq := ⟨_, rfl⟩
            have hb3 : Below w2.heap.size w2 W3 := by rw [hW3]; exact drewN_belowT (Below.refl _ _) _
            have z3 : w2.heap.size ≤ W3.heap.size := by rw [hW3]; exact Nat.le_refl _
            rw [← hW3]
            have HB3 : Hid (Below W0.heap.size W0 W3) := HB2.out.trans (hb3.mono (by omega))
            have HPX : Hid (∀ w', Below W3.heap.size W3 w' → PartT w' ax m cx 2 (prCells x) ∧ PartT w' ay k cy 2 (prCells y)) := fun w' h => by
              have hb : Below w2.heap.size w2 w' := hb3.trans (h.mono (by omega))
              exact ⟨(HX2.out.below hb).part.1, (HY.out.1.below hb).part.1⟩
            obtain ⟨S, hSo, hSi⟩ := tree_of_row (x ++ y) (srt_app.2 ⟨HSR.out.1, HSR.out.2, HAB.out⟩)
            have HSS : Hid (S.ok ∧ S.ino = x ++ y) := ⟨hSo, hSi⟩
            have HSZ2 : Hid (S.sz ≤ 60) := by
              show _ ≤ _
              rw [← Bt.ino_len, hSi, List.length_append, ← HM.out, ← HKY.out]
              exact h60
            have HD : Hid (JTold (lbs n N) (lbs n' N') true (S.limbs 0)) := .inl ⟨HG.out.1, HG.out.2.1, A, C, S, HG.out.2.2.1, HG.out.2.2.2.1, HG.out.2.2.2.2.1, HG.out.2.2.2.2.2.1, hSo, by rw [hSi, HG.out.2.2.2.2.2.2.1, HG.out.2.2.2.2.2.2.2], by rw [HSZ.out.1, HSZ.out.2]; exact h60, rfl, rfl⟩
            have HSK : Hid (∀ p ∈ S.ino, p.1.size ≤ 2 ^ 20) := by rw [hSi]; exact HK20
            obtain ⟨_, ⟨r3, f3, q3⟩, _⟩ := HK.out W3 HB3.out
            obtain ⟨iN, hi, hz0, hz1, hz2⟩ := info_parts infoPr
            have HI : Hid (Try.prog.info? 40 = some iN ∧ iN.zero = some (.agg #[.string ⟨#[]⟩, .string ⟨#[]⟩]) ∧ iN.size = 2 ∧ iN.bytes = 32) := ⟨hi, hz0, hz1, hz2⟩
            have HOE : Hid True := trivial
            have HBE : Hid (Below W3.heap.size W3 (W3.alloc (.cells #[] 40))) := (Below.refl _ _).alloc (Nat.le_refl _) _
            have HSE : Hid (W3.heap.size ≤ (W3.alloc (.cells #[] 40)).heap.size) := HBE.out.size
            have HP1 : Hid (PartT (W3.alloc (.cells #[] 40)) ax m cx 2 (prCells x)) := (HPX.out _ HBE.out).1
            clear hSo hSi hW3 hb3 hi hz0 hz1 hz2 r2 f2 q2' HX HNOT HBAD
            go_wp2_with (at_builtin; refine wpList_append_partT rfl _ _ 36 rfl W3.heap.size 40 iN _ 2 32 Try.underlying36 HI.out.1 HI.out.2.1 HI.out.2.2.1 HI.out.2.2.2 rfl (by decide) _ 0 [] rfl (World.ownsRow_lit W3 #[] 0 (Nat.le_refl _) (by decide) rfl) ax m cx (prCells x) rfl HP1.out (by unfold maxLen; omega) (by omega) (by simp) ?_)
            intro v6 w6 hown6 hg6
            have HO6 : Hid (OwnsP w6 W3.heap.size v6 x) := by
              show OwnsP _ _ _ _
              unfold OwnsP
              rw [← HM.out]
              simpa using hown6
            have hb6 : Below W3.heap.size W3 w6 := grown_belowT HBE.out (by simp) (World.ownsRow_lit (base := W3.heap.size) (e := 40) (size := 2) W3 #[] 0 (Nat.le_refl _) (by decide) rfl) hg6
            have HP6 : Hid (PartT w6 ay k cy 2 (prCells y)) := (HPX.out w6 hb6).2
            have HB6 : Hid (Below W3.heap.size W3 w6) := hb6
            have z6 := hb6.size
            obtain ⟨a6, c6, rfl⟩ := HO6.out.form
            have hxl : x.length ≤ 60 := by rw [← HM.out]; omega
            clear hown6 hg6 hb6 HP1 HOE HSE HBE
            go_wp2_with (at_builtin; refine wpList_append_partT rfl _ _ 36 rfl W3.heap.size 40 iN _ 2 32 Try.underlying36 HI.out.1 HI.out.2.1 HI.out.2.2.1 HI.out.2.2.2 rfl (by decide) _ x.length (prCells x) rfl HO6.out ay k cy (prCells y) rfl HP6.out (by unfold maxLen; omega) (by omega) z6 ?_)
            intro v7 w7 hown7 hg7
            have HO7 : Hid (OwnsP w7 W3.heap.size v7 (x ++ y)) := by
              show OwnsP _ _ _ _
              unfold OwnsP
              rw [pr_app, List.length_append, ← HKY.out]
              exact hown7
            have hb7 : Below W3.heap.size W3 w7 := grown_belowT HB6.out z6 HO6.out hg7
            have HB7 : Hid (Below W3.heap.size W3 w7) := hb7
            have z7 := hb7.size
            have HSRC : Hid (PSrc w7 v7 S.ino (fun _ => True)) := by rw [HSS.out.2]; exact HO7.out.src.any
            obtain ⟨a7, c7, rfl⟩ := HO7.out.form
            obtain ⟨m7, hm7⟩ : ∃ m, m = (x ++ y).length := ⟨_, rfl⟩
            rw [← hm7] at HSRC ⊢
            clear hown7 hg7 hb7 hm7 HO7 HO6 HP6 HPX
            go_wp2_with fail
            refine (l7Treap_any S _ _ HSRC.out HSS.out.1 HSK.out (by have := HSZ2.out; omega)).mono ?_
            rintro e w8 ⟨a8, c8, rfl, ho8, hb8⟩
            have hB8 := HB3.out.trans ((HB7.out.trans (hb8.mono z7)).mono (by omega))
            obtain ⟨g8, ⟨r8, f8, q8⟩, _⟩ := HK.out w8 hB8
            (
              obtain ⟨gb, hgb, hR8⟩ := own_of_row ho8 (by rw [Bt.limbs_len]; have := HSZ2.out; omega) zeroLb
              have HGB : Hid (S.limbs 0 ≠ [] → w.heap.size + 1 + 1 < gb) := fun h => by have := hgb h; omega
              have HRS : Hid (∀ u, OwnR (w8.setCell ⟨w.heap.size + 1 + 1, 0, none⟩ u) gb (.slice a8 (S.limbs 0).length c8) (S.limbs 0).length (lbAt (S.limbs 0))) := fun u => hR8.but2 (BelowBut.setCell _ _ _) (fun h => by
                have := HGB.out (fun e => h (by rw [e]; rfl))
                omega)
              have HW8 : Hid (Below w.heap.size w w8) := g8
              obtain ⟨L, hL⟩ : ∃ L, L = S.limbs 0 := ⟨_, rfl⟩
              rw [← hL] at HRS HGB HD ⊢
              obtain ⟨m8, hm8⟩ : ∃ m, m = L.length := ⟨_, rfl⟩
              rw [← hm8] at HRS ⊢
              have HM8 : Hid (m8 = L.length) := hm8
              clear hL hm8 hR8 hgb g8 ho8 hb8 hB8
              go_wp2_with fail
              refine bodyPost_ret (v := .tuple #[.agg #[.slice a8 m8 c8], .bool true]) (by simp [results, Try.results5, go_sem, r8]) rfl ⟨_, _, gb, L, rfl, HD.out, fun h => by have := HGB.out h; omega, ?_, HKS.out _ _ HW8.out⟩
              rw [← HM8.out]
              exact HRS.out _)
          · obtain ⟨⟨pk, pv⟩, hp⟩ : ∃ p, x[x.length - 1]? = some p := ⟨x[x.length - 1]'(by have := HM.out; omega), List.getElem?_eq_getElem _⟩
            obtain ⟨⟨qk, qv⟩, hq⟩ : ∃ p, y[0]? = some p := ⟨y[0]'(by have := HKY.out; omega), List.getElem?_eq_getElem _⟩
            have HEND := below_ends HSR.out.1 HSR.out.2 hp hq
            obtain ⟨bx, ox, hax, hbx, hPX⟩ : ∃ b off, ax = some ⟨b, off, none⟩ ∧ b < w2.heap.size ∧ PAt w2 b off x := by
              obtain ⟨a', c', e', hc', h0 | ⟨b, off, e2, hb, _, hat⟩⟩ := HX2.out.src
              · have := HM.out; rw [h0] at this; exact absurd this hm0
              · simp only [Value.slice.injEq] at e'
                exact ⟨b, off, by rw [e'.1, e2], hb, hat⟩
            obtain ⟨by1, oy, hay, hby, hPY⟩ : ∃ b off, ay = some ⟨b, off, none⟩ ∧ b < w2.heap.size ∧ PAt w2 b off y := by
              obtain ⟨a', c', e', hc', h0 | ⟨b, off, e2, hb, _, hat⟩⟩ := HY.out.1.src
              · have := HKY.out; rw [h0] at this; exact absurd this hk0
              · simp only [Value.slice.injEq] at e'
                exact ⟨b, off, by rw [e'.1, e2], hb, hat⟩
            subst hax hay
            have d0 := (hPX _ _ hp).1
            rw [← HM.out] at d0
            have d1 := (hPY _ _ hq).1
            simp only [Nat.zero_mul, Nat.add_zero] at d1
            dsimp only at d0 d1 HEND
            obtain ⟨mp, hmp⟩ : ∃ mp, m = mp + 1 := ⟨m - 1, by omega⟩
            have e1 : decide ((0 : Int) < (m : Int)) = true := by simp; omega
            have e1' : decide (0 < m) = true := by simp; omega
            have e2 : decide ((0 : Int) < (k : Int)) = true := by simp; omega
            have e2' : decide (0 < k) = true := by simp; omega
            have j0 : (0 : Int) ≤ (m : Int) - 1 := by omega
            have j1 : (m : Int) - 1 < (m : Int) := by omega
            have j2 : ((m : Int) - 1).toNat = m - 1 := by omega
            have j3 : (0 : Int) < (k : Int) := by omega
            have j4 : IntKind.i64.wrap ((m : Int) - 1) = (m : Int) - 1 := by rw [IntKind.wrap_i64]; omega
            have HM0 : Hid (m ≠ 0 ∧ k ≠ 0) := ⟨hm0, hk0⟩
            clear hm0 hk0 hp hq hmp hPX hPY
            cases hlk : Op.bytesLess pk.toList qk.toList with
            | true =>
              have HAB : Hid (AllBelow x y) := HEND.2 hlk
              clear HEND
              go_wp2_with fail
              go_big_quiet (fail)
              obtain ⟨W3, hW3⟩ : ∃ W, W = w2.drewN nq := ⟨_, rfl⟩
              have hb3 : Below w2.heap.size w2 W3 := by rw [hW3]; exact drewN_belowT (Below.refl _ _) _
              have z3 : w2.heap.size ≤ W3.heap.size := by rw [hW3]; exact Nat.le_refl _
              rw [← hW3]
              have HB3 : Hid (Below W0.heap.size W0 W3) := HB2.out.trans (hb3.mono (by omega))
              have HPX : Hid (∀ w', Below W3.heap.size W3 w' → PartT w' (some ⟨bx, ox, none⟩) m cx 2 (prCells x) ∧ PartT w' (some ⟨by1, oy, none⟩) k cy 2 (prCells y)) := fun w' h => by
                have hb : Below w2.heap.size w2 w' := hb3.trans (h.mono (by omega))
                exact ⟨(HX2.out.below hb).part.1, (HY.out.1.below hb).part.1⟩
              obtain ⟨S, hSo, hSi⟩ := tree_of_row (x ++ y) (srt_app.2 ⟨HSR.out.1, HSR.out.2, HAB.out⟩)
              have HSS : Hid (S.ok ∧ S.ino = x ++ y) := ⟨hSo, hSi⟩
              have HSZ2 : Hid (S.sz ≤ 60) := by
                show _ ≤ _
                rw [← Bt.ino_len, hSi, List.length_append, ← HM.out, ← HKY.out]
                exact h60
              have HD : Hid (JTold (lbs n N) (lbs n' N') true (S.limbs 0)) := .inl ⟨HG.out.1, HG.out.2.1, A, C, S, HG.out.2.2.1, HG.out.2.2.2.1, HG.out.2.2.2.2.1, HG.out.2.2.2.2.2.1, hSo, by rw [hSi, HG.out.2.2.2.2.2.2.1, HG.out.2.2.2.2.2.2.2], by rw [HSZ.out.1, HSZ.out.2]; exact h60, rfl, rfl⟩
              have HSK : Hid (∀ p ∈ S.ino, p.1.size ≤ 2 ^ 20) := by rw [hSi]; exact HK20
              obtain ⟨_, ⟨r3, f3, q3⟩, _⟩ := HK.out W3 HB3.out
              obtain ⟨iN, hi, hz0, hz1, hz2⟩ := info_parts infoPr
              have HI : Hid (Try.prog.info? 40 = some iN ∧ iN.zero = some (.agg #[.string ⟨#[]⟩, .string ⟨#[]⟩]) ∧ iN.size = 2 ∧ iN.bytes = 32) := ⟨hi, hz0, hz1, hz2⟩
              have HOE : Hid True := trivial
              have HBE : Hid (Below W3.heap.size W3 (W3.alloc (.cells #[] 40))) := (Below.refl _ _).alloc (Nat.le_refl _) _
              have HSE : Hid (W3.heap.size ≤ (W3.alloc (.cells #[] 40)).heap.size) := HBE.out.size
              have HP1 : Hid (PartT (W3.alloc (.cells #[] 40)) (some ⟨bx, ox, none⟩) m cx 2 (prCells x)) := (HPX.out _ HBE.out).1
              clear hSo hSi hW3 hb3 hi hz0 hz1 hz2 r2 f2 q2' HX HNOT HBAD
              go_wp2_with (at_builtin; refine wpList_append_partT rfl _ _ 36 rfl W3.heap.size 40 iN _ 2 32 Try.underlying36 HI.out.1 HI.out.2.1 HI.out.2.2.1 HI.out.2.2.2 rfl (by decide) _ 0 [] rfl (World.ownsRow_lit W3 #[] 0 (Nat.le_refl _) (by decide) rfl) (some ⟨bx, ox, none⟩) m cx (prCells x) rfl HP1.out (by unfold maxLen; omega) (by omega) (by simp) ?_)
              intro v6 w6 hown6 hg6
              have HO6 : Hid (OwnsP w6 W3.heap.size v6 x) := by
                show OwnsP _ _ _ _
                unfold OwnsP
                rw [← HM.out]
                simpa using hown6
              have hb6 : Below W3.heap.size W3 w6 := grown_belowT HBE.out (by simp) (World.ownsRow_lit (base := W3.heap.size) (e := 40) (size := 2) W3 #[] 0 (Nat.le_refl _) (by decide) rfl) hg6
              have HP6 : Hid (PartT w6 (some ⟨by1, oy, none⟩) k cy 2 (prCells y)) := (HPX.out w6 hb6).2
              have HB6 : Hid (Below W3.heap.size W3 w6) := hb6
              have z6 := hb6.size
              obtain ⟨a6, c6, rfl⟩ := HO6.out.form
              have hxl : x.length ≤ 60 := by rw [← HM.out]; omega
              clear hown6 hg6 hb6 HP1 HOE HSE HBE
              go_wp2_with (at_builtin; refine wpList_append_partT rfl _ _ 36 rfl W3.heap.size 40 iN _ 2 32 Try.underlying36 HI.out.1 HI.out.2.1 HI.out.2.2.1 HI.out.2.2.2 rfl (by decide) _ x.length (prCells x) rfl HO6.out (some ⟨by1, oy, none⟩) k cy (prCells y) rfl HP6.out (by unfold maxLen; omega) (by omega) z6 ?_)
              intro v7 w7 hown7 hg7
              have HO7 : Hid (OwnsP w7 W3.heap.size v7 (x ++ y)) := by
                show OwnsP _ _ _ _
                unfold OwnsP
                rw [pr_app, List.length_append, ← HKY.out]
                exact hown7
              have hb7 : Below W3.heap.size W3 w7 := grown_belowT HB6.out z6 HO6.out hg7
              have HB7 : Hid (Below W3.heap.size W3 w7) := hb7
              have z7 := hb7.size
              have HSRC : Hid (PSrc w7 v7 S.ino (fun _ => True)) := by rw [HSS.out.2]; exact HO7.out.src.any
              obtain ⟨a7, c7, rfl⟩ := HO7.out.form
              obtain ⟨m7, hm7⟩ : ∃ m, m = (x ++ y).length := ⟨_, rfl⟩
              rw [← hm7] at HSRC ⊢
              clear hown7 hg7 hb7 hm7 HO7 HO6 HP6 HPX
              go_wp2_with fail
              refine (l7Treap_any S _ _ HSRC.out HSS.out.1 HSK.out (by have := HSZ2.out; omega)).mono ?_
              rintro e w8 ⟨a8, c8, rfl, ho8, hb8⟩
              have hB8 := HB3.out.trans ((HB7.out.trans (hb8.mono z7)).mono (by omega))
              obtain ⟨g8, ⟨r8, f8, q8⟩, _⟩ := HK.out w8 hB8
              (
                obtain ⟨gb, hgb, hR8⟩ := own_of_row ho8 (by rw [Bt.limbs_len]; have := HSZ2.out; omega) zeroLb
                have HGB : Hid (S.limbs 0 ≠ [] → w.heap.size + 1 + 1 < gb) := fun h => by have := hgb h; omega
                have HRS : Hid (∀ u, OwnR (w8.setCell ⟨w.heap.size + 1 + 1, 0, none⟩ u) gb (.slice a8 (S.limbs 0).length c8) (S.limbs 0).length (lbAt (S.limbs 0))) := fun u => hR8.but2 (BelowBut.setCell _ _ _) (fun h => by
                  have := HGB.out (fun e => h (by rw [e]; rfl))
                  omega)
                have HW8 : Hid (Below w.heap.size w w8) := g8
                obtain ⟨L, hL⟩ : ∃ L, L = S.limbs 0 := ⟨_, rfl⟩
                rw [← hL] at HRS HGB HD ⊢
                obtain ⟨m8, hm8⟩ : ∃ m, m = L.length := ⟨_, rfl⟩
                rw [← hm8] at HRS ⊢
                have HM8 : Hid (m8 = L.length) := hm8
                clear hL hm8 hR8 hgb g8 ho8 hb8 hB8
                go_wp2_with fail
                refine bodyPost_ret (v := .tuple #[.agg #[.slice a8 m8 c8], .bool true]) (by simp [results, Try.results5, go_sem, r8]) rfl ⟨_, _, gb, L, rfl, HD.out, fun h => by have := HGB.out h; omega, ?_, HKS.out _ _ HW8.out⟩
                rw [← HM8.out]
                exact HRS.out _)
            | false =>
              have HD := HBAD.out (.inr (fun h => by
                have := HEND.1 h
                unfold kLt at this
                rw [hlk] at this
                cases this))
              clear HEND
              go_wp2_with fail
              go_big_quiet (fail)
              go_wp2_with fail
              exact bodyPost_ret (v := .tuple #[.agg #[.slice none 0 0], .bool false]) (by simp [results, Try.results5, go_sem, r2]) rfl (HNOT.out HD _ (HKS.out _ _ (drewN_belowT HW2.out _)))
      · have h60' : (60 : Int) < (m : Int) + (k : Int) := by omega
        have HD := HBAD.out (.inl (by omega))
        have h60d : decide ((60 : Int) < (m : Int) + (k : Int)) = true := decide_eq_true h60'
        go_wp2_with fail
        go_big_quiet (fail)
        go_wp2_with fail
        exact bodyPost_ret (v := .tuple #[.agg #[.slice none 0 0], .bool false]) (by simp [results, Try.results5, go_sem, r2]) rfl (HNOT.out HD _ (HKS.out _ _ (drewN_belowT HW2.out _)))
end Go.Proofs.Ytnmbnebofbdmfaa
