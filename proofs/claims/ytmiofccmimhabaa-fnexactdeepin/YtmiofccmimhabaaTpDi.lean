/- FnExactDeepIn answers true at every treap: DeepIn answers as the specification and writes into nothing. -/
import Derived.Test.YtmiofccmimhabaaTpD
namespace Go.Proofs.Ytmiofccmimhabaa
open Go.RowKit
set_option linter.unusedVariables false

set_option maxHeartbeats 1000000 in
theorem implDeepIn_any (n c : Nat) (a : Option Addr) (N : Nat → Lb) (w : World) (h : RowIs w w.heap.size (.slice a n c) n N) (hs : SmallR n N) :
    Calls Try.prog 34 #[.agg #[.slice a n c]] w fun e w' => ∃ (d : Int) (q : Bool), e = .returned (.tuple #[.int .i64 d, .bool q]) ∧ DpTold (lbs n N) d q ∧ Below w.heap.size w w' := by
  have HR : Hid (RowIs w w.heap.size (.slice a n c) (lbs n N).length (lbAt (lbs n N))) := h.list
  have HS : Hid ((lbs n N).length ≤ 2 ^ 20 ∧ ∀ x ∈ lbs n N, x.key.size ≤ 2 ^ 20 ∧ x.val.size ≤ 2 ^ 20) := hs.list
  clear h hs
  go_enter Try.func34, Try.ntmps34
  go_wp2_with fail
  have hal : ∀ o, Below w.heap.size w (w.alloc o) := fun o => (Below.refl _ _).alloc (Nat.le_refl _) o
  refine (treeOf_any (lbs n N) _ _ (HR.out.below (hal _) (by simp)) HS.out.1 HS.out.2).mono ?_
  rintro e w1 ⟨⟨hg, T, rfl, hT, _, hTo, hTl, _⟩ | ⟨hg, rfl⟩, hb0⟩
  · have HB : Hid (Below w.heap.size w w1) := (hal _).trans (hb0.mono (by simp))
    have HT : Hid (BrAt w1 T ∧ T.sz ≤ 2 ^ 20) := ⟨hT, by rw [← T.limbs_len 0, hTl]; exact HS.out.1⟩
    have HD : Hid (DpTold (lbs n N) (T.dep : Int) true) := .inl ⟨hg, rfl, T, hTo, hTl, rfl⟩
    clear hg hb0 hT hTo hTl hal
    go_wp2_with fail
    refine (dep_any T _ HT.out.1 HT.out.2).mono ?_
    rintro e w2 ⟨rfl, m, rfl⟩
    go_wp2_with fail
    exact bodyPost_ret (v := .tuple #[.int .i64 (T.dep : Int), .bool true]) (by simp [results, Try.results34, go_sem]) rfl ⟨_, _, rfl, HD.out, drewN_belowT HB.out _⟩
  · have HB : Hid (Below w.heap.size w w1) := (hal _).trans (hb0.mono (by simp))
    have HD : Hid (DpTold (lbs n N) 0 false) := .inr ⟨hg, rfl, rfl⟩
    clear hg hb0 hal
    go_wp2_with fail
    refine (dep_any .nil _ trivial (by simp [Bt.sz])).mono ?_
    rintro e w2 ⟨rfl, m, rfl⟩
    show _
    go_wp2_with fail
    exact bodyPost_ret (v := .tuple #[.int .i64 ((Bt.nil.dep : Nat) : Int), .bool false]) (by simp [results, Try.results34, go_sem]) rfl ⟨_, _, rfl, HD.out, drewN_belowT HB.out _⟩

set_option maxHeartbeats 1000000 in
theorem specDeepIn_any (n c : Nat) (a : Option Addr) (N : Nat → Lb) (w : World) (h : RowIs w w.heap.size (.slice a n c) n N) (hs : SmallR n N) :
    Calls Try.prog 33 #[.agg #[.slice a n c]] w fun e w' => ∃ (d : Int) (q : Bool), e = .returned (.tuple #[.int .i64 d, .bool q]) ∧ DpTold (lbs n N) d q ∧ Below w.heap.size w w' := by
  have HR0 : Hid (RowIs w w.heap.size (.slice a n c) n N) := h
  have HS : Hid (SmallR n N) := hs
  clear h hs
  go_enter Try.func33, Try.ntmps33
  go_wp2_with fail
  obtain ⟨W0, hW0⟩ : ∃ W0, W0 = w.alloc (.cells #[.slice a n c] 31) := ⟨_, rfl⟩
  have b0 : Below w.heap.size w W0 := by rw [hW0]; exact (Below.refl _ _).alloc (Nat.le_refl _) _
  have z0 : W0.heap.size = w.heap.size + 1 := by rw [hW0]; simp
  have t0 : W0.cell? ⟨w.heap.size, 0, none⟩ = some (.slice a n c) := by rw [hW0]; simp [go_sem]
  rw [← hW0]
  have HR : Hid (∀ w', Below W0.heap.size W0 w' → RowIs w' w'.heap.size (.slice a n c) n N ∧ Below w.heap.size w w') := fun w' h => by
    have hb := b0.trans (h.mono (by omega))
    exact ⟨HR0.out.below hb hb.size, hb⟩
  clear hW0 b0
  refine (specGoodT_any n c a N _ (HR.out _ (Below.refl _ _)).1 HS.out).mono ?_
  rintro e w1 ⟨q, rfl, hq, hb1⟩
  have HQ : Hid (q = true ↔ GoodL (lbs n N)) := hq
  have HB1 : Hid (Below W0.heap.size W0 w1) := hb1
  have t1 : w1.cell? ⟨w.heap.size, 0, none⟩ = some (.slice a n c) := (hb1.cell (by show w.heap.size < _; omega)).trans t0
  have z1 := hb1.size
  clear hq hb1 t0
  cases q with
  | false =>
    have HG : Hid (¬ GoodL (lbs n N)) := fun h => by have := HQ.out.2 h; cases this
    go_wp2_with fail
    exact bodyPost_ret (v := .tuple #[.int .i64 0, .bool false]) (by simp [results, Try.results33, go_sem]) rfl ⟨_, _, rfl, .inr ⟨HG.out, rfl, rfl⟩, (HR.out _ HB1.out).2⟩
  | true =>
    have hg := HQ.out.1 rfl
    have HG : Hid (GoodL (lbs n N)) := hg
    obtain ⟨hL, _, T, hTo, hTl⟩ := hg
    have hn60 : n ≤ 60 := by rw [lbs_len] at hL; exact hL
    have HT : Hid (T.ok ∧ T.limbs 0 = lbs n N) := ⟨hTo, hTl⟩
    clear hL hTo hTl HQ
    by_cases hn0 : n = 0
    · subst hn0
      have HE : Hid ((T.dep : Int) = 0) := by
        have h1 := T.dep_sz
        have h2 := T.limbs_len 0
        rw [HT.out.2, lbs_len] at h2
        show _ = _
        omega
      go_wp2_with fail
      exact bodyPost_ret (v := .tuple #[.int .i64 0, .bool true]) (by simp [results, Try.results33, go_sem]) rfl ⟨_, _, rfl, .inl ⟨HG.out, rfl, T, HT.out.1, HT.out.2, HE.out.symm⟩, (HR.out _ HB1.out).2⟩
    · have hn0' : ¬ (n : Int) = 0 := by omega
      have HTP : Hid (T.top 0 = 0) := by
        show _ = _
        cases T with
        | nil =>
          have := congrArg List.length HT.out.2
          rw [lbs_len] at this
          simp [Bt.limbs] at this
          omega
        | node => rfl
      have HDC : Hid (∀ w', RowIs w' w'.heap.size (.slice a n c) n N → Calls Try.prog 55 #[.agg #[.slice a n c], .int .i64 0] w' fun e w'' => e = .returned (.int .i64 (T.dep : Int)) ∧ Below w'.heap.size w' w'') := fun w' hr => by
        have := deep_any T 0 n N a c w' (fun i x hx => by
          rw [HT.out.2] at hx
          obtain ⟨hi, rfl⟩ := List.getElem?_eq_some_iff.1 hx
          rw [Nat.zero_add]
          simp [lbs]) (by have := T.limbs_len 0; rw [HT.out.2, lbs_len] at this; omega) hn60 hr
        rw [HTP.out] at this
        exact this
      go_wp2_with fail
      refine (HDC.out _ (HR.out _ HB1.out).1).mono ?_
      rintro e w2 ⟨rfl, hb2⟩
      have HB2 : Hid (Below w.heap.size w w2) := (HR.out _ (HB1.out.trans (hb2.mono z1))).2
      clear hb2
      go_wp2_with fail
      exact bodyPost_ret (v := .tuple #[.int .i64 (T.dep : Int), .bool true]) (by simp [results, Try.results33, go_sem]) rfl ⟨_, _, rfl, .inl ⟨HG.out, rfl, T, HT.out.1, HT.out.2, rfl⟩, HB2.out⟩

set_option maxRecDepth 100000 in
set_option maxHeartbeats 2000000 in
theorem deepIn_law (a : Option Addr) (c n : Nat) (N : Nat → Lb) (w : World) (hn : n ≤ maxLen) (h : ArgR w a n N) (hz : ∀ i, i < n → (N i).key.size ≤ maxLen ∧ (N i).val.size ≤ maxLen) :
    Calls Try.prog 10 #[.agg #[.slice a n c]] w fun e w' => e = .returned (.bool true) ∧ Below w.heap.size w w' := by
  have HZ : Hid (∀ i, i < n → (N i).key.size ≤ maxLen ∧ (N i).val.size ≤ maxLen) := hz
  have H : Hid (ArgR w a n N) := h
  clear hz h
  go_enter Try.func10, Try.ntmps10
  go_wp2_with fail
  have hbl0 : ∀ o, Below w.heap.size w (w.alloc o) := fun o => (Below.refl _ _).alloc (Nat.le_refl _) o
  refine (szTreap_any a c n N _ hn (H.out.below (hbl0 _)) HZ.out).mono ?_
  rintro e w1 ⟨r, rfl, hr, hb1⟩
  have x1 : w1.cell? ⟨w.heap.size, 0, none⟩ = some (.slice a n c) := by rw [hb1.cell (by simp)]; simp [go_sem]
  have HB1 : Hid (Below w.heap.size w w1) := (hbl0 _).trans (hb1.mono (by simp))
  have z1 : w.heap.size < w1.heap.size := by have := hb1.size; simp at this; omega
  clear hb1 hbl0
  rcases hr with rfl | ⟨r0, hsm⟩
  · go_wp2
    go_ret
    exact ⟨rfl, HB1.out⟩
  have HSM : Hid (SmallR n N) := hsm
  have n20 : n ≤ 2 ^ 20 := hsm.1
  have r1 : ¬ r < 0 := by omega
  clear hsm
  go_wp2_with fail
  refine (toTreap_any a c n N _ n20 (H.out.below HB1.out)).mono ?_
  rintro e w2 ⟨b2, a2, c2, rfl, l2, m2, ho2, hb2⟩
  have x2 : w2.cell? ⟨w.heap.size, 0, none⟩ = some (.slice a n c) := (hb2.cell z1).trans x1
  have HB2 : Hid (Below w.heap.size w w2) := HB1.out.trans (hb2.mono HB1.out.size)
  have z2 : w.heap.size < w2.heap.size := by have := hb2.size; omega
  have HO2 : Hid (OwnR w2 b2 (.slice a2 n c2) n N) := ho2
  clear ho2 hb2 l2 m2
  go_wp2_with fail
  refine (specDeepIn_any n c2 a2 N _ HO2.out.row HSM.out).mono ?_
  rintro e w3 ⟨d, q, rfl, hq, hb3⟩
  have HQ : Hid (DpTold (lbs n N) d q) := hq
  have x3 : w3.cell? ⟨w.heap.size, 0, none⟩ = some (.slice a n c) := (hb3.cell z2).trans x2
  have HB3 : Hid (Below w.heap.size w w3) := HB2.out.trans (hb3.mono HB2.out.size)
  have z3 : w.heap.size < w3.heap.size := by have := hb3.size; omega
  clear hb3 hq HO2
  go_wp2_with fail
  refine (toTreap_any a c n N _ n20 (H.out.below HB3.out)).mono ?_
  rintro e w4 ⟨b4, a4, c4, rfl, l4, m4, ho4, hb4⟩
  have x4 : w4.cell? ⟨w.heap.size, 0, none⟩ = some (.slice a n c) := (hb4.cell z3).trans x3
  have HB4 : Hid (Below w.heap.size w w4) := HB3.out.trans (hb4.mono HB3.out.size)
  have z4 : w.heap.size < w4.heap.size := by have := hb4.size; omega
  have HO4 : Hid (OwnR w4 b4 (.slice a4 n c4) n N) := ho4
  clear ho4 hb4 l4 m4
  go_wp2_with fail
  have hal : ∀ o, Below w4.heap.size w4 (w4.alloc o) := fun o => (Below.refl _ _).alloc (Nat.le_refl _) o
  refine (implDeepIn_any n c4 a4 N _ (HO4.out.below (hal _)).row HSM.out).mono ?_
  rintro e w5 ⟨d', g, rfl, hg, hb5⟩
  obtain ⟨rfl, rfl⟩ := hg.same HQ.out
  have x5 : w5.cell? ⟨w.heap.size, 0, none⟩ = some (.slice a n c) := by rw [hb5.cell (by simp; omega)]; simp [World.cell?_alloc_past, z4, x4]
  have y5 : w5.cell? ⟨w4.heap.size, 0, none⟩ = some (.slice a4 n c4) := by rw [hb5.cell (by simp)]; simp [World.cell?_alloc_new]
  have hbb : Below w4.heap.size w4 w5 := (hal _).trans (hb5.mono (by simp))
  have HB5 : Hid (Below w.heap.size w w5) := HB4.out.trans (hbb.mono HB4.out.size)
  have z5 : w4.heap.size < w5.heap.size := by have := hb5.size; simp at this; omega
  have z5' : w.heap.size < w5.heap.size := by omega
  have HO5 : Hid (OwnR w5 b4 (.slice a4 n c4) n N) := HO4.out.below hbb
  clear hb5 hbb hal hg HO4
  go_wp2_with fail
  go_region_held3 (fun w' => w'.cell? ⟨w.heap.size, 0, none⟩ = some (.slice a n c) ∧ w'.cell? ⟨w4.heap.size, 0, none⟩ = some (.slice a4 n c4)) (first | exact ⟨x5, y5⟩ | exact ⟨(hc7 _ _ (Nat.lt_of_lt_of_le z5' zz6)).trans ((hc6 _ _ z5').trans x5), (hc7 _ _ (Nat.lt_of_lt_of_le z5 zz6)).trans ((hc6 _ _ z5).trans y5)⟩ | exact ⟨(hc6 _ _ z5').trans x5, (hc6 _ _ z5).trans y5⟩)
    (first | (go_at_call 15; refine (toTreap_any a c n N _ n20 (H.out.below (HB5.out.drew))).mono ?_; rintro e w6 ⟨b6, a6, c6, rfl, l6, m6, ho6, hb6⟩; obtain ⟨hc6, hf6⟩ := bcell hb6; have zz6 := hb6.size) | (go_at_call 17; refine (eqTreap_any _ _ n N _ ((HO5.out.below ((Below.refl _ w5).drew.trans hb6)).row) ho6.row).mono ?_; rintro e w7 ⟨rfl, hb7⟩; obtain ⟨hc7, hf7⟩ := bcell hb7))
  go_wp2
  go_ret
  exact ⟨rfl, (HB5.out.drew.trans (hb6.mono HB5.out.size)).trans (hb7.mono (Nat.le_trans HB5.out.size zz6))⟩

end Go.Proofs.Ytmiofccmimhabaa
