/- Two treaps joined: the program's JoinTreaps. -/
import Derived.Test.YtnmbnebofbdmfaaTpJ
import Derived.Test.YtnmbnebofbdmfaaTpXc
namespace Go.Proofs.Ytnmbnebofbdmfaa
open Go.RowKit
set_option linter.unusedVariables false

def AllBelow (l m : List Pr) : Prop := ∀ p ∈ l, ∀ q ∈ m, kLt p.1 q.1
theorem belowB_iff (s t : Bt) : belowB s t = true ↔ AllBelow s.ino t.ino := by
  unfold belowB AllBelow Bt.keys
  simp only [List.all_eq_true, List.mem_map, forall_exists_index, and_imp, forall_apply_eq_imp_iff₂]
  exact Iff.rfl
theorem srt_app {l m : List Pr} : Srt (l ++ m) ↔ Srt l ∧ Srt m ∧ AllBelow l m := List.pairwise_append
/-- What JoinTreaps tells. -/
def JTold (La Lc : List Lb) (q : Bool) (L : List Lb) : Prop :=
  (GoodL La ∧ GoodL Lc ∧ ∃ A C T : Bt, A.ok ∧ A.limbs 0 = La ∧ C.ok ∧ C.limbs 0 = Lc ∧ T.ok ∧ T.ino = A.ino ++ C.ino ∧ A.sz + C.sz ≤ 60 ∧ q = true ∧ L = T.limbs 0) ∨
  ((GoodL La → GoodL Lc → ∃ A C : Bt, A.ok ∧ A.limbs 0 = La ∧ C.ok ∧ C.limbs 0 = Lc ∧ (60 < A.sz + C.sz ∨ ¬ AllBelow A.ino C.ino)) ∧ q = false ∧ L = [])
theorem ino_of_limbs {S T : Bt} {Ls : List Lb} (hS : S.limbs 0 = Ls) (hT : T.limbs 0 = Ls) : S.ino = T.ino := by
  rw [← Bt.ino_sh S, limbs_shape S T 0 (hS.trans hT.symm), Bt.ino_sh]
theorem JTold.same {La Lc : List Lb} {q q' : Bool} {L L' : List Lb} (h : JTold La Lc q L) (k : JTold La Lc q' L') : q = q' ∧ L = L' := by
  rcases h with ⟨h1, h1', A, C, T, _, h2, _, h3, h5, h6, h7, rfl, rfl⟩ | ⟨h1, rfl, rfl⟩
  · rcases k with ⟨k1, k1', A', C', S, _, k2, _, k3, k5, k6, k7, rfl, rfl⟩ | ⟨k1, rfl, rfl⟩
    · refine ⟨rfl, ?_⟩
      rw [← Bt.limbs_sh T, ← Bt.limbs_sh S, one_shape T S h5 k5 (by rw [h6, k6, ino_of_limbs h2 k2, ino_of_limbs h3 k3])]
    · obtain ⟨A', C', _, k2, _, k3, k4⟩ := k1 h1 h1'
      exfalso
      rcases k4 with k4 | k4
      · rw [← Bt.ino_len A', ← Bt.ino_len C', ino_of_limbs k2 h2, ino_of_limbs k3 h3, Bt.ino_len, Bt.ino_len] at k4
        omega
      · rw [ino_of_limbs k2 h2, ino_of_limbs k3 h3] at k4
        exact k4 (srt_app.1 (by rw [← h6]; exact h5.1)).2.2
  · rcases k with ⟨k1, k1', A', C', S, _, k2, _, k3, k5, k6, k7, rfl, rfl⟩ | ⟨k1, rfl, rfl⟩
    · obtain ⟨A, C, _, h2, _, h3, h4⟩ := h1 k1 k1'
      exfalso
      rcases h4 with h4 | h4
      · rw [← Bt.ino_len A, ← Bt.ino_len C, ino_of_limbs h2 k2, ino_of_limbs h3 k3, Bt.ino_len, Bt.ino_len] at h4
        omega
      · rw [ino_of_limbs h2 k2, ino_of_limbs h3 k3] at h4
        exact h4 (srt_app.1 (by rw [← k6]; exact k5.1)).2.2
    · exact ⟨rfl, rfl⟩
theorem JTold.len {La Lc : List Lb} {q : Bool} {L : List Lb} (h : JTold La Lc q L) : L.length ≤ 60 := by
  rcases h with ⟨_, _, A, C, T, _, _, _, _, _, h6, h7, _, rfl⟩ | ⟨_, _, rfl⟩
  · rw [T.limbs_len 0, ← Bt.ino_len, h6, List.length_append, Bt.ino_len, Bt.ino_len]; exact h7
  · simp
/-- What JoinTreaps answers. -/
def JoinGot (La Lc : List Lb) (w : World) (e : Ending) (w' : World) : Prop := ∃ (v : Value) (q : Bool) (g : Nat) (L : List Lb), e = .returned (.tuple #[.agg #[v], .bool q]) ∧ JTold La Lc q L ∧ (L ≠ [] → w.heap.size ≤ g) ∧ OwnR w' g v L.length (lbAt L) ∧ Below w.heap.size w w'

set_option maxRecDepth 100000 in
set_option maxHeartbeats 1000000 in
theorem implJoin_own (n c n' c' : Nat) (a a' : Option Addr) (N N' : Nat → Lb) (w : World) (h : RowIs w w.heap.size (.slice a n c) n N) (hs : SmallR n N) (h' : RowIs w w.heap.size (.slice a' n' c') n' N') (hs' : SmallR n' N') :
    Calls Try.prog 7 #[.agg #[.slice a n c], .agg #[.slice a' n' c']] w (JoinGot (lbs n N) (lbs n' N') w) := by
  have HR : Hid (RowIs w w.heap.size (.slice a n c) (lbs n N).length (lbAt (lbs n N))) := h.list
  have HS : Hid ((lbs n N).length ≤ 2 ^ 20 ∧ ∀ x ∈ lbs n N, x.key.size ≤ 2 ^ 20 ∧ x.val.size ≤ 2 ^ 20) := hs.list
  have HR' : Hid (RowIs w w.heap.size (.slice a' n' c') (lbs n' N').length (lbAt (lbs n' N'))) := h'.list
  have HS' : Hid ((lbs n' N').length ≤ 2 ^ 20 ∧ ∀ x ∈ lbs n' N', x.key.size ≤ 2 ^ 20 ∧ x.val.size ≤ 2 ^ 20) := hs'.list
  have hn20 : n ≤ 2 ^ 20 ∧ n' ≤ 2 ^ 20 := ⟨hs.1, hs'.1⟩
  clear h hs h' hs'
  have HNO : Hid (∀ w' : World, OwnR w' 0 (.slice none 0 0) ([] : List Lb).length (lbAt [])) := fun w' => ⟨none, 0, 0, rfl, by simp, .inl rfl⟩
  go_enter Try.func7, Try.ntmps7
  go_wp2_with fail
  obtain ⟨W0, hW0⟩ : ∃ W0, W0 = ((w.alloc (.cells #[.slice a n c] 28)).alloc (.cells #[.slice a' n' c'] 28)).alloc (.cells #[.slice none 0 0] 28) := ⟨_, rfl⟩
  have b0 : Below w.heap.size w W0 := by rw [hW0]; exact (((Below.refl _ _).alloc (Nat.le_refl _) _).alloc (by simp) _).alloc (by simp; omega) _
  have z0 : W0.heap.size = w.heap.size + 1 + 1 + 1 := by rw [hW0]; simp
  have r0 : W0.cell? ⟨w.heap.size + 1 + 1, 0, none⟩ = some (.slice none 0 0) := by rw [hW0]; simp [go_sem]
  have f0 : W0.frozen? ⟨w.heap.size + 1 + 1, 0, none⟩ = false := by rw [hW0]; simp [go_sem]
  have s0 : W0.cell? ⟨w.heap.size, 0, none⟩ = some (.slice a n c) := by rw [hW0]; simp [go_sem]
  have t0 : W0.cell? ⟨w.heap.size + 1, 0, none⟩ = some (.slice a' n' c') := by rw [hW0]; simp [go_sem]
  rw [← hW0]
  have HB0 : Hid (Below w.heap.size w W0) := b0
  have HK : Hid (∀ w', Below W0.heap.size W0 w' → Below w.heap.size w w' ∧ (w'.cell? ⟨w.heap.size + 1 + 1, 0, none⟩ = some (.slice none 0 0) ∧ w'.frozen? ⟨w.heap.size + 1 + 1, 0, none⟩ = false ∧ w.heap.size + 1 + 1 < w'.heap.size) ∧ w'.cell? ⟨w.heap.size, 0, none⟩ = some (.slice a n c) ∧ w'.cell? ⟨w.heap.size + 1, 0, none⟩ = some (.slice a' n' c')) := fun w' h =>
    ⟨b0.trans (h.mono (by omega)), ⟨(h.cell (by show w.heap.size + 1 + 1 < _; omega)).trans r0, (h.frozen (by show w.heap.size + 1 + 1 < _; omega)).trans f0, by have := h.size; omega⟩, (h.cell (by show w.heap.size < _; omega)).trans s0, (h.cell (by show w.heap.size + 1 < _; omega)).trans t0⟩
  have HKS : Hid (∀ (w' : World) (u : Value), Below w.heap.size w w' → Below w.heap.size w (w'.setCell ⟨w.heap.size + 1 + 1, 0, none⟩ u)) := fun w' u h => h.setCell (by show w.heap.size ≤ w.heap.size + 1 + 1; omega) _
  clear hW0 b0 r0 f0 s0 t0
  refine (treeOf_any (lbs n N) _ _ (HR.out.below HB0.out (by omega)) HS.out.1 HS.out.2).mono ?_
  rintro e w1 h1
  have hb1 := h1.2
  have HB1 : Hid (Below W0.heap.size W0 w1) := hb1
  have z1 := hb1.size
  obtain ⟨p1, q1, he1⟩ : ∃ (p1 : Option Addr) (q1 : Bool), e = .returned (.tuple #[.pointer p1, .bool q1]) := by
    rcases h1.1 with ⟨_, T, e, _⟩ | ⟨_, e⟩
    · exact ⟨_, _, e⟩
    · exact ⟨_, _, e⟩
  subst he1
  have H1 : Hid (TreeOfIs (lbs n N) W0 (.returned (.tuple #[.pointer p1, .bool q1])) w1) := h1
  clear h1 hb1
  obtain ⟨_, _, s1, t1⟩ := HK.out w1 HB1.out
  go_wp2_with fail
  refine (treeOf_any (lbs n' N') _ _ (HR'.out.below (HB0.out.trans (HB1.out.mono (by omega))) (by omega)) HS'.out.1 HS'.out.2).mono ?_
  rintro e w2 h2
  have hb2 := h2.2
  have HB2 : Hid (Below W0.heap.size W0 w2) := HB1.out.trans (hb2.mono z1)
  have HB12 : Hid (Below w1.heap.size w1 w2) := hb2
  have z2 := hb2.size
  obtain ⟨p2, q2, he2⟩ : ∃ (p2 : Option Addr) (q2 : Bool), e = .returned (.tuple #[.pointer p2, .bool q2]) := by
    rcases h2.1 with ⟨_, T, e, _⟩ | ⟨_, e⟩
    · exact ⟨_, _, e⟩
    · exact ⟨_, _, e⟩
  subst he2
  have H2 : Hid (TreeOfIs (lbs n' N') w1 (.returned (.tuple #[.pointer p2, .bool q2])) w2) := h2
  clear h2 hb2 s1 t1
  obtain ⟨g2, ⟨r2, f2, q2'⟩, s2, t2⟩ := HK.out w2 HB2.out
  have HW2 : Hid (Below w.heap.size w w2) := g2
  have HNOT : Hid (JTold (lbs n N) (lbs n' N') false [] → ∀ w', Below w.heap.size w w' → JoinGot (lbs n N) (lbs n' N') w (.returned (.tuple #[.agg #[.slice none 0 0], .bool false])) w') := fun h w' hb => ⟨_, _, 0, [], rfl, h, fun h => absurd rfl h, HNO.out _, hb⟩
  clear g2
  cases q1 with
  | false =>
    have HD : Hid (JTold (lbs n N) (lbs n' N') false []) := .inr ⟨fun h => by
      rcases H1.out.1 with ⟨_, T, e, _⟩ | ⟨hn, _⟩
      · simp at e
      · exact absurd h hn, rfl, rfl⟩
    go_wp2_with fail
    exact bodyPost_ret (v := .tuple #[.agg #[.slice none 0 0], .bool false]) (by simp [results, Try.results7, go_sem, r2]) rfl (HNOT.out HD.out _ (HKS.out _ _ HW2.out))
  | true =>
    cases q2 with
    | false =>
      have HD : Hid (JTold (lbs n N) (lbs n' N') false []) := .inr ⟨fun _ h => by
        rcases H2.out.1 with ⟨_, T, e, _⟩ | ⟨hn, _⟩
        · simp at e
        · exact absurd h hn, rfl, rfl⟩
      go_wp2_with fail
      exact bodyPost_ret (v := .tuple #[.agg #[.slice none 0 0], .bool false]) (by simp [results, Try.results7, go_sem, r2]) rfl (HNOT.out HD.out _ (HKS.out _ _ HW2.out))
    | true =>
      obtain ⟨hg1, A, eA, hA, hAn, hAo, hAl, hAb⟩ : GoodL (lbs n N) ∧ ∃ T : Bt, p1 = T.pa ∧ BrAt w1 T ∧ T.bs.Nodup ∧ T.ok ∧ T.limbs 0 = lbs n N ∧ ∀ b ∈ T.bs, W0.heap.size ≤ b := by
        rcases H1.out.1 with ⟨hg, T, e, h⟩ | ⟨_, e⟩
        · simp at e
          exact ⟨hg, T, e, h⟩
        · simp at e
      obtain ⟨hg2, C, eC, hC, hCn, hCo, hCl, hCb⟩ : GoodL (lbs n' N') ∧ ∃ T : Bt, p2 = T.pa ∧ BrAt w2 T ∧ T.bs.Nodup ∧ T.ok ∧ T.limbs 0 = lbs n' N' ∧ ∀ b ∈ T.bs, w1.heap.size ≤ b := by
        rcases H2.out.1 with ⟨hg, T, e, h⟩ | ⟨_, e⟩
        · simp at e
          exact ⟨hg, T, e, h⟩
        · simp at e
      subst eA eC
      have hAs : A.sz = n := by rw [← A.limbs_len 0, hAl, lbs_len]
      have hCs : C.sz = n' := by rw [← C.limbs_len 0, hCl, lbs_len]
      have HSZ : Hid (A.sz = n ∧ C.sz = n' ∧ A.sz ≤ 60 ∧ C.sz ≤ 60) := ⟨hAs, hCs, by rw [← A.limbs_len 0, hAl]; exact hg1.1, by rw [← C.limbs_len 0, hCl]; exact hg2.1⟩
      have HG : Hid (GoodL (lbs n N) ∧ GoodL (lbs n' N') ∧ A.ok ∧ A.limbs 0 = lbs n N ∧ C.ok ∧ C.limbs 0 = lbs n' N') := ⟨hg1, hg2, hAo, hAl, hCo, hCl⟩
      have HA2 : Hid (BrAt w2 A ∧ BrAt w2 C) := ⟨hA.below HB12.out, hC⟩
      have HAC : Hid (A.bs.Nodup ∧ C.bs.Nodup ∧ (∀ x ∈ A.bs, x ∉ C.bs) ∧ (∀ b ∈ A.bs, W0.heap.size ≤ b) ∧ ∀ b ∈ C.bs, W0.heap.size ≤ b) := ⟨hAn, hCn, fun x hx hc => by have := hA.lt hx; have := hCb x hc; omega, hAb, fun b hb => Nat.le_trans z1 (hCb b hb)⟩
      clear H1 H2 hg1 hg2 hA hAn hAo hAl hAb hC hCn hCo hCl hCb hAs hCs
      have hnn : n ≤ 60 ∧ n' ≤ 60 := ⟨by have := HSZ.out; omega, by have := HSZ.out; omega⟩
      by_cases h60 : n + n' ≤ 60
      · have h60' : ¬ (60 : Int) < (n : Int) + (n' : Int) := by omega
        go_wp2_with fail
        refine (isBelow_any A C w2 HA2.out.1 HA2.out.2 HSZ.out.2.2.1 HSZ.out.2.2.2).mono ?_
        rintro e w3 ⟨rfl, hb3⟩
        have HB3 : Hid (Below W0.heap.size W0 w3) := HB2.out.trans (hb3.mono (by omega))
        obtain ⟨g3, ⟨r3, f3, q3⟩, s3, t3⟩ := HK.out w3 HB3.out
        have HW3 : Hid (Below w.heap.size w w3) := g3
        have HA3 : Hid (BrAt w3 A ∧ BrAt w3 C) := ⟨HA2.out.1.below hb3, HA2.out.2.below hb3⟩
        have z3 := hb3.size
        clear hb3 g3 r2 f2 q2' s2 t2
        cases hbb : belowB A C with
        | false =>
          have HD : Hid (JTold (lbs n N) (lbs n' N') false []) := .inr ⟨fun _ _ => ⟨A, C, HG.out.2.2.1, HG.out.2.2.2.1, HG.out.2.2.2.2.1, HG.out.2.2.2.2.2, .inr (fun h => by rw [(belowB_iff A C).2 h] at hbb; cases hbb)⟩, rfl, rfl⟩
          go_wp2_with fail
          exact bodyPost_ret (v := .tuple #[.agg #[.slice none 0 0], .bool false]) (by simp [results, Try.results7, go_sem, r3]) rfl (HNOT.out HD.out _ (HKS.out _ _ HW3.out))
        | true =>
          have HAB : Hid (AllBelow A.ino C.ino) := (belowB_iff A C).1 hbb
          clear hbb
          go_wp2_with fail
          refine (join_any A C w3 HA3.out.1 HA3.out.2 HAC.out.1 HAC.out.2.1 HAC.out.2.2.1).mono ?_
          rintro e w4 ⟨rfl, h4, ho4⟩
          have hb4 : Below W0.heap.size w3 w4 := ho4.below (fun k h => by
            rcases h with h | h
            · exact HAC.out.2.2.2.1 k h
            · exact HAC.out.2.2.2.2 k h)
          have HB4 : Hid (Below W0.heap.size W0 w4) := HB3.out.trans hb4
          obtain ⟨g4, ⟨r4, f4, q4⟩, s4, t4⟩ := HK.out w4 HB4.out
          have z4 := hb4.size
          obtain ⟨S, hS⟩ : ∃ S, S = Bt.join A C := ⟨_, rfl⟩
          rw [← hS] at h4 ⊢
          have HT4 : Hid (BrAt w4 S) := h4
          have HSO : Hid (S.ok ∧ S.ino = A.ino ++ C.ino) := by
            rw [hS]
            exact ⟨⟨by rw [join_ino]; exact srt_app.2 ⟨HG.out.2.2.1.1, HG.out.2.2.2.2.1.1, HAB.out⟩, join_heap A C HG.out.2.2.1.2 HG.out.2.2.2.2.1.2 HAB.out⟩, join_ino A C⟩
          have HSS : Hid (S.sz ≤ 60) := by
            show _ ≤ _
            rw [← Bt.ino_len, HSO.out.2, List.length_append, Bt.ino_len, Bt.ino_len]
            have := HSZ.out
            omega
          clear h4 ho4 hb4 r3 f3 q3 s3 t3 g4 hS
          go_wp2_with fail
          refine (limbsOf_any S _ HT4.out (by have := HSS.out; omega)).mono ?_
          rintro e w5 ⟨v5, rfl, ho5, hb5⟩
          have HB5 : Hid (Below W0.heap.size W0 w5) := HB4.out.trans (hb5.mono (by omega))
          obtain ⟨g5, ⟨r5, f5, q5⟩, s5, t5⟩ := HK.out w5 HB5.out
          obtain ⟨a5, c5, rfl⟩ := ho5.form
          obtain ⟨gb, hgb, hR5⟩ := own_of_row ho5 (by rw [Bt.limbs_len]; have := HSS.out; omega) zeroLb
          have HGB : Hid (S.limbs 0 ≠ [] → w.heap.size + 1 + 1 < gb) := fun h => by have := hgb h; omega
          have HRS : Hid (∀ u, OwnR (w5.setCell ⟨w.heap.size + 1 + 1, 0, none⟩ u) gb (.slice a5 (S.limbs 0).length c5) (S.limbs 0).length (lbAt (S.limbs 0))) := fun u => hR5.but2 (BelowBut.setCell _ _ _) (fun h => by
            have := HGB.out (fun e => h (by rw [e]; rfl))
            omega)
          have HD : Hid (JTold (lbs n N) (lbs n' N') true (S.limbs 0)) := .inl ⟨HG.out.1, HG.out.2.1, A, C, S, HG.out.2.2.1, HG.out.2.2.2.1, HG.out.2.2.2.2.1, HG.out.2.2.2.2.2, HSO.out.1, HSO.out.2, by have := HSZ.out; omega, rfl, rfl⟩
          have HW5 : Hid (Below w.heap.size w w5) := g5
          obtain ⟨L, hL⟩ : ∃ L, L = S.limbs 0 := ⟨_, rfl⟩
          rw [← hL] at HRS HGB HD ⊢
          obtain ⟨m5, hm5⟩ : ∃ m, m = L.length := ⟨_, rfl⟩
          rw [← hm5] at HRS ⊢
          have HM5 : Hid (m5 = L.length) := hm5
          clear hL hm5 hb5 ho5 hR5 hgb g5 r4 f4 q4 s4 t4
          go_wp2_with fail
          refine bodyPost_ret (v := .tuple #[.agg #[.slice a5 m5 c5], .bool true]) (by simp [results, Try.results7, go_sem, r5]) rfl ⟨_, _, gb, L, rfl, HD.out, fun h => by have := HGB.out h; omega, ?_, HKS.out _ _ HW5.out⟩
          rw [← HM5.out]
          exact HRS.out _
      · have h60' : (60 : Int) < (n : Int) + (n' : Int) := by omega
        have HD : Hid (JTold (lbs n N) (lbs n' N') false []) := .inr ⟨fun _ _ => ⟨A, C, HG.out.2.2.1, HG.out.2.2.2.1, HG.out.2.2.2.2.1, HG.out.2.2.2.2.2, .inl (by have := HSZ.out; omega)⟩, rfl, rfl⟩
        go_wp2_with fail
        exact bodyPost_ret (v := .tuple #[.agg #[.slice none 0 0], .bool false]) (by simp [results, Try.results7, go_sem, r2]) rfl (HNOT.out HD.out _ (HKS.out _ _ HW2.out))
end Go.Proofs.Ytnmbnebofbdmfaa
