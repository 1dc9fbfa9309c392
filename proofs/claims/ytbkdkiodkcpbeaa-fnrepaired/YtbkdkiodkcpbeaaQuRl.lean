/- What is repaired is read alike by all; weights drawn anew. No condition. -/
import Derived.Test.YtbkdkiodkcpbeaaQuQl
import Derived.Test.YtbkdkiodkcpbeaaQuDd
namespace Go.Proofs.Ytbkdkiodkcpbeaa
open Go.RowKit
set_option linter.unusedVariables false

theorem repair_true {v V : DVoting} {s : List Int} {k : Int} (h : fRepairCopies v s = (V, k, true)) : enoughB v s v.2.1 = true ∧ V = (held v.1 s (nwc v.1 s).2.1 (nwc v.1 s).2.2, v.2.1, v.2.2) ∧ k = rpc v.1 s (nwc v.1 s) s.length := by
  unfold fRepairCopies at h
  split at h
  · next hg =>
    simp only [Prod.mk.injEq, and_true] at h
    exact ⟨hg, h.1.symm, h.2.symm⟩
  · simp at h
structure Mended (L L' : List DCopy) (r t : Int) (s : List Int) (k o : Int) : Prop where
  gx : fGoodVoting (L', r, t) = true
  again : fRepairCopies (L', r, t) s = ((L', r, t), 0, true)
  old : fNewestOf (L, r, t) = (o, newW L, true)
  now : fNewestOf (L', r, t) = (o, newW L', true)
  kb : 0 ≤ k ∧ k ≤ s.length
  some : someOk s L.length = true
  len : L'.length = L.length
  vers : ∀ j, j < s.length → (cp L' (nat s j)).2.1 = o
theorem mended {L L' : List DCopy} {r t r' t' : Int} {s : List Int} {k : Int} (h : fRepairCopies (L, r, t) s = ((L', r', t'), k, true)) : r' = r ∧ t' = t ∧ ∃ o, Mended L L' r t s k o := by
  obtain ⟨he, hV, hk⟩ := repair_true h
  simp only [Prod.mk.injEq] at hV
  obtain ⟨rfl, rfl, rfl⟩ := hV
  refine ⟨rfl, rfl, tp L L.length, ?_⟩
  simp only at he hk
  have hg : fGoodVoting (L, r', t') = true := by
    cases hg : fGoodVoting (L, r', t') with
    | true => rfl
    | false => rw [enough_no1 hg] at he; cases he
  have g := (vg_iff _).1 hg
  have hmm := g.meet
  unfold MeetOk at hmm
  simp only at hmm
  obtain ⟨_, hs, hw, h0⟩ := enough_pos he hmm.1
  simp only at hs hw
  obtain ⟨e1, gx, e2⟩ := repair_good g hs h0 hw
  simp only at e1 gx e2
  have hlen := held_len L s (nwc L s).2.1 (nwc L s).2.2
  have hgx : fGoodVoting (held L s (nwc L s).2.1 (nwc L s).2.2, r', t') = true := (vg_iff _).2 gx
  obtain ⟨f1, f2, f3, f4⟩ := repair_again (l := L) (n := L.length) rfl hs h0 (y := (nwc L s).2.1) (t := (nwc L s).2.2)
  have hs' : someOk s (held L s (nwc L s).2.1 (nwc L s).2.2).length = true := by rw [hlen]; exact hs
  have hen : enoughB (held L s (nwc L s).2.1 (nwc L s).2.2, r', t') s r' = true := by
    rw [enough_eq hgx hs', wIn_held (v := (L, r', t')) hs hs]
    exact decide_eq_true hw
  have hb := rpc_bd L s (nwc L s) s.length
  refine ⟨hgx, ?_, newest_yes hg, ?_, by rw [hk]; exact hb, hs, hlen, fun j hj => ?_⟩
  · rw [repair_yes hen]
    simp only [f1, f2, f3]
    rw [f4 (Nat.le_refl _) _ f1]
  · rw [newest_yes hgx]
    show (tp (held L s (nwc L s).2.1 (nwc L s).2.2) (held L s (nwc L s).2.1 (nwc L s).2.2).length, _, _) = _
    rw [hlen, e2]
  · have hkn := some_nat hs hj
    rw [held_cp hs hkn.2, if_pos (has_of hs hj)]
    exact e1
theorem new_meet {x0 : List Int} {x1 x2 : Int} (h : (fNewVoting x0 x1 x2).2 = true) : sumI x0 x0.length < x1 + x2 ∧ sumI x0 x0.length < 2 * x2 := by
  unfold fNewVoting at h
  split at h
  · next hg =>
    have g := (vg_iff _).1 hg
    have hmm := g.meet
    unfold MeetOk at hmm
    simp only at hmm
    have e : ∀ k, k ≤ x0.length → ws (fun _ => true) (x0.map fun x => ((x, 0, ⟨#[]⟩) : DCopy)) k = sumI x0 k := fun k => by
      induction k with
      | zero => intro _; rfl
      | succ k ih =>
        intro hk
        show (if true = true then _ else _) = _
        rw [if_pos rfl, ih (by omega)]
        show _ + (cp _ k).1 = sumI x0 k + x0.getD k 0
        rw [cp_of (c := (x0.getD k 0, 0, ⟨#[]⟩)) (by rw [List.getElem?_map, getD_at (show k < x0.length by omega)]; rfl)]
    have e2 : allW (x0.map fun x => ((x, 0, ⟨#[]⟩) : DCopy)) = sumI x0 x0.length := by
      unfold allW
      rw [List.length_map]
      exact e _ (Nat.le_refl _)
    rw [e2] at hmm
    exact ⟨hmm.2.2.2.2.1, hmm.2.2.2.2.2⟩
  · cases h
/-- Weights and what they need. -/
def RDrN (w : World) (e : Ending) (w' : World) : Prop := ∃ (a : Option Addr) (n c : Nat) (T : Nat → Prop) (l : List Int) (r t : Int), e = .returned (.tuple #[.slice a n c, .int .i64 r, .int .i64 t]) ∧ (kRow kInt).is true w' T [.slice a n c] l ∧ (1 ≤ n ∧ n ≤ 5) ∧ (∀ x ∈ l, 0 ≤ x ∧ x ≤ 11) ∧ (-100 ≤ r ∧ r ≤ 100) ∧ (0 ≤ t ∧ t ≤ 100) ∧ Below w.heap.size w w'
set_option maxRecDepth 100000 in
set_option maxHeartbeats 2000000 in
theorem drawNewVoting_k (w : World) (x : List Int) (a : Option Addr) (n c : Nat) (h : (kRow kU8).is false w (fun _ => True) [.slice a n c] x) (hn : n ≤ 9223372036854775807) :
    Calls Try.prog 28 #[.slice a n c] w (RDrN w) := by
  have H : Hid ((kRow kU8).is false w (fun _ => True) [.slice a n c] x) := h
  clear h
  obtain ⟨W1, hW1⟩ : ∃ W, W = w.alloc (.cells #[.slice a n c, .int .i64 0, .int .u64 0] 68) := ⟨_, rfl⟩
  have HCU : Hid (CurAt W1 w.heap.size (fun k => k < w.heap.size) 0) := by show CurAt _ _ _ _; rw [hW1]; exact cur_new H.out hn
  have HB1 : Hid (Below w.heap.size w W1) := by show Below _ _ _; rw [hW1]; exact below_a1q _ _
  have hz1 : W1.heap.size = w.heap.size + 1 := by rw [hW1]; simp
  have HKN : Hid (∀ w', KeptO (fun k => k = w.heap.size) W1 w' → Below w.heap.size w w') := fun w' hk => by rw [hW1] at hk; exact hk.belowNew
  go_enter Try.func28, Try.ntmps28
  go_wp2_with fail
  rw [← hW1]
  clear hW1
  obtain ⟨g, hg⟩ : ∃ g, g = w.heap.size := ⟨_, rfl⟩
  rw [← hg] at HCU HKN ⊢
  have hgw : g < W1.heap.size := by omega
  have HGW : Hid (g = w.heap.size) := hg
  clear hg
  refine (weights_k W1 g (fun k => k < g) 0 HCU.out (by omega) hgw (fun k h => by omega)).mono ?_
  rintro e w2 ⟨aw, nw, cw, Tw, lw, rfl, hr, hT, hnn, hl, hc, hk⟩
  have HW2 : Hid ((kRow kInt).is true w2 Tw [.slice aw nw cw] lw ∧ (∀ k, Tw k → W1.heap.size ≤ k) ∧ (∀ x ∈ lw, 0 ≤ x ∧ x ≤ 11)) := ⟨hr, hT, hl⟩
  have HC2 : Hid (CurAt w2 g (fun k => k < g) 20) := hc.mono (by omega)
  have HK2 : Hid (KeptO (fun k => k = g) W1 w2) := hk
  obtain ⟨hn1, hn5⟩ := hnn
  clear hr hT hl hc hk
  go_wp2_with fail
  refine (votes_k w2 g _ _ lw aw nw cw Tw HC2.out (by omega) ((kRow kInt).read HW2.out.1) hn5 HW2.out.2.2).mono ?_
  rintro e w3 ⟨r0, t0, rfl, hr0, ht0, hc, hk⟩
  have HW3 : Hid ((kRow kInt).is true w3 Tw [.slice aw nw cw] lw) := Kd.kept HW2.out.1 hk (fun q _ h e => by have := HW2.out.2.1 q h; omega)
  have HB3 : Hid (Below w.heap.size w w3) := by rw [← HGW.out]; exact HKN.out w3 (HK2.out.trans hk)
  have HRT : Hid ((-100 ≤ r0 ∧ r0 ≤ 100) ∧ (0 ≤ t0 ∧ t0 ≤ 100)) := ⟨hr0, ht0⟩
  clear hc hk hr0 ht0
  go_wp2
  refine bodyPost_ret (v := .tuple #[.slice aw nw cw, .int .i64 r0, .int .i64 t0]) (by simp [results, Try.results28, go_sem]) rfl ?_
  exact ⟨aw, nw, cw, Tw, lw, r0, t0, rfl, HW3.out, ⟨hn1, hn5⟩, HW2.out.2.2, HRT.out.1, HRT.out.2, HB3.out⟩
end Go.Proofs.Ytbkdkiodkcpbeaa
