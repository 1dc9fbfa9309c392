/- A value made anew: its row is as long as its room allows. -/
import Derived.Test.YtjbjgkkkkghcgaaGreatDoorTo
namespace Go.Proofs.YtjbjgkkkkghcgaaGreatDoor
open Go.RowKit
set_option linter.unusedVariables false

set_option maxHeartbeats 1000000 in
theorem toNodeS_cap (a : Option Addr) (c n : Nat) (N : Nat → Nd) (w : World) (hn : n ≤ 2 ^ 20) (h : ArgIs w a n N) :
    Calls Tryz.prog 59 #[.slice a n c] w fun e w' => ∃ a' c', e = .returned (.slice a' n c') ∧ n ≤ c' ∧ OwnAt w' w.heap.size (.slice a' n c') n N ∧ w.heap.size < w'.heap.size ∧ Below w.heap.size w w' := by
  have H : Hid (ArgIs w a n N) := h
  clear h
  have hmk := make_nodes n (by omega)
  obtain ⟨n1, n2⟩ := nodes_made n w 66
  obtain ⟨W, hW⟩ : ∃ W, W = w.alloc (.cells (madeCells zeroCs (n * 5)) 66) := ⟨_, rfl⟩
  have hsz : W.heap.size = w.heap.size + 1 := by rw [hW]; simp
  have hbl : Below w.heap.size w W := by rw [hW]; go_grown
  rw [← hW] at n1 n2
  have hmw := hmk w
  rw [← hW] at hmw
  clear hmk
  have HN : Hid (NodesAt W w.heap.size 0 n (fun _ => zeroNd) ∧ FreeAt W w.heap.size 0 n) := ⟨n1, n2⟩
  clear n1 n2 hW
  go_enter Tryz.func59, Tryz.ntmps59
  go_wp2_with fail
  go_loopw [4] (fun i wr => ∃ k : Nat, k ≤ n ∧ i = .int .i64 k ∧ Below w.heap.size w wr ∧ w.heap.size < wr.heap.size ∧ Hid (∃ M, NodesAt wr w.heap.size 0 n M ∧ FreeAt wr w.heap.size 0 n ∧ ∀ j, j < k → M j = N j)) (fun i _ => n - (intOf i).toNat)
  case atStart => exact ⟨0, Nat.zero_le _, rfl, hbl, by omega, ⟨_, HN.out.1, HN.out.2, fun j hj => by omega⟩⟩
  case round =>
    obtain ⟨k, hk, rfl, hnx, hlt0, HM⟩ := hrel
    by_cases hlt : k < n
    · rcases H.out with h0 | ⟨b, off, rfl, hb, hat⟩
      · omega
      obtain ⟨a0, a1, a2, a3, a4⟩ := hat.below hnx hb k hlt
      have i0 : (0 : Int) ≤ (k : Int) := by omega
      have i1 : (k : Int) < (n : Int) := by omega
      clear hat
      go_wp2_with fail
      refine (toNode_any _ _ _ _ _ _).mono ?_
      rintro e w1 ⟨rfl, hb1⟩
      obtain ⟨M, m1, m2, m3⟩ := HM.out
      have m1' := m1.below hb1 hlt0
      have m2' := m2.below hb1 hlt0
      obtain ⟨g0, g1, g2, g3, g4⟩ := m1' k hlt
      have f0 := m2' (k * 5) (by omega)
      have f1 := m2' (k * 5 + 1) (by omega)
      have f2 := m2' (k * 5 + 2) (by omega)
      have f3 := m2' (k * 5 + 3) (by omega)
      have f4 := m2' (k * 5 + 4) (by omega)
      simp only [Nat.zero_add] at g0 g1 g2 g3 g4 f0 f1 f2 f3 f4
      have z1 := hb1.size
      have HM1 : Hid (NodesAt w1 w.heap.size 0 n M ∧ FreeAt w1 w.heap.size 0 n ∧ (∀ j, j < k → M j = N j)) := ⟨m1', m2', m3⟩
      have HB : Hid (Below w.heap.size w w1) := hnx.trans (hb1.mono hnx.size)
      clear m1 m2 m3 m1' m2' hb1 HM a0 a1 a2 a3 a4
      go_wp2_with fail
      obtain ⟨r1, r2, r3⟩ := store_step (x := (N k).kind) (y := (N k).num) (s := (N k).text) (t := (N k).name) (u := (N k).up) hlt HM1.out.1 HM1.out.2.1 _ rfl
      simp only [Nat.zero_add] at r1 r2 r3
      go_roundw
      case rel =>
        refine ⟨k + 1, by omega, by go_num, HB.out.trans (r3.below HB.out.size (Nat.le_refl _)), by have := r3.size; omega, ⟨_, r1, r2, fun j hj => ?_⟩⟩
        by_cases e : j = k
        · subst e
          rw [if_pos rfl]
        · rw [if_neg e]
          exact HM1.out.2.2 j (by omega)
      case measure => simp [intOf]; omega
    · go_wp2
      go_ret
      obtain rfl : k = n := by omega
      obtain ⟨M, m1, m2, m3⟩ := HM.out
      refine ⟨_, _, rfl, Nat.le_refl _, ⟨_, k, 0, rfl, by omega, .inr ⟨rfl, hlt0, fun i hi => ?_, m2⟩⟩, hlt0, hnx⟩
      rw [← m3 i hi]
      exact m1 i hi

set_option maxHeartbeats 400000 in
theorem toValue_cap (a : Option Addr) (c n : Nat) (N : Nat → Nd) (w : World) (hn : n ≤ 2 ^ 20) (h : ArgIs w a n N) :
    Calls Tryz.prog 43 #[.agg #[.slice a n c]] w fun e w' => ∃ b a' c', e = .returned (.agg #[.slice a' n c']) ∧ n ≤ c' ∧ w.heap.size ≤ b ∧ b < w'.heap.size ∧ OwnAt w' b (.slice a' n c') n N ∧ Below w.heap.size w w' := by
  have H : Hid (ArgIs w a n N) := h
  clear h
  go_enter Tryz.func43, Tryz.ntmps43
  go_wp2_with fail
  refine (toNodeS_cap a c n N _ hn (H.out.below (by go_grown))).mono ?_
  rintro e w1 ⟨a1, c1, rfl, hc1, ho, hlt, hb⟩
  have x1 : w1.cell? ⟨w.heap.size + 1, 0, none⟩ = some (.slice none 0 0) := by rw [hb.cell (by simp)]; simp [go_sem]
  have x2 : w1.cell? ⟨w.heap.size + 1 + 1, 0, none⟩ = some (.slice none 0 0) := by rw [hb.cell (by simp)]; simp [go_sem]
  have f1 : w1.frozen? ⟨w.heap.size + 1, 0, none⟩ = false := by rw [hb.frozen (by simp)]; simp [go_sem]
  have f2 : w1.frozen? ⟨w.heap.size + 1 + 1, 0, none⟩ = false := by rw [hb.frozen (by simp)]; simp [go_sem]
  have z := hb.size
  simp at z hlt ho
  have z1 : w.heap.size + 1 < w1.heap.size := by omega
  have z2 : w.heap.size + 1 + 1 < w1.heap.size := by omega
  have HO : Hid (OwnAt w1 (w.heap.size + 1 + 1 + 1) (.slice a1 n c1) n N) := ho
  have HB : Hid (Below w.heap.size w w1) := (show Below w.heap.size w _ by go_grown).trans (hb.mono (by simp; omega))
  clear ho hb
  go_wp2
  refine bodyPost_ret (v := .agg #[.slice a1 n c1]) (by simp [results, Tryz.results43, go_sem, x1]) rfl ⟨w.heap.size + 1 + 1 + 1, a1, c1, rfl, hc1, by omega, by simp; omega, ?_, ?_⟩
  · exact (HO.out.but (BelowBut.setCell _ _ _) (by omega)).but (BelowBut.setCell _ _ _) (by omega)
  · exact (HB.out.setCell (by simp; omega) _).setCell (by simp) _

end Go.Proofs.YtjbjgkkkkghcgaaGreatDoor
