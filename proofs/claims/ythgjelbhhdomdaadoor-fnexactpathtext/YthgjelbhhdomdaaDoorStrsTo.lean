/- A list of texts that came in: weighed and copied. No condition. -/
import Derived.Test.YthgjelbhhdomdaaDoorStrs
namespace Go.Proofs.YthgjelbhhdomdaaDoor
open Go.RowKit
set_option linter.unusedVariables false

/-- Its texts are small. -/
def SmallS (n : Nat) (f : Nat → ByteArray) : Prop := n ≤ 2 ^ 20 ∧ ∀ i, i < n → (f i).size ≤ 2 ^ 20

set_option maxHeartbeats 1000000 in
theorem szStringS_any (a : Option Addr) (c n : Nat) (f : Nat → ByteArray) (w : World) (hn : n ≤ maxLen) (h : ArgS w a n f) (hz : ∀ i, i < n → (f i).size ≤ maxLen) :
    Calls Tryd.prog 26 #[.slice a n c, .int .i64 1048576] w fun e w' => ∃ r : Int, e = .returned (.int .i64 r) ∧ (r = -1 ∨ (0 ≤ r ∧ SmallS n f)) ∧ Below w.heap.size w w' := by
  have HZ : Hid (∀ i, i < n → (f i).size ≤ maxLen) := hz
  have H : Hid (ArgS w a n f) := h
  clear hz h
  unfold maxLen at hn
  by_cases c0 : (1048576 : Int) - (n : Int) < 0
  · go_enter Tryd.func26, Tryd.ntmps26
    go_wp2
    go_ret
    exact ⟨-1, rfl, .inl rfl, by go_grown⟩
  · go_enter Tryd.func26, Tryd.ntmps26
    go_wp2_with fail
    go_loopw [1, 5] (fun q i wr => ∃ (k : Nat) (r : Int), k ≤ n ∧ i = .int .i64 k ∧ q = .int .i64 r ∧ 0 ≤ r ∧ r ≤ 2 ^ 20 ∧ Hid (∀ j, j < k → (f j).size ≤ 2 ^ 20) ∧ Below w.heap.size w wr) (fun _ i _ => n - (intOf i).toNat)
    case atStart => exact ⟨0, _, Nat.zero_le _, rfl, rfl, by omega, by omega, fun j hj => by omega, Below.refl _ _⟩
    case round =>
      obtain ⟨k, r, hk, rfl, rfl, hr0, hr1, HJ, hnx⟩ := hrel
      by_cases hlt : k < n
      · rcases H.out with h0 | ⟨b, off, rfl, hb, hat⟩
        · omega
        have a0 := (hnx.cell hb).trans (hat k hlt)
        have i0 : (0 : Int) ≤ (k : Int) := by omega
        have i1 : (k : Int) < (n : Int) := by omega
        have t0 : (f k).size ≤ 9223372036854775807 := HZ.out k hlt
        clear hat
        by_cases c1 : r - ((f k).size : Int) < 0
        · go_wp2
          go_ret
          exact ⟨-1, rfl, .inl rfl, hnx⟩
        · have HJ' : Hid (∀ j, j < k + 1 → (f j).size ≤ 2 ^ 20) := fun j hj => by
            by_cases e : j = k
            · subst e; omega
            · exact HJ.out j (by omega)
          go_wp2
          go_roundw
          case rel => exact ⟨k + 1, _, by omega, by go_num, rfl, by omega, by omega, HJ', hnx⟩
          case measure => simp [intOf]; omega
      · go_wp2
        go_ret
        obtain rfl : k = n := by omega
        exact ⟨r, rfl, .inr ⟨hr0, by omega, HJ.out⟩, hnx⟩

set_option maxHeartbeats 1000000 in
theorem toStringS_any (a : Option Addr) (c n : Nat) (f : Nat → ByteArray) (w : World) (hn : n ≤ 2 ^ 20) (h : ArgS w a n f) :
    Calls Tryd.prog 28 #[.slice a n c] w fun e w' => ∃ v, e = .returned v ∧ OwnS w' w.heap.size v n f ∧ w.heap.size < w'.heap.size ∧ Below w.heap.size w w' := by
  have H : Hid (ArgS w a n f) := h
  clear h
  have hmk := make_strs n (by omega)
  have n1 := strs_made n w 9
  obtain ⟨W, hW⟩ : ∃ W, W = w.alloc (.cells (madeCells #[.string ⟨#[]⟩] n) 9) := ⟨_, rfl⟩
  have hsz : W.heap.size = w.heap.size + 1 := by rw [hW]; simp
  have hbl : Below w.heap.size w W := by rw [hW]; go_grown
  rw [← hW] at n1
  have hmw := hmk w
  rw [← hW] at hmw
  clear hmk
  have HN : Hid (StrsAt W w.heap.size n (fun _ => ⟨#[]⟩)) := n1
  clear n1 hW
  go_enter Tryd.func28, Tryd.ntmps28
  go_wp2_with fail
  go_loopw [4] (fun i wr => ∃ k : Nat, k ≤ n ∧ i = .int .i64 k ∧ w.heap.size < wr.heap.size ∧ Below w.heap.size w wr ∧ Hid (StrsAt wr w.heap.size n (fun j => if j < k then f j else ⟨#[]⟩))) (fun i _ => n - (intOf i).toNat)
  case atStart => exact ⟨0, Nat.zero_le _, rfl, by omega, hbl, by show StrsAt _ _ _ _; simpa using HN.out⟩
  case round =>
    obtain ⟨k, hk, rfl, hz, hnx, HI⟩ := hrel
    by_cases hlt : k < n
    · rcases H.out with h0 | ⟨b, off, rfl, hb, hat⟩
      · omega
      have a0 := (hnx.cell hb).trans (hat k hlt)
      have l0 := (HI.out k hlt).1
      have l1 := (HI.out k hlt).2
      simp only [Nat.lt_irrefl, if_false] at l0
      have i0 : (0 : Int) ≤ (k : Int) := by omega
      have i1 : (k : Int) < (n : Int) := by omega
      clear hat
      go_wp2
      have r1 := (HI.out).set hlt (f k)
      go_roundw
      case rel =>
        refine ⟨k + 1, by omega, by go_num, by simpa [World.setCell] using hz, hnx.setCell (p := ⟨w.heap.size, _, none⟩) (Nat.le_refl _) _, r1.congr fun i hi => ?_⟩
        by_cases e : i = k
        · subst e; simp
        · by_cases e2 : i < k
          · simp [e, e2, Nat.lt_succ_of_lt e2]
          · have e3 : ¬ i < k + 1 := by omega
            simp [e, e2, e3]
      case measure => simp [intOf]; omega
    · go_wp2
      go_ret
      obtain rfl : k = n := by omega
      exact ⟨_, rfl, ⟨_, _, rfl, by omega, .inr ⟨rfl, hz, HI.out.congr fun i hi => by rw [if_pos hi]⟩⟩, hz, hnx⟩

end Go.Proofs.YthgjelbhhdomdaaDoor
