/- How a further argument of a law is weighed. No condition. -/
import Derived.Test.YtjbjgkkkkghcgaaGreatDoorSz
namespace Go.Proofs.YtjbjgkkkkghcgaaGreatDoor
open Go.RowKit

set_option maxHeartbeats 1000000 in
theorem szNodeS_left (a : Option Addr) (c n : Nat) (N : Nat → Nd) (left : Int) (hl0 : 0 ≤ left) (hl1 : left ≤ 2 ^ 20) (w : World) (hn : n ≤ maxLen) (h : ArgIs w a n N) (hz : ∀ i, i < n → (N i).text.size ≤ maxLen ∧ (N i).name.size ≤ maxLen) :
    Calls Tryz.prog 54 #[.slice a n c, .int .i64 left] w fun e w' => ∃ r : Int, e = .returned (.int .i64 r) ∧ (r = -1 ∨ (0 ≤ r ∧ r ≤ 2 ^ 20 ∧ SmallN n N)) ∧ Below w.heap.size w w' := by
  have HZ : Hid (∀ i, i < n → (N i).text.size ≤ maxLen ∧ (N i).name.size ≤ maxLen) := hz
  have H : Hid (ArgIs w a n N) := h
  clear hz h
  unfold maxLen at hn
  by_cases c0 : left - (n : Int) < 0
  · go_enter Tryz.func54, Tryz.ntmps54
    go_wp2
    go_ret
    exact ⟨-1, rfl, .inl rfl, by go_grown⟩
  · go_enter Tryz.func54, Tryz.ntmps54
    go_wp2_with fail
    go_loopw [1, 5] (fun q i wr => ∃ (k : Nat) (r : Int), k ≤ n ∧ i = .int .i64 k ∧ q = .int .i64 r ∧ 0 ≤ r ∧ r ≤ 2 ^ 20 ∧ Hid (∀ j, j < k → (N j).text.size ≤ 2 ^ 20 ∧ (N j).name.size ≤ 2 ^ 20) ∧ Below w.heap.size w wr) (fun _ i _ => n - (intOf i).toNat)
    case atStart => exact ⟨0, _, Nat.zero_le _, rfl, rfl, by omega, by omega, fun j hj => by omega, Below.refl _ _⟩
    case round =>
      obtain ⟨k, r, hk, rfl, rfl, hr0, hr1, HJ, hnx⟩ := hrel
      by_cases hlt : k < n
      · rcases H.out with h0 | ⟨b, off, rfl, hb, hat⟩
        · omega
        obtain ⟨a0, a1, a2, a3, a4⟩ := hat.below hnx hb k hlt
        have i0 : (0 : Int) ≤ (k : Int) := by omega
        have i1 : (k : Int) < (n : Int) := by omega
        obtain ⟨t0, t1⟩ := HZ.out k hlt
        clear hat
        go_wp2_with fail
        refine (szNode_any _ _ _ _ _ _ _ hr0 hr1 t0 t1).mono ?_
        rintro e w1 ⟨q, rfl, hq, hb1⟩
        have HB : Hid (Below w.heap.size w w1) := hnx.trans (hb1.mono hnx.size)
        clear hb1
        rcases hq with rfl | ⟨q0, q1, q2, q3⟩
        · go_wp2
          go_ret
          exact ⟨-1, rfl, .inl rfl, HB.out⟩
        · have HJ' : Hid (∀ j, j < k + 1 → (N j).text.size ≤ 2 ^ 20 ∧ (N j).name.size ≤ 2 ^ 20) := fun j hj => by
            by_cases e : j = k
            · subst e; exact ⟨q2, q3⟩
            · exact HJ.out j (by omega)
          go_wp2
          go_roundw
          case rel => exact ⟨k + 1, q, by omega, by go_num, rfl, q0, by omega, HJ', HB.out⟩
          case measure => simp [intOf]; omega
      · go_wp2
        go_ret
        obtain rfl : k = n := by omega
        exact ⟨r, rfl, .inr ⟨hr0, hr1, by omega, HJ.out⟩, hnx⟩

set_option maxHeartbeats 400000 in
theorem szValue_left (a : Option Addr) (c n : Nat) (N : Nat → Nd) (left : Int) (hl0 : 0 ≤ left) (hl1 : left ≤ 2 ^ 20) (w : World) (hn : n ≤ maxLen) (h : ArgIs w a n N) (hz : ∀ i, i < n → (N i).text.size ≤ maxLen ∧ (N i).name.size ≤ maxLen) :
    Calls Tryz.prog 38 #[.agg #[.slice a n c], .int .i64 left] w fun e w' => ∃ r : Int, e = .returned (.int .i64 r) ∧ (r = -1 ∨ (0 ≤ r ∧ r ≤ 2 ^ 20 ∧ SmallN n N)) ∧ Below w.heap.size w w' := by
  have HZ : Hid (∀ i, i < n → (N i).text.size ≤ maxLen ∧ (N i).name.size ≤ maxLen) := hz
  have H : Hid (ArgIs w a n N) := h
  clear hz h
  go_enter Tryz.func38, Tryz.ntmps38
  go_wp2_with fail
  refine (szNodeS_left a c n N left hl0 hl1 _ hn (H.out.below (by go_grown)) HZ.out).mono ?_
  rintro e w1 ⟨r, rfl, hr, hb⟩
  have HB : Hid (Below w.heap.size w w1) := (show Below w.heap.size w _ by go_grown).trans (hb.mono (by simp))
  clear hb
  rcases hr with rfl | ⟨r0, r20, hs⟩
  · go_wp2
    go_ret
    exact ⟨-1, rfl, .inl rfl, HB.out⟩
  · have HS : Hid (SmallN n N) := hs
    clear hs
    have r1 : ¬ r < 0 := by omega
    go_wp2
    go_ret
    exact ⟨r, rfl, .inr ⟨r0, r20, HS.out⟩, HB.out⟩

end Go.Proofs.YtjbjgkkkkghcgaaGreatDoor
