/- The weight of a key: the program and the specification. -/
import Derived.Test.YtnmbnebofbdmfaaProg
import Derived.RegionTactic
import Derived.Deep.RegionWith
import Derived.Deep.DeepFit
namespace Go.Proofs.Ytnmbnebofbdmfaa
open Go.RowKit
set_option linter.unusedVariables false

theorem tmod_bounds (a b : Int) (h : 0 < b) : -b < a.tmod b ∧ a.tmod b < b := by
  refine ⟨?_, Int.tmod_lt_of_pos a h⟩
  have h1 := Int.tmod_lt_of_pos (-a) h
  rw [Int.neg_tmod] at h1
  omega

/-- What is made of the first k bytes. -/
def wtAt (s : ByteArray) : Nat → Int
  | 0 => 5381
  | k + 1 => (bits BinOp.xor IntKind.i64 (33 * wtAt s k) ((s.get! k).toNat : Int)).tmod 1000003
/-- The weight of a key. -/
def wt (s : ByteArray) : Int := (wtAt s s.size * 7919).tmod 1000003

theorem wt_get (s : ByteArray) (k : Nat) (h : k < s.size) : s.get! k = s[k] := by
  unfold ByteArray.get!
  simp only [getElem!_def]
  rw [Array.getElem?_eq_getElem h]
  rfl
theorem wtAt_bounds (s : ByteArray) (k : Nat) : -1000003 < wtAt s k ∧ wtAt s k < 1000003 := by
  cases k with
  | zero => rw [wtAt]; omega
  | succ k => exact tmod_bounds _ _ (by decide)
theorem wt_bounds (s : ByteArray) : -1000003 < wt s ∧ wt s < 1000003 := tmod_bounds _ _ (by decide)
theorem wtAt_next (s : ByteArray) (k : Nat) (h : k < s.size) : wtAt s (k + 1) = (bits BinOp.xor IntKind.i64 (33 * wtAt s k) (s[k].toNat : Int)).tmod 1000003 := by
  rw [wtAt, wt_get s k h]

set_option maxRecDepth 100000 in
set_option maxHeartbeats 1000000 in
theorem specWeight_any (s : ByteArray) (w : World) (hs : s.size ≤ 2 ^ 40) :
    Calls Try.prog 41 #[.string s] w fun e w' => e = .returned (.int .i64 (wt s)) ∧ w' = w := by
  go_enter Try.func41, Try.ntmps41
  go_wp2
  go_loopw [3, 4] (fun h i wr => ∃ k : Nat, ∃ H : Int, k ≤ s.size ∧ h = .int .i64 H ∧ i = .int .i64 k ∧ Hid (H = wtAt s k) ∧ -1000003 < H ∧ H < 1000003 ∧ wr = w) (fun _ i _ => s.size - (intOf i).toNat)
  case atStart => exact ⟨0, 5381, Nat.zero_le _, rfl, rfl, rfl, by omega, by omega, rfl⟩
  case round =>
    obtain ⟨k, H, hk, rfl, rfl, HH, h0, h1, rfl⟩ := hrel
    by_cases hlt : k < s.size
    · have i0 : (0 : Int) ≤ (k : Int) := by omega
      have i1 : (k : Int) < (s.size : Int) := by omega
      have hbyte : s[k].toNat < 256 := UInt8.toNat_lt _
      have HN : Hid (wtAt s (k + 1) = (bits BinOp.xor IntKind.i64 (33 * H) (s[k].toNat : Int)).tmod 1000003) := by show _ = _; rw [wtAt_next s k hlt, ← HH.out]
      go_wp2
      refine ⟨⟨k + 1, _, by omega, rfl, by go_num, HN.out.symm, ?_, ?_, trivial⟩, by simp [intOf]; omega⟩
      · rw [← HN.out]; exact (wtAt_bounds s (k + 1)).1
      · rw [← HN.out]; exact (wtAt_bounds s (k + 1)).2
    · obtain rfl : k = s.size := by omega
      have HN : Hid (wt s = (H * 7919).tmod 1000003) := by show _ = _; rw [wt, ← HH.out]
      go_wp2
      go_ret
      exact ⟨by rw [HN.out]; rfl, rfl⟩

set_option maxRecDepth 100000 in
set_option maxHeartbeats 1000000 in
theorem implWeight_any (s : ByteArray) (w : World) (hs : s.size ≤ 2 ^ 40) :
    Calls Try.prog 29 #[.string s] w fun e w' => e = .returned (.int .i64 (wt s)) ∧ w' = w := by
  go_enter Try.func29, Try.ntmps29
  go_wp2
  go_loopw [3, 7] (fun h i wr => ∃ k : Nat, ∃ H : Int, k ≤ s.size ∧ h = .int .i64 H ∧ i = .int .i64 k ∧ Hid (H = wtAt s k) ∧ -1000003 < H ∧ H < 1000003 ∧ wr = w) (fun _ i _ => s.size - (intOf i).toNat)
  case atStart => exact ⟨0, 5381, Nat.zero_le _, rfl, rfl, rfl, by omega, by omega, rfl⟩
  case round =>
    obtain ⟨k, H, hk, rfl, rfl, HH, h0, h1, rfl⟩ := hrel
    by_cases hlt : k < s.size
    · have i0 : (0 : Int) ≤ (k : Int) := by omega
      have i1 : (k : Int) < (s.size : Int) := by omega
      have hbyte : s[k].toNat < 256 := UInt8.toNat_lt _
      have HN : Hid (wtAt s (k + 1) = (bits BinOp.xor IntKind.i64 (33 * H) (s[k].toNat : Int)).tmod 1000003) := by show _ = _; rw [wtAt_next s k hlt, ← HH.out]
      go_wp2
      refine ⟨⟨k + 1, _, by omega, rfl, by go_num, HN.out.symm, ?_, ?_, trivial⟩, by simp [intOf]; omega⟩
      · rw [← HN.out]; exact (wtAt_bounds s (k + 1)).1
      · rw [← HN.out]; exact (wtAt_bounds s (k + 1)).2
    · obtain rfl : k = s.size := by omega
      have HN : Hid (wt s = (H * 7919).tmod 1000003) := by show _ = _; rw [wt, ← HH.out]
      go_wp2
      go_ret
      exact ⟨by rw [HN.out]; rfl, rfl⟩
end Go.Proofs.Ytnmbnebofbdmfaa
