/- What is printed: both readings of a text's bytes. No condition but that a string fits in memory. -/
import Derived.Test.YtjbjgkkkkghcgaaGreatDoorBase0
namespace Go.Proofs.YtjbjgkkkkghcgaaGreatDoor
open Go.RowKit

/-- A byte that may stand in a text. -/
def okByte (c : UInt8) : Bool := decide (32 ≤ c.toNat) && decide (c.toNat ≤ 126)
/-- Its first k bytes may. -/
def plainTo (s : ByteArray) (k : Nat) : Bool := (s.data.toList.take k).all okByte
def plainB (s : ByteArray) : Bool := decide (s.size ≤ 24) && plainTo s s.size

theorem plainTo_succ (s : ByteArray) (k : Nat) (h : k < s.size) : plainTo s (k + 1) = (plainTo s k && okByte s[k]) := by
  unfold plainTo
  rw [List.take_succ_eq_append_getElem (by simpa using h), List.all_append]
  simp
  rfl

theorem plainTo_no (s : ByteArray) (k : Nat) (h : k < s.size) (hc : okByte s[k] = false) : plainB s = false := by
  have h1 : plainTo s (k + 1) = false := by rw [plainTo_succ s k h, hc, Bool.and_false]
  unfold plainB
  have : plainTo s s.size = false := by
    unfold plainTo at *
    rw [List.all_eq_false] at *
    obtain ⟨x, hx, hn⟩ := h1
    refine ⟨x, ?_, hn⟩
    have hsz : s.size = s.data.toList.length := Array.length_toList.symm
    rw [hsz, List.take_length]
    exact List.mem_of_mem_take hx
  rw [this, Bool.and_false]

theorem okByte_true {c : UInt8} (h0 : (32 : Int) ≤ (c.toNat : Int)) (h1 : (c.toNat : Int) ≤ 126) : okByte c = true := by
  unfold okByte
  have a : 32 ≤ c.toNat := by omega
  have b : c.toNat ≤ 126 := by omega
  simp [a, b]
theorem okByte_false {c : UInt8} (h : (c.toNat : Int) < 32 ∨ 126 < (c.toNat : Int)) : okByte c = false := by
  unfold okByte
  rcases h with h | h
  · have a : ¬ 32 ≤ c.toNat := by omega
    simp [a]
  · have a : ¬ c.toNat ≤ 126 := by omega
    simp [a]

theorem ret_bool {a b : Bool} (h : a = b) : Ending.returned (.bool a) = .returned (.bool b) := by rw [h]
theorem plain_end {s : ByteArray} {k : Nat} (hk : k ≤ s.size) (hlt : ¬ k < s.size) (h : plainTo s k = true) : decide ((s.size : Int) ≤ 24) = plainB s := by
  obtain rfl : k = s.size := by omega
  unfold plainB
  rw [h, Bool.and_true]
  have : ((s.size : Int) ≤ 24) ↔ s.size ≤ 24 := by omega
  exact decide_eq_decide.2 this

set_option maxHeartbeats 400000 in
theorem l1Printed_any (s : ByteArray) (w : World) (hs : s.size ≤ 2 ^ 40) :
    Calls Tryz.prog 20 #[.string s] w fun e w' => e = .returned (.bool (plainB s)) ∧ w' = w := by
  go_enter Tryz.func20, Tryz.ntmps20
  go_wp2
  go_loop [3] (fun i => ∃ k : Nat, k ≤ s.size ∧ i = .int .i64 k ∧ Hid (plainTo s k = true)) (fun i => s.size - (intOf i).toNat)
  case atStart => exact ⟨0, Nat.zero_le _, rfl, rfl⟩
  case round =>
    obtain ⟨k, hk, rfl, HP⟩ := hrel
    by_cases hlt : k < s.size
    · by_cases h0 : (s[k].toNat : Int) < 32
      · have HN : Hid (plainB s = false) := plainTo_no s k hlt (okByte_false (.inl h0))
        go_wp2
        go_ret
        exact ⟨ret_bool HN.out.symm, rfl⟩
      · by_cases h1 : 126 < (s[k].toNat : Int)
        · have HN : Hid (plainB s = false) := plainTo_no s k hlt (okByte_false (.inr h1))
          go_wp2
          go_ret
          exact ⟨ret_bool HN.out.symm, rfl⟩
        · have HN : Hid (plainTo s (k + 1) = true) := by show _ = _; rw [plainTo_succ s k hlt, HP.out, okByte_true (by omega) (by omega)]; rfl
          go_wp2
          go_round
          case rel => exact ⟨k + 1, by omega, by go_num, HN⟩
          case measure => simp [intOf]; omega
    · go_wp2
      go_ret
      exact ⟨ret_bool (plain_end hk hlt HP.out), rfl⟩

set_option maxHeartbeats 400000 in
theorem isPlainByte_yes (c : Int) (w : World) (h0 : 32 ≤ c) (h1 : c ≤ 126) : Calls Tryz.prog 88 #[.int .u8 c] w fun e w' => e = .returned (.bool true) ∧ w' = w := by
  go_enter Tryz.func88, Tryz.ntmps88
  go_wp2
  go_ret
  exact ⟨rfl, rfl⟩
set_option maxHeartbeats 400000 in
theorem isPlainByte_low (c : Int) (w : World) (h0 : c < 32) : Calls Tryz.prog 88 #[.int .u8 c] w fun e w' => e = .returned (.bool false) ∧ w' = w := by
  go_enter Tryz.func88, Tryz.ntmps88
  go_wp2
  go_ret
  exact ⟨rfl, rfl⟩
set_option maxHeartbeats 400000 in
theorem isPlainByte_high (c : Int) (w : World) (h0 : 126 < c) : Calls Tryz.prog 88 #[.int .u8 c] w fun e w' => e = .returned (.bool false) ∧ w' = w := by
  have h1 : 32 ≤ c := by omega
  have h2 : decide (c ≤ 126) = false := by simp; omega
  go_enter Tryz.func88, Tryz.ntmps88
  go_wp2
  go_ret
  exact ⟨rfl, rfl⟩

set_option maxHeartbeats 400000 in
theorem isPlain_any (s : ByteArray) (w : World) (hs : s.size ≤ 2 ^ 40) :
    Calls Tryz.prog 76 #[.string s] w fun e w' => e = .returned (.bool (plainB s)) ∧ w' = w := by
  by_cases h24 : 24 < (s.size : Int)
  · have HN : Hid (plainB s = false) := by show _ = _; unfold plainB; rw [decide_eq_false (by omega), Bool.false_and]
    go_enter Tryz.func76, Tryz.ntmps76
    go_wp2
    go_ret
    exact ⟨ret_bool HN.out.symm, rfl⟩
  · go_enter Tryz.func76, Tryz.ntmps76
    go_wp2
    go_loop [9] (fun i => ∃ k : Nat, k ≤ s.size ∧ i = .int .i64 k ∧ Hid (plainTo s k = true)) (fun i => s.size - (intOf i).toNat)
    case atStart => exact ⟨0, Nat.zero_le _, rfl, rfl⟩
    case round =>
      obtain ⟨k, hk, rfl, HP⟩ := hrel
      by_cases hlt : k < s.size
      · by_cases h0 : (s[k].toNat : Int) < 32
        · have HN : Hid (plainB s = false) := plainTo_no s k hlt (okByte_false (.inl h0))
          go_wp2_with (go_at_call 88; refine (isPlainByte_low _ _ h0).mono ?_; rintro e w' ⟨rfl, rfl⟩)
          go_ret
          exact ⟨ret_bool HN.out.symm, rfl⟩
        · by_cases h1 : 126 < (s[k].toNat : Int)
          · have HN : Hid (plainB s = false) := plainTo_no s k hlt (okByte_false (.inr h1))
            go_wp2_with (go_at_call 88; refine (isPlainByte_high _ _ h1).mono ?_; rintro e w' ⟨rfl, rfl⟩)
            go_ret
            exact ⟨ret_bool HN.out.symm, rfl⟩
          · have HN : Hid (plainTo s (k + 1) = true) := by show _ = _; rw [plainTo_succ s k hlt, HP.out, okByte_true (by omega) (by omega)]; rfl
            go_wp2_with (go_at_call 88; refine (isPlainByte_yes _ _ (by omega) (by omega)).mono ?_; rintro e w' ⟨rfl, rfl⟩)
            go_round
            case rel => exact ⟨k + 1, by omega, by go_num, HN⟩
            case measure => simp [intOf]; omega
      · go_wp2
        go_ret
        refine ⟨ret_bool ?_, rfl⟩
        rw [← plain_end hk hlt HP.out]
        exact (decide_eq_true (by omega)).symm

end Go.Proofs.YtjbjgkkkkghcgaaGreatDoor
