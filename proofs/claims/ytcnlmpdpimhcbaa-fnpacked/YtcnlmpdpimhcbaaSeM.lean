/- Numbers of seven bits a byte. No condition. -/
import Derived.Test.YtcnlmpdpimhcbaaPoM
import Derived.Laws.BitsAllLaws
namespace Go.Proofs.Ytcnlmpdpimhcbaa
open Go.RowKit
set_option linter.unusedVariables false

/-- A number below 16384 in seven bits a byte. -/
def sev (n : Int) : List Int := if 128 ≤ n then [n % 128 + 128, n / 128] else [n]
theorem sev_len (n : Int) : (sev n).length ≤ 2 := by unfold sev; split <;> simp
theorem strOf_append (a b : List Int) : strOfNums a ++ strOfNums b = strOfNums (a ++ b) := by
  apply ByteArray.ext
  simp [strOfNums]
theorem strOf_size (a : List Int) : (strOfNums a).size = a.length := strOfNums_size a
theorem add_nums (a b : List Int) (W : World) (ha : a.length ≤ 2 ^ 40) (hb : b.length ≤ 2 ^ 40) : (Op.stringOp .add (strOfNums a) (strOfNums b)).run Try.prog W = .ok (.string (strOfNums (a ++ b))) W := by
  rw [← strOf_append]
  exact run_string_add_sum W _ _ (by rw [strOf_size, strOf_size]; omega)
theorem nil_append (a : ByteArray) : (⟨#[]⟩ : ByteArray) ++ a = a := by
  apply ByteArray.ext
  simp

theorem and127 (n : Int) (h0 : 0 ≤ n) (h1 : n < 16384) : bits BinOp.and IntKind.i64 n 127 = n % 128 := by
  obtain ⟨m, rfl⟩ : ∃ m : Nat, n = (m : Int) := ⟨n.toNat, by omega⟩
  have e : (bits BinOp.and IntKind.i64 (m : Int) 127) = ((m &&& 127 : Nat) : Int) := by
    have hx : m &&& 127 < 2 ^ 7 := Nat.and_lt_two_pow _ (by omega)
    show IntKind.i64.wrap ((BitVec.ofInt 64 (m : Int) &&& BitVec.ofInt 64 ((127 : Nat) : Int)).toNat : Int) = _
    rw [BitVec.toNat_and, ofInt_u64 m (by omega), ofInt_u64 127 (by omega)]
    simp [IntKind.wrap, IntKind.bits, IntKind.signed]
    omega
  rw [e, show (127 : Nat) = 2 ^ 7 - 1 by rfl, Nat.and_two_pow_sub_one_eq_mod]
  omega
theorem or128 (r : Int) (h0 : 0 ≤ r) (h1 : r < 128) : bits BinOp.or IntKind.u8 r 128 = r + 128 := by
  rw [u8_or r 128 h0 (by omega) (by decide) (by decide)]
  obtain ⟨m, rfl⟩ : ∃ m : Nat, r = (m : Int) := ⟨r.toNat, by omega⟩
  have hm : m < 2 ^ 7 := by omega
  rw [Int.toNat_natCast, show (128 : Int).toNat = 2 ^ 7 * 1 by rfl, Nat.or_comm, ← Nat.two_pow_add_eq_or_of_lt hm]
  omega

set_option maxRecDepth 10000 in
set_option maxHeartbeats 1000000 in
theorem l10Num_k (n : Int) (w : World) (h0 : 0 ≤ n) (h1 : n < 16384) : Calls Try.prog 114 #[.int .i64 n] w fun e w' => e = .returned (.string (strOfNums (sev n))) ∧ Below w.heap.size w w' := by
  go_enter Try.func114, Try.ntmps114
  go_wp2
  go_loopw [0, 3] (fun v s wr => ∃ (m : Int) (acc : List Int), v = .int .i64 m ∧ s = .string (strOfNums acc) ∧ 0 ≤ m ∧ m < 16384 ∧ acc.length ≤ 2 ∧ Hid (acc ++ sev m = sev n) ∧ Hid (acc = [] ∨ m < 128) ∧ Below w.heap.size w wr) (fun v _ _ => (intOf v).toNat)
  case atStart => exact ⟨n, [], rfl, rfl, h0, h1, by decide, rfl, .inl rfl, Below.refl _ _⟩
  case round =>
    obtain ⟨m, acc, rfl, rfl, m0, m1, ha, HI, HJ, hnx⟩ := hrel
    have hcv := conv_one
    have zw := hnx.size
    have z0 : (strOfNums acc).size ≤ 2 := by rw [strOf_size]; exact ha
    by_cases h2 : 128 ≤ m
    · have hand := and127 m m0 m1
      have hm : 0 ≤ m % 128 ∧ m % 128 < 128 := by omega
      have hor := or128 (m % 128) hm.1 hm.2
      have he : acc = [] := by rcases HJ.out with h | h; exact h; omega
      subst he
      have HI2 : Hid ([m % 128 + 128] ++ sev (m / 128) = sev n) := by
        have := HI.out
        rw [sev, if_pos h2] at this
        show _ = _
        rw [sev, if_neg (by omega)]
        exact this
      obtain ⟨r, hr⟩ : ∃ r, r = m % 128 := ⟨_, rfl⟩
      rw [← hr] at hand hor HI2 hm
      have z1 : (strOfNums [r + 128]).size = 1 := rfl
      have HR : Hid (r = m % 128) := hr
      obtain ⟨r0, r1⟩ := hm
      have hj : strOfNums [] ++ strOfNums [r + 128] = strOfNums [r + 128] := by rw [strOf_append]; rfl
      clear hr HI HJ
      go_wp2
      go_roundw
      case rel => exact ⟨m / 128, [r + 128], by go_num, rfl, by omega, by omega, by simp, HI2, .inr (by omega), hnx.alloc zw _⟩
      case measure => simp [intOf]; omega
    · have HS : Hid (strOfNums acc ++ strOfNums [m] = strOfNums (sev n)) := by
        have := HI.out
        rw [sev, if_neg h2] at this
        show _ = _
        rw [strOf_append, this]
      have z1 : (strOfNums [m]).size = 1 := rfl
      clear HI HJ
      go_wp2
      go_ret
      exact ⟨by rw [← HS.out]; rfl, hnx.alloc zw _⟩
end Go.Proofs.Ytcnlmpdpimhcbaa
