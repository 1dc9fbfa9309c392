/- Numbers of seven bits a byte. No condition. -/
import Derived.Test.YtikgcgfigcolmaaPoM
import Derived.Laws.BitsAllLaws
namespace Go.Proofs.Ytikgcgfigcolmaa
open Go.RowKit
set_option linter.unusedVariables false

/-- A number below 16384 in seven bits a byte. -/
def sev (n : Int) : List Int := if 128 ≤ n then [n % 128 + 128, n / 128] else [n]
theorem sev_len (n : Int) : (sev n).length ≤ 2 := by unfold sev; split <;> simp
theorem strOf_append (a b : List Int) : strOfNums a ++ strOfNums b = strOfNums (a ++ b) := by
  apply ByteArray.ext
  simp [strOfNums]
theorem strOf_size (a : List Int) : (strOfNums a).size = a.length := strOfNums_size a
theorem add_nums (a b : List Int) (W : World) (ha : a.length ≤ 2 ^ 40) (hb : b.length ≤ 2 ^ 40) : (Op.stringOp .add (strOfNums a) (strOfNums b)).run Try.prog W = .ok (.string (strOfNums (a ++ b))) W := by
  rw [← strOf_append]
  exact run_string_add_sum W _ _ (by rw [strOf_size, strOf_size]; omega)
theorem nil_append (a : ByteArray) : (⟨#[]⟩ : ByteArray) ++ a = a := by
  apply ByteArray.ext
  simp

theorem and127 (n : Int) (h0 : 0 ≤ n) (h1 : n < 16384) : bits BinOp.and IntKind.i64 n 127 = n % 128 := by
  obtain ⟨m, rfl⟩ : ∃ m : Nat, n = (m : Int) := ⟨n.toNat, by omega⟩
  have e : (bits BinOp.and IntKind.i64 (m : Int) 127) = ((m &&& 127 : Nat) : Int) := by
    have hx : m &&& 127 < 2 ^ 7 := Nat.and_lt_two_pow _ (by omega)
    show IntKind.i64.wrap ((BitVec.ofInt 64 (m : Int) &&& BitVec.ofInt 64 ((127 : Nat) : Int)).toNat : Int) = _
    rw [BitVec.toNat_and, ofInt_u64 m (by omega), ofInt_u64 127 (by omega)]
    simp [IntKind.wrap, IntKind.bits, IntKind.signed]
    omega
  rw [e, show (127 : Nat) = 2 ^ 7 - 1 by rfl, Nat.and_two_pow_sub_one_eq_mod]
  omega
theorem or128 (r : Int) (h0 : 0 ≤ r) (h1 : r < 128) : bits BinOp.or IntKind.u8 r 128 = r + 128 := by
  rw [u8_or r 128 h0 (by omega) (by decide) (by decide)]
  obtain ⟨m, rfl⟩ : ∃ m : Nat, r = (m : Int) := ⟨r.toNat, by omega⟩
  have hm : m < 2 ^ 7 := by omega
  rw [Int.toNat_natCast, show (128 : Int).toNat = 2 ^ 7 * 1 by rfl, Nat.or_comm, ← Nat.two_pow_add_eq_or_of_lt hm]
  omega

end Go.Proofs.Ytikgcgfigcolmaa
