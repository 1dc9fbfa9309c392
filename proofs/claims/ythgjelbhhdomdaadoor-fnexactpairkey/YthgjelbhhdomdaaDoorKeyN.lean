/- The four bytes of a number: the program. -/
import Derived.Test.YthgjelbhhdomdaaDoorTrKey
import Derived.Test.YthgjelbhhdomdaaDoorGoodOwn
import Derived.Test.YthgjelbhhdomdaaDoorJoin
namespace Go.Proofs.YthgjelbhhdomdaaDoor
open Go.RowKit
set_option linter.unusedVariables false

theorem make_bytes (n : Nat) (hn : n ≤ 2 ^ 30) (W : World) : (Instr.makeSlice 104 (.int .i64 (n : Int)) (.int .i64 (n : Int))).run Tryd.prog W = .ok (.slice (some ⟨W.heap.size, 0, none⟩) n n) (W.alloc (.cells (madeCells #[.int .u8 0] n) 5)) := by
  obtain ⟨i0, hi, hz0, hz1, hz2⟩ := info_parts infoU8
  have h := run_make (P := Tryd.prog) W 104 5 i0 _ Tryd.underlying104 hi hz0 .i64 .i64 n n (by omega) (by omega) (by rw [hz2]; omega) (by omega)
  rw [hz1] at h
  simpa [Value.cells] using h

theorem make_four (W : World) : (Instr.makeSlice 104 (.int .i64 4) (.int .i64 4)).run Tryd.prog W = .ok (.slice (some ⟨W.heap.size, 0, none⟩) 4 4) (W.alloc (.cells #[.int .u8 0, .int .u8 0, .int .u8 0, .int .u8 0] 5)) := by
  have h := make_bytes 4 (by omega) W
  have e : madeCells #[Value.int .u8 0] 4 = #[.int .u8 0, .int .u8 0, .int .u8 0, .int .u8 0] := by
    apply Array.ext_getElem?
    intro i
    by_cases hi : i < 4
    · rw [made_one _ 4 i hi]
      match i, hi with
      | 0, _ => rfl
      | 1, _ => rfl
      | 2, _ => rfl
      | 3, _ => rfl
    · rw [Array.getElem?_eq_none (by simp [madeCells]; omega), Array.getElem?_eq_none (by simp; omega)]
  rw [e] at h
  exact h

/-- 'string(out)' of four bytes. -/
theorem conv_four (W : World) (a b c d : Int) : (convert 104 9 (.slice (some ⟨W.heap.size, 0, none⟩) 4 4)).run Tryd.prog (W.alloc (.cells #[.int .u8 a, .int .u8 b, .int .u8 c, .int .u8 d] 5)) = .ok (.string (strOfNums [a, b, c, d])) (W.alloc (.cells #[.int .u8 a, .int .u8 b, .int .u8 c, .int .u8 d] 5)) :=
  run_convert_bytes_arg _ 104 5 Tryd.underlying104 Tryd.underlying5 _ 0 4 4 [a, b, c, d] rfl (fun i hi => by
    match i, hi with
    | 0, _ => simp [World.cell?_alloc_new]
    | 1, _ => simp [World.cell?_alloc_new]
    | 2, _ => simp [World.cell?_alloc_new]
    | 3, _ => simp [World.cell?_alloc_new]) 9 Tryd.underlying9

theorem num_four (m : Nat) (hm : m ≤ 2000000000) : strOfNums [(m : Int) / 256 / 256 / 256, (m : Int) / 256 / 256 % 256, (m : Int) / 256 % 256, (m : Int) % 256] = strL (num4 ((m : Int) - 1000000000)) := by
  unfold strOfNums strL num4
  have e : ((m : Int) - 1000000000 + 1000000000).toNat = m := by omega
  have e0 : ((m : Int) / 256 / 256 / 256).toNat = m / 16777216 % 256 := by omega
  have e1 : ((m : Int) / 256 / 256 % 256).toNat = m / 65536 % 256 := by omega
  have e2 : ((m : Int) / 256 % 256).toNat = m / 256 % 256 := by omega
  have e3 : ((m : Int) % 256).toNat = m % 256 := by omega
  simp only [List.map_cons, List.map_nil, e, e0, e1, e2, e3]

set_option maxRecDepth 100000 in
set_option maxHeartbeats 2000000 in
theorem keyOfNumber_any (z : Int) (w : World) (h0 : -1000000000 ≤ z) (h1 : z ≤ 1000000000) :
    Calls Tryd.prog 116 #[.int .i64 z] w fun e w' => e = .returned (.string (strL (num4 z))) ∧ Below w.heap.size w w' := by
  obtain ⟨m, hm⟩ := Int.eq_ofNat_of_zero_le (show 0 ≤ z + 1000000000 by omega)
  have hmb : m ≤ 2000000000 := by omega
  obtain rfl : z = (m : Int) - 1000000000 := by omega
  have hmk := make_four w
  go_enter Tryd.func116, Tryd.ntmps116
  have hcv := conv_four w
  have HR : Hid (strOfNums [(m : Int) / 256 / 256 / 256, (m : Int) / 256 / 256 % 256, (m : Int) / 256 % 256, (m : Int) % 256] = strL (num4 ((m : Int) - 1000000000))) := num_four m hmb
  go_wp2_with fail
  go_rounds 5
  go_ret
  exact ⟨by rw [← HR.out]; rfl, by go_grown⟩

end Go.Proofs.YthgjelbhhdomdaaDoor
