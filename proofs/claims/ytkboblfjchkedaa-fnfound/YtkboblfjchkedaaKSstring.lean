/- string: how it lies in memory, and what the laws' helpers do with it. No condition. -/
import Derived.Test.YtkboblfjchkedaaKd
namespace Go.Proofs.Ytkboblfjchkedaa
open Go.RowKit
set_option linter.unusedVariables false
theorem infoStringS : (Try.prog.info? 9).map (fun i => (i.zero, i.size, i.bytes)) = some (some (.string ⟨#[]⟩), 1, 16) := by kernel_rfl
theorem makeStringS (n : Nat) (hn : n ≤ 2 ^ 30) (W : World) : (Instr.makeSlice 43 (.int .i64 (n : Int)) (.int .i64 (n : Int))).run Try.prog W = .ok (.slice (some ⟨W.heap.size, 0, none⟩) n n) (W.alloc (.cells (madeCells #[.string ⟨#[]⟩] (n)) 9)) := by
  obtain ⟨i0, hi, hz0, hz1, hz2⟩ := info_parts infoStringS
  have h := run_make (P := Try.prog) W 43 9 i0 _ Try.underlying43 hi hz0 .i64 .i64 n n (by omega) (by omega) (by rw [hz2]; omega) (by omega)
  rw [hz1] at h
  simpa [Value.cells] using h
theorem cntle_string (x : ByteArray) : kStr.cnt x ≤ 10 * (1 + kStr.sz x) := by show 1 ≤ _; omega
theorem cnt_StringS {l : List ByteArray} (h : (kRow kStr).sz l ≤ 2 ^ 20) : sums kStr.cnt l ≤ 2 ^ 26 := by
  have h1 := sums_le_of kStr.cnt kStr.sz 10 cntle_string l
  have h2 : l.length + sums kStr.sz l ≤ 2 ^ 20 := h
  omega

end Go.Proofs.Ytkboblfjchkedaa
