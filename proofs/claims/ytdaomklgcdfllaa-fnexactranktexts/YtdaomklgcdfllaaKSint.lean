/- int: how it lies in memory, and what the laws' helpers do with it. No condition. -/
import Derived.Test.YtdaomklgcdfllaaKd
namespace Go.Proofs.Ytdaomklgcdfllaa
open Go.RowKit
set_option linter.unusedVariables false
theorem infoIntS : (Try.prog.info? 3).map (fun i => (i.zero, i.size, i.bytes)) = some (some (.int .i64 0), 1, 8) := by kernel_rfl
theorem makeIntS (n : Nat) (hn : n ≤ 2 ^ 30) (W : World) : (Instr.makeSlice 165 (.int .i64 (n : Int)) (.int .i64 (n : Int))).run Try.prog W = .ok (.slice (some ⟨W.heap.size, 0, none⟩) n n) (W.alloc (.cells (madeCells #[.int .i64 0] (n)) 3)) := by
  obtain ⟨i0, hi, hz0, hz1, hz2⟩ := info_parts infoIntS
  have h := run_make (P := Try.prog) W 165 3 i0 _ Try.underlying165 hi hz0 .i64 .i64 n n (by omega) (by omega) (by rw [hz2]; omega) (by omega)
  rw [hz1] at h
  simpa [Value.cells] using h
theorem cntle_int (x : Int) : kInt.cnt x ≤ 10 * (1 + kInt.sz x) := by show 1 ≤ _; omega
theorem cnt_IntS {l : List Int} (h : (kRow kInt).sz l ≤ 2 ^ 20) : sums kInt.cnt l ≤ 2 ^ 26 := by
  have h1 := sums_le_of kInt.cnt kInt.sz 10 cntle_int l
  have h2 : l.length + sums kInt.sz l ≤ 2 ^ 20 := h
  omega

end Go.Proofs.Ytdaomklgcdfllaa
