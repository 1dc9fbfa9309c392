/- Scored: how it lies in memory, and what the laws' helpers do with it. No condition. -/
import Derived.Test.YtikgcgfigcolmaaKd
namespace Go.Proofs.Ytikgcgfigcolmaa
open Go.RowKit
set_option linter.unusedVariables false

/-- Scored, as data. -/
abbrev DScored := Int × Int
def kScored : Kd DScored := kPair kInt kInt
theorem kScored_open {o : Bool} {w : World} {S : Nat → Prop} {vs : List Value} {x0 : Int} {x1 : Int} (h : kScored.is o w S vs (x0, x1)) : vs = [.int .i64 x0, .int .i64 x1] ∧ IntOk x0 ∧ IntOk x1 := by
  obtain ⟨P0, Q0, v0, u0, rfl, ⟨rfl, g0⟩, ⟨rfl, g1⟩, s0, q0, d0⟩ := h
  exact ⟨rfl, g0, g1⟩
theorem kScored_shut {o : Bool} {w : World} {S : Nat → Prop} {x0 : Int} {x1 : Int} (g0 : IntOk x0) (g1 : IntOk x1) : kScored.is o w S [.int .i64 x0, .int .i64 x1] (x0, x1) := 
  ⟨fun _ => False, fun _ => False, _, _, rfl, ⟨rfl, g0⟩, ⟨rfl, g1⟩, fun k hk => hk.elim, (fun k hk => hk.elim), (fun e k hk hk' => hk.elim)⟩

theorem infoScoredS : (Try.prog.info? 60).map (fun i => (i.zero, i.size, i.bytes)) = some (some (.agg #[.int .i64 0, .int .i64 0]), 2, 16) := by kernel_rfl
theorem makeScoredS (n : Nat) (hn : n ≤ 2 ^ 30) (W : World) : (Instr.makeSlice 50 (.int .i64 (n : Int)) (.int .i64 (n : Int))).run Try.prog W = .ok (.slice (some ⟨W.heap.size, 0, none⟩) n n) (W.alloc (.cells (madeCells #[.int .i64 0, .int .i64 0] (n * 2)) 60)) := by
  obtain ⟨i0, hi, hz0, hz1, hz2⟩ := info_parts infoScoredS
  have h := run_make (P := Try.prog) W 50 60 i0 _ Try.underlying50 hi hz0 .i64 .i64 n n (by omega) (by omega) (by rw [hz2]; omega) (by omega)
  rw [hz1] at h
  simpa [Value.cells] using h
theorem cntle_Scored (x : DScored) : kScored.cnt x ≤ 10 * (1 + kScored.sz x) := by
  obtain ⟨x0, x1⟩ := x
  show 1 + (1) ≤ 10 * (1 + (0 + (0)))
  omega
theorem cnt_ScoredS {l : List DScored} (h : (kRow kScored).sz l ≤ 2 ^ 20) : sums kScored.cnt l ≤ 2 ^ 26 := by
  have h1 := sums_le_of kScored.cnt kScored.sz 10 cntle_Scored l
  have h2 : l.length + sums kScored.sz l ≤ 2 ^ 20 := h
  omega

end Go.Proofs.Ytikgcgfigcolmaa
