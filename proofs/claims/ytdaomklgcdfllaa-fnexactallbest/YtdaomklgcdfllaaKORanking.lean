/- Ranking, opened. No condition. -/
import Derived.Test.YtdaomklgcdfllaaKdO
import Derived.Test.YtdaomklgcdfllaaKRanking
import Derived.Test.YtdaomklgcdfllaaKOScored
namespace Go.Proofs.Ytdaomklgcdfllaa
open Go.ChangeShapes Go.WideShapes Go.ChangeAt Go.RowKit Go.Deep Go.Joins
set_option linter.unusedVariables false

theorem cells_Ranking : Try.prog.cellsOf 84 = 1 := by kernel_rfl
set_option maxRecDepth 100000 in
theorem opens_Ranking : Opens kRanking 84 := fun H enc W held n cs x h => by
  obtain ⟨xs, mm, _, _, hl, hlen, hf⟩ := DataW.trod_struct Try.underlying84 h
  rw [cells_Ranking] at hl
  match cs, hl with
  | [c0], _ =>
    match xs, hlen with
    | [y0], _ =>
      have e0 : DataW.trod enc Try.prog W 0 (fun _ => true) held mm 82 [c0] = some y0 := hf 0 _ rfl
      obtain ⟨d0, h0⟩ := opens_ScoredS _ _ _ _ _ _ _ e0
      exact ⟨d0, h0⟩
theorem opens_RankingS : Opens (kRow kRanking) 34 := opens_row _ _ 84 Try.underlying34 (by rw [cells_Ranking]; rfl) (by decide) opens_Ranking

end Go.Proofs.Ytdaomklgcdfllaa
