/- Scored, opened. No condition. -/
import Derived.Test.YtdaomklgcdfllaaKdO
import Derived.Test.YtdaomklgcdfllaaKScored
namespace Go.Proofs.Ytdaomklgcdfllaa
open Go.ChangeShapes Go.WideShapes Go.ChangeAt Go.RowKit Go.Deep Go.Joins
set_option linter.unusedVariables false

theorem cells_Scored : Try.prog.cellsOf 145 = 2 := by kernel_rfl
set_option maxRecDepth 100000 in
theorem opens_Scored : Opens kScored 145 := fun H enc W held n cs x h => by
  obtain ⟨xs, mm, _, _, hl, hlen, hf⟩ := DataW.trod_struct Try.underlying145 h
  rw [cells_Scored] at hl
  match cs, hl with
  | [c0, c1], _ =>
    match xs, hlen with
    | [y0, y1], _ =>
      have e0 : DataW.trod enc Try.prog W 0 (fun _ => true) held mm 3 [c0] = some y0 := hf 0 _ rfl
      obtain ⟨d0, h0⟩ := opens_int _ _ _ _ _ _ _ e0
      have e1 : DataW.trod enc Try.prog W 0 (fun _ => true) held mm 3 [c1] = some y1 := hf 1 _ rfl
      obtain ⟨d1, h1⟩ := opens_int _ _ _ _ _ _ _ e1
      exact ⟨(d0, d1), ⟨fun _ => True, fun _ => True, _, _, rfl, h0, h1, fun _ _ => trivial, fun _ _ => trivial, fun h => by cases h⟩⟩
theorem opens_ScoredS : Opens (kRow kScored) 82 := opens_row _ _ 145 Try.underlying82 (by rw [cells_Scored]; rfl) (by decide) opens_Scored

end Go.Proofs.Ytdaomklgcdfllaa
