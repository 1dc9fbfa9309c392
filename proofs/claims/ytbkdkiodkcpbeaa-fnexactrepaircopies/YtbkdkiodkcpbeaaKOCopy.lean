/- Copy, opened. No condition. -/
import Derived.Test.YtbkdkiodkcpbeaaKdO
import Derived.Test.YtbkdkiodkcpbeaaKCopy
namespace Go.Proofs.Ytbkdkiodkcpbeaa
open Go.ChangeShapes Go.WideShapes Go.ChangeAt Go.RowKit Go.Deep Go.Joins
set_option linter.unusedVariables false

theorem cells_Copy : Try.prog.cellsOf 107 = 3 := by kernel_rfl
set_option maxRecDepth 100000 in
theorem opens_Copy : Opens kCopy 107 := fun H enc W held n cs x h => by
  obtain ⟨xs, mm, _, _, hl, hlen, hf⟩ := DataW.trod_struct Try.underlying107 h
  rw [cells_Copy] at hl
  match cs, hl with
  | [c0, c1, c2], _ =>
    match xs, hlen with
    | [y0, y1, y2], _ =>
      have e0 : DataW.trod enc Try.prog W 0 (fun _ => true) held mm 3 [c0] = some y0 := hf 0 _ rfl
      obtain ⟨d0, h0⟩ := opens_int _ _ _ _ _ _ _ e0
      have e1 : DataW.trod enc Try.prog W 0 (fun _ => true) held mm 3 [c1] = some y1 := hf 1 _ rfl
      obtain ⟨d1, h1⟩ := opens_int _ _ _ _ _ _ _ e1
      have e2 : DataW.trod enc Try.prog W 0 (fun _ => true) held mm 9 [c2] = some y2 := hf 2 _ rfl
      obtain ⟨d2, h2⟩ := opens_str _ _ _ _ _ _ _ e2
      exact ⟨(d0, d1, d2), ⟨fun _ => True, fun _ => True, _, _, rfl, h0, ⟨fun _ => True, fun _ => True, _, _, rfl, h1, h2, fun _ _ => trivial, fun _ _ => trivial, fun h => by cases h⟩, fun _ _ => trivial, fun _ _ => trivial, fun h => by cases h⟩⟩
theorem opens_CopyS : Opens (kRow kCopy) 56 := opens_row _ _ 107 Try.underlying56 (by rw [cells_Copy]; rfl) (by decide) opens_Copy

end Go.Proofs.Ytbkdkiodkcpbeaa
