/- Entry, opened. No condition. -/
import Derived.Test.YtcnlmpdpimhcbaaKdO
import Derived.Test.YtcnlmpdpimhcbaaKEntry
import Derived.Test.YtcnlmpdpimhcbaaKOPosting
namespace Go.Proofs.Ytcnlmpdpimhcbaa
open Go.ChangeShapes Go.WideShapes Go.ChangeAt Go.RowKit Go.Deep Go.Joins
set_option linter.unusedVariables false

theorem cells_Entry : Try.prog.cellsOf 151 = 2 := by kernel_rfl
set_option maxRecDepth 100000 in
theorem opens_Entry : Opens kEntry 151 := fun H enc W held n cs x h => by
  obtain ⟨xs, mm, _, _, hl, hlen, hf⟩ := DataW.trod_struct Try.underlying151 h
  rw [cells_Entry] at hl
  match cs, hl with
  | [c0, c1], _ =>
    match xs, hlen with
    | [y0, y1], _ =>
      have e0 : DataW.trod enc Try.prog W 0 (fun _ => true) held mm 9 [c0] = some y0 := hf 0 _ rfl
      obtain ⟨d0, h0⟩ := opens_str _ _ _ _ _ _ _ e0
      have e1 : DataW.trod enc Try.prog W 0 (fun _ => true) held mm 149 [c1] = some y1 := hf 1 _ rfl
      obtain ⟨d1, h1⟩ := opens_PostingS _ _ _ _ _ _ _ e1
      exact ⟨(d0, d1), ⟨fun _ => True, fun _ => True, _, _, rfl, h0, h1, fun _ _ => trivial, fun _ _ => trivial, fun h => by cases h⟩⟩
theorem opens_EntryS : Opens (kRow kEntry) 44 := opens_row _ _ 151 Try.underlying44 (by rw [cells_Entry]; rfl) (by decide) opens_Entry

end Go.Proofs.Ytcnlmpdpimhcbaa
