/- The table of kinds, out of the row's list. -/
import Derived.Test.YthgjelbhhdomdaaDoorFrame
import Derived.Test.YthgjelbhhdomdaaDoorKeyOwn0
import Derived.OpenVars
namespace Go.Proofs.YthgjelbhhdomdaaDoor
open Go.ChangeShapes Go.WideShapes Go.ChangeAt Go.RowKit
set_option linter.unusedVariables false

theorem gMarks : Tryd.prog.globalNamed "loop.example/g00274/impl.kindMarks" = some 0 := by kernel_rfl
theorem gMarksType : (Tryd.prog.globals[0]?).map (·.type) = some 133 := by kernel_rfl
theorem cellsMarks : Tryd.prog.cellsOf 133 = 8 := by kernel_rfl
theorem cellsStr : Tryd.prog.cellsOf 9 = 1 := by kernel_rfl

/-- WHAT THE ROW's LIST GIVES: the table of kinds. -/
theorem marks_of {W : World} {x y z : String × DataW Unit} {rest : List (String × DataW Unit)} (h : laidMet Tryd.prog (x :: y :: z :: ("loop.example/g00274/impl.kindMarks", Rows.laid_loop_example_g00274_impl_kindMarks) :: rest) W) : Marks W := by
  obtain ⟨ps, ⟨g, t, cs, fuel, p, q, hg, ht, hvar, hd, _, _⟩, _⟩ := laidMet.tail (laidMet.tail (laidMet.tail h))
  obtain rfl := Option.some.inj (gMarks.symm.trans hg)
  obtain rfl := Option.some.inj (gMarksType.symm.trans ht)
  have hc := World.var?_cell hg hvar
  cases fuel with
  | zero => simp [DataW.trod] at hd
  | succ fuel =>
    simp only [DataW.trod, Tryd.underlying133, cellsStr, cellsMarks, Nat.mul_one] at hd
    split at hd
    · obtain ⟨xs, hm, hx⟩ := Option.map_eq_some_iff.1 hd
      have hxs : xs.map (·.1) = [.lit (.string []), .lit (.string [1]), .lit (.string [2]), .lit (.string [3]), .lit (.string [4]), .lit (.string [5]), .lit (.string [6]), .lit (.string [7])] := by
        have := congrArg Prod.fst hx
        simpa [Rows.laid_loop_example_g00274_impl_kindMarks] using this
      have hall : ∀ k : Nat, 1 ≤ k → k ≤ 7 → W.cell? ⟨0, k, none⟩ = some (.string (strL [kindB k])) := fun k h1 h7 => by
        obtain ⟨b, hb, hf⟩ := Lib.mapM_at hm k k (List.getElem?_range (show k < 8 by omega))
        obtain ⟨s, hs, rfl, _⟩ := DataW.trod_string Tryd.underlying9 hf
        have e1 : cs.toList[k]? = some (.string s) := by
          have := congrArg (·[0]?) hs
          simpa [List.getElem?_take, List.getElem?_drop] using this
        have e2 : (xs.map (·.1))[k]? = some (.lit (.string s.data.toList)) := by simp [hb]
        rw [hxs] at e2
        have e3 : s.data.toList = [kindB k] := by
          match k, h1, h7 with
          | 1, _, _ => exact (show s.data.toList = [1] by simpa using e2.symm).trans rfl
          | 2, _, _ => exact (show s.data.toList = [2] by simpa using e2.symm).trans rfl
          | 3, _, _ => exact (show s.data.toList = [3] by simpa using e2.symm).trans rfl
          | 4, _, _ => exact (show s.data.toList = [4] by simpa using e2.symm).trans rfl
          | 5, _, _ => exact (show s.data.toList = [5] by simpa using e2.symm).trans rfl
          | 6, _, _ => exact (show s.data.toList = [6] by simpa using e2.symm).trans rfl
          | 7, _, _ => exact (show s.data.toList = [7] by simpa using e2.symm).trans rfl
        rw [hc k, ← Array.getElem?_toList, e1, strL_text s, e3]
      exact ⟨World.block_lt_of_cell? _ _ (hall 1 (by omega) (by omega)), hall⟩
    · cases hd

def layText : Obj → Obj
  | .cells _ t frozen => .cells #[.string ⟨#[]⟩, .string ⟨#[1]⟩, .string ⟨#[2]⟩, .string ⟨#[3]⟩, .string ⟨#[4]⟩, .string ⟨#[5]⟩, .string ⟨#[6]⟩, .string ⟨#[7]⟩] t frozen
  | o => o
def layMarks (w : World) : World := { layTabs w with heap := (layTabs w).heap.modify 0 layText }

end Go.Proofs.YthgjelbhhdomdaaDoor
