/- The sentinel of nulls in maps, out of the row's list; a world that holds it. -/
import Derived.Test.YteeomicblaljnaaDoorFrame
import Derived.Test.YteeomicblaljnaaDoorCleanO
import Derived.OpenVars
import Derived.LaidLaws
namespace Go.Proofs.YteeomicblaljnaaDoor
open Go.ChangeShapes Go.WideShapes Go.ChangeAt Go.RowKit
set_option linter.unusedVariables false

theorem gErr : Tryd.prog.globalNamed "loop.example/g00274/impl.errNull" = some 0 := by kernel_rfl
theorem gErrType : (Tryd.prog.globals[0]?).map (·.type) = some 54 := by kernel_rfl
theorem cellsES : Tryd.prog.cellsOf 162 = 1 := by kernel_rfl
theorem cellsStr : Tryd.prog.cellsOf 9 = 1 := by kernel_rfl
theorem star : "*" ++ "errors.errorString" = "*errors.errorString" := by decide
theorem rowES (u : TypeId) (h : Tryd.prog.typeName? 3 u = some "*errors.errorString") : u = 141 :=
  typeName_ptr_named (nm := "errors.errorString") (by rw [star]; kernel_rfl) (by kernel_rfl) (by decide) u (by rw [star]; exact h)

/-- WHAT THE ROW's LIST GIVES: the sentinel. -/
theorem err_of {W : World} {x y z : String × DataW Unit} {rest : List (String × DataW Unit)} (h : laidMet Tryd.prog (x :: y :: z :: ("loop.example/g00274/impl.errNull", Rows.laid_loop_example_g00274_impl_errNull) :: rest) W) : ErrAt W := by
  obtain ⟨a, s, hv, _, _, _⟩ := laid_sentinel (laidMet.tail (laidMet.tail (laidMet.tail h))) gErr gErrType Tryd.underlying54 rowES Tryd.underlying141 Tryd.underlying162 rfl rfl Tryd.underlying9 cellsES cellsStr
  have hc : W.cell? ⟨0, 0, none⟩ = some (.iface 141 (.pointer (some a))) := by simpa using World.var?_cell gErr hv 0
  exact ⟨World.block_lt_of_cell? _ _ hc, a, hc⟩

noncomputable def low : Nat := (World.holding Tryd.prog default ⟨#[], #[], []⟩).heap.size
noncomputable def layErr : Obj → Obj
  | .cells _ t frozen => .cells #[.iface 141 (.pointer (some ⟨low, 0, none⟩))] t frozen
  | o => o
/-- A WORLD FOR THE WITNESS: the tables and the sentinel as their initialisers lay them. -/
noncomputable def layClean (os : Os) : World :=
  let w0 := layTabs (World.holding Tryd.prog os ⟨#[.cells #[.string ⟨#[97, 32, 109, 97, 112, 32, 104, 97, 115, 32, 97, 32, 110, 117, 108, 108]⟩] 162], #[], []⟩)
  { w0 with heap := w0.heap.modify 0 layErr }

end Go.Proofs.YteeomicblaljnaaDoor
