/- The frame of a law over texts: what came in, opened; the library's variables that a search meets. -/
import Derived.Test.YtjohocnfcnjciaaDoorFrame
import Derived.Test.YtjohocnfcnjciaaDoorPathT0
import Derived.SliceStrings
namespace Go.Proofs.YtjohocnfcnjciaaDoor
open Go.ChangeShapes Go.WideShapes Go.ChangeAt Go.RowKit Go.Deep Go.Joins
set_option linter.unusedVariables false

theorem cellsOneStr : Tryd.prog.cellsOf 9 = 1 := by kernel_rfl

set_option maxRecDepth 100000 in
/-- What the world's shape gives: the library's greatest length is a whole number. -/
theorem ml_of {W : World} (h : W.ShapedOpen Tryd.prog) : ML W := Tryd.lays155.s1_3 W h

set_option maxRecDepth 100000 in
/-- A LIST OF TEXTS THAT CAME IN, OPENED. -/
theorem open_strs {H : Type} {enc : TypeId × Value → H} {W : World} {held : Bool} {base : Nat} {v : Value} {d : DataW H} {p : List MemPlace} (hv : Value.okWide Tryd.prog W .any base 38 v) (h : DataW.Trod enc Tryd.prog W 0 (fun _ => true) held 38 v d p) :
    ∃ (a : Option Addr) (n c : Nat) (f : Nat → ByteArray), v = .slice a n c ∧ n ≤ maxLen ∧ ArgS W a n f ∧ ∀ i, i < n → (f i).size ≤ maxLen := by
  obtain ⟨a0, l0, c0, rfl⟩ := okWide_slice Tryd.underlying38 hv
  obtain ⟨fuel, hf⟩ := h
  rcases Go.ChangeShapes.open_strings Tryd.underlying38 Tryd.underlying9 cellsOneStr hf with ⟨e, _⟩ | ⟨a, len, cap, ss, e, _, hl, hm, hlen, _, hcell, hsz⟩
  · have e' : Value.slice a0 l0 c0 = .slice none 0 0 := by simpa [Value.cells] using e
    rw [e']
    exact ⟨none, 0, 0, fun _ => ByteArray.empty, rfl, Nat.zero_le _, .inl rfl, fun i hi => by omega⟩
  · have e' : Value.slice a0 l0 c0 = .slice (some a) len cap := by simpa [Value.cells] using e
    rw [e']
    simp only [if_true] at hlen
    refine ⟨some a, len, cap, fun i => ss.getD i ByteArray.empty, rfl, by omega, ?_, fun i hi => ?_⟩
    · by_cases h0 : len = 0
      · exact .inl h0
      · have c00 := hcell 0 (by omega)
        obtain ⟨b, off, spot⟩ := a
        have hsp : spot = none := by
          have := World.cell?_spot c00
          simpa [Addr.add] using this
        subst hsp
        refine .inr ⟨b, off, rfl, ?_, fun i hi => ?_⟩
        · have := World.block_lt_of_cell? _ _ c00
          simpa [Addr.add] using this
        · have := hcell i (by omega)
          rwa [add_plain] at this
    · apply hsz
      show ss.getD i ByteArray.empty ∈ ss
      rw [List.getD_eq_getElem?_getD, List.getElem?_eq_getElem (by omega)]
      simp

def firstCells : Array Value := (Go.Pinned.utf8FirstZ.map fun (z : Nat) => Value.int .u8 (z : Int)).toArray
def rangeCells : Array Value := #[.int .u8 128, .int .u8 191, .int .u8 160, .int .u8 191, .int .u8 128, .int .u8 159, .int .u8 144, .int .u8 191, .int .u8 128, .int .u8 143] ++ Array.replicate 22 (.int .u8 0)
def layObj (cs : Array Value) : Obj → Obj
  | .cells _ t frozen => .cells cs t frozen
  | o => o
/-- A WORLD FOR THE WITNESS: the library's tables of runes hold what its text lays. -/
def layRunes (w : World) : World := { w with heap := (w.heap.modify 3 (layObj rangeCells)).modify 2 (layObj firstCells) }

end Go.Proofs.YtjohocnfcnjciaaDoor
