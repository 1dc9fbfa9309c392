/- What came in, opened as data of a kind. No condition. Posting, opened. No condition. Entry, opened. No condition. Words, opened. No condition. string, opened. No condition. -/
import Derived.Test.YtdaomklgcdfllaaKd
import Derived.Test.YtdaomklgcdfllaaRows
import Derived.Test.YtdaomklgcdfllaaChecked
import Derived.ProofKit
import Derived.OpenShut
import Derived.Deep.DeepHandedRow
import Derived.Deep.Slices
import Derived.Lib.SmallJoins
import Derived.Test.YtdaomklgcdfllaaKPosting
import Derived.Test.YtdaomklgcdfllaaKEntry
import Derived.Test.YtdaomklgcdfllaaKWords
import Derived.Test.YtdaomklgcdfllaaKSstring
namespace Go.Proofs.Ytdaomklgcdfllaa
open Go.ChangeShapes Go.WideShapes Go.ChangeAt Go.RowKit Go.Deep Go.Joins
set_option linter.unusedVariables false

theorem own : ownKnob Try.prog.godebug = none := by kernel_rfl
theorem laidOut : laidOutB Try.prog = true := by kernel_rfl
theorem add_plainO (b off i : Nat) : (⟨b, off, none⟩ : Addr).add i = ⟨b, off + i, none⟩ := by unfold Addr.add; split <;> simp_all

/-- What is read as a value of the type is data of the kind. -/
def Opens {α : Type} (K : Kd α) (t : TypeId) : Prop := ∀ (H : Type) (enc : TypeId × Value → H) (W : World) (held : Bool) (n : Nat) (cs : List Value) (x : DataW H × List MemPlace), DataW.trod enc Try.prog W 0 (fun _ => true) held n t cs = some x → ∃ d, K.is false W (fun _ => True) cs d

theorem opens_int : Opens kInt 3 := fun H enc W held n cs x h => by
  obtain ⟨k, rfl, _, hw⟩ := DataW.trod_int Try.underlying3 h
  refine ⟨k, rfl, ?_⟩
  simp only [Lit.wf, Bool.and_eq_true, decide_eq_true_eq] at hw
  exact hw
theorem opens_str : Opens kStr 9 := fun H enc W held n cs x h => by
  obtain ⟨k, rfl, _, hw⟩ := DataW.trod_string Try.underlying9 h
  exact ⟨k, rfl, hw⟩
theorem opens_row {α : Type} [Inhabited α] (K : Kd α) (t e : TypeId) (ht : Try.prog.underlying t = some (.slice e)) (hw : Try.prog.cellsOf e = K.wd) (hw0 : 0 < K.wd) (hop : Opens K e) : Opens (kRow K) t := fun H enc W held n cs x h => by
  rcases open_slice ht h with ⟨e, _⟩ | ⟨a, len, cap, m', f', D, Pl, e, _, hl, hm, hmm, _, hx⟩
  · subst e
    exact ⟨[], row_nil K false W _ none 0⟩
  · subst e
    rw [hw] at hx
    have hle : len ≤ m' := by
      rw [hmm]
      split <;> omega
    obtain ⟨N, hN⟩ := @choose_lt (List Value × α) ⟨([], default)⟩ len (fun i y => K.is false W (fun _ => True) y.1 y.2 ∧ ∀ j u, y.1[j]? = some u → W.cell? ((a.add (i * K.wd)).add j) = some u) (fun i hi => by
      obtain ⟨cs', h3, h4⟩ := hx i (by omega)
      obtain ⟨d, hd⟩ := hop H enc W held _ _ _ h4
      obtain ⟨_, _, hcell⟩ := World.cells?_some h3
      refine ⟨(cs', d), hd, fun j u hj => ?_⟩
      rw [hcell j (by
        have := (List.getElem?_eq_some_iff.1 hj).1
        rw [K.len hd] at this
        exact this)]
      exact hj)
    refine ⟨(List.range len).map (fun i => (N i).2), some a, cap, by simp, by simp; omega, fun h => (by cases h), ?_⟩
    by_cases h0 : len = 0
    · subst h0
      exact .inl rfl
    · have hz := hN 0 (by omega)
      have hlz := K.len hz.1
      have c00 := hz.2 0 _ (List.getElem?_eq_getElem (by omega))
      obtain ⟨b, off, spot⟩ := a
      have hsp : spot = none := by
        have := World.cell?_spot c00
        simpa [Addr.add] using this
      subst hsp
      refine .inr ⟨b, off, fun _ _ => True, fun i => (N i).1, rfl, ?_, trivial, fun i y hy => ?_, fun _ _ _ _ => trivial, fun h => by cases h⟩
      · have := World.block_lt_of_cell? _ _ c00
        simpa [Addr.add] using this
      · have hi : i < len := by
          have := (List.getElem?_eq_some_iff.1 hy).1
          simpa using this
        obtain rfl : (N i).2 = y := by simpa [List.getElem?_map, List.getElem?_range hi] using hy
        refine ⟨(hN i hi).1, fun j v hj => ⟨?_, fun h => by cases h⟩⟩
        have := (hN i hi).2 j v hj
        rw [add_plainO, add_plainO] at this
        exact this

set_option maxRecDepth 100000 in
/-- A struct that came in. -/
theorem open_agg {α : Type} {K : Kd α} {t : TypeId} {fs : Array Field} (ht : Try.prog.underlying t = some (.struct fs)) (hop : Opens K t) {H : Type} {enc : TypeId × Value → H} {W : World} {held : Bool} {base : Nat} {v : Value} {d : DataW H} {p : List MemPlace} (hv : Value.okWide Try.prog W .any base t v) (h : DataW.Trod enc Try.prog W 0 (fun _ => true) held t v d p) :
    ∃ C x, v = .agg (List.toArray C) ∧ K.is false W (fun _ => True) C x := by
  obtain ⟨cs, rfl, _⟩ := okWide_struct ht hv
  obtain ⟨fuel, hf⟩ := h
  obtain ⟨x, hx⟩ := hop H enc W held _ _ _ hf
  exact ⟨cs.toList, x, by simp, hx⟩
set_option maxRecDepth 100000 in
/-- A row that came in. -/
theorem open_row {α : Type} {K : Kd α} {t e : TypeId} (ht : Try.prog.underlying t = some (.slice e)) (hop : Opens (kRow K) t) {H : Type} {enc : TypeId × Value → H} {W : World} {held : Bool} {base : Nat} {v : Value} {d : DataW H} {p : List MemPlace} (hv : Value.okWide Try.prog W .any base t v) (h : DataW.Trod enc Try.prog W 0 (fun _ => true) held t v d p) :
    ∃ a n c x, v = .slice a n c ∧ (kRow K).is false W (fun _ => True) [.slice a n c] x := by
  obtain ⟨a, n, c, rfl⟩ := okWide_slice ht hv
  obtain ⟨fuel, hf⟩ := h
  obtain ⟨x, hx⟩ := hop H enc W held _ _ _ hf
  exact ⟨a, n, c, x, rfl, hx⟩

end Go.Proofs.Ytdaomklgcdfllaa
namespace Go.Proofs.Ytdaomklgcdfllaa
open Go.ChangeShapes Go.WideShapes Go.ChangeAt Go.RowKit Go.Deep Go.Joins
set_option linter.unusedVariables false

theorem cells_Posting : Try.prog.cellsOf 172 = 2 := by kernel_rfl
set_option maxRecDepth 100000 in
theorem opens_Posting : Opens kPosting 172 := fun H enc W held n cs x h => by
  obtain ⟨xs, mm, _, _, hl, hlen, hf⟩ := DataW.trod_struct Try.underlying172 h
  rw [cells_Posting] at hl
  match cs, hl with
  | [c0, c1], _ =>
    match xs, hlen with
    | [y0, y1], _ =>
      have e0 : DataW.trod enc Try.prog W 0 (fun _ => true) held mm 3 [c0] = some y0 := hf 0 _ rfl
      obtain ⟨d0, h0⟩ := opens_int _ _ _ _ _ _ _ e0
      have e1 : DataW.trod enc Try.prog W 0 (fun _ => true) held mm 3 [c1] = some y1 := hf 1 _ rfl
      obtain ⟨d1, h1⟩ := opens_int _ _ _ _ _ _ _ e1
      exact ⟨(d0, d1), ⟨fun _ => True, fun _ => True, _, _, rfl, h0, h1, fun _ _ => trivial, fun _ _ => trivial, fun h => by cases h⟩⟩
theorem opens_PostingS : Opens (kRow kPosting) 130 := opens_row _ _ 172 Try.underlying130 (by rw [cells_Posting]; rfl) (by decide) opens_Posting

end Go.Proofs.Ytdaomklgcdfllaa
namespace Go.Proofs.Ytdaomklgcdfllaa
open Go.ChangeShapes Go.WideShapes Go.ChangeAt Go.RowKit Go.Deep Go.Joins
set_option linter.unusedVariables false

theorem cells_Entry : Try.prog.cellsOf 132 = 2 := by kernel_rfl
set_option maxRecDepth 100000 in
theorem opens_Entry : Opens kEntry 132 := fun H enc W held n cs x h => by
  obtain ⟨xs, mm, _, _, hl, hlen, hf⟩ := DataW.trod_struct Try.underlying132 h
  rw [cells_Entry] at hl
  match cs, hl with
  | [c0, c1], _ =>
    match xs, hlen with
    | [y0, y1], _ =>
      have e0 : DataW.trod enc Try.prog W 0 (fun _ => true) held mm 9 [c0] = some y0 := hf 0 _ rfl
      obtain ⟨d0, h0⟩ := opens_str _ _ _ _ _ _ _ e0
      have e1 : DataW.trod enc Try.prog W 0 (fun _ => true) held mm 130 [c1] = some y1 := hf 1 _ rfl
      obtain ⟨d1, h1⟩ := opens_PostingS _ _ _ _ _ _ _ e1
      exact ⟨(d0, d1), ⟨fun _ => True, fun _ => True, _, _, rfl, h0, h1, fun _ _ => trivial, fun _ _ => trivial, fun h => by cases h⟩⟩
theorem opens_EntryS : Opens (kRow kEntry) 52 := opens_row _ _ 132 Try.underlying52 (by rw [cells_Entry]; rfl) (by decide) opens_Entry

end Go.Proofs.Ytdaomklgcdfllaa
namespace Go.Proofs.Ytdaomklgcdfllaa
open Go.ChangeShapes Go.WideShapes Go.ChangeAt Go.RowKit Go.Deep Go.Joins
set_option linter.unusedVariables false

theorem cells_Words : Try.prog.cellsOf 54 = 2 := by kernel_rfl
set_option maxRecDepth 100000 in
theorem opens_Words : Opens kWords 54 := fun H enc W held n cs x h => by
  obtain ⟨xs, mm, _, _, hl, hlen, hf⟩ := DataW.trod_struct Try.underlying54 h
  rw [cells_Words] at hl
  match cs, hl with
  | [c0, c1], _ =>
    match xs, hlen with
    | [y0, y1], _ =>
      have e0 : DataW.trod enc Try.prog W 0 (fun _ => true) held mm 3 [c0] = some y0 := hf 0 _ rfl
      obtain ⟨d0, h0⟩ := opens_int _ _ _ _ _ _ _ e0
      have e1 : DataW.trod enc Try.prog W 0 (fun _ => true) held mm 52 [c1] = some y1 := hf 1 _ rfl
      obtain ⟨d1, h1⟩ := opens_EntryS _ _ _ _ _ _ _ e1
      exact ⟨(d0, d1), ⟨fun _ => True, fun _ => True, _, _, rfl, h0, h1, fun _ _ => trivial, fun _ _ => trivial, fun h => by cases h⟩⟩
end Go.Proofs.Ytdaomklgcdfllaa
namespace Go.Proofs.Ytdaomklgcdfllaa
open Go.ChangeShapes Go.WideShapes Go.ChangeAt Go.RowKit Go.Deep Go.Joins
set_option linter.unusedVariables false

theorem opens_stringS : Opens (kRow kStr) 22 := opens_row _ _ 9 Try.underlying22 (by kernel_rfl) (by decide) opens_str

end Go.Proofs.Ytdaomklgcdfllaa
