/- What came in, opened as data of a kind. No condition. -/
import Derived.Test.YtdlodeklheapgaaKd
import Derived.Test.YtdlodeklheapgaaRows
import Derived.Test.YtdlodeklheapgaaChecked
import Derived.ProofKit
import Derived.OpenShut
import Derived.Deep.DeepHandedRow
import Derived.Deep.Slices
import Derived.Lib.SmallJoins
namespace Go.Proofs.Ytdlodeklheapgaa
open Go.ChangeShapes Go.WideShapes Go.ChangeAt Go.RowKit Go.Deep Go.Joins
set_option linter.unusedVariables false

theorem own : ownKnob Try.prog.godebug = none := by kernel_rfl
theorem laidOut : laidOutB Try.prog = true := by kernel_rfl
theorem add_plainO (b off i : Nat) : (⟨b, off, none⟩ : Addr).add i = ⟨b, off + i, none⟩ := by unfold Addr.add; split <;> simp_all

/-- What is read as a value of the type is data of the kind. -/
def Opens {α : Type} (K : Kd α) (t : TypeId) : Prop := ∀ (H : Type) (enc : TypeId × Value → H) (W : World) (held : Bool) (n : Nat) (cs : List Value) (x : DataW H × List MemPlace), DataW.trod enc Try.prog W 0 (fun _ => true) held n t cs = some x → ∃ d, K.is false W (fun _ => True) cs d

theorem opens_int : Opens kInt 3 := fun H enc W held n cs x h => by
  obtain ⟨k, rfl, _, hw⟩ := DataW.trod_int Try.underlying3 h
  refine ⟨k, rfl, ?_⟩
  simp only [Lit.wf, Bool.and_eq_true, decide_eq_true_eq] at hw
  exact hw
theorem opens_str : Opens kStr 9 := fun H enc W held n cs x h => by
  obtain ⟨k, rfl, _, hw⟩ := DataW.trod_string Try.underlying9 h
  exact ⟨k, rfl, hw⟩
theorem opens_row {α : Type} [Inhabited α] (K : Kd α) (t e : TypeId) (ht : Try.prog.underlying t = some (.slice e)) (hw : Try.prog.cellsOf e = K.wd) (hw0 : 0 < K.wd) (hop : Opens K e) : Opens (kRow K) t := fun H enc W held n cs x h => by
  rcases open_slice ht h with ⟨e, _⟩ | ⟨a, len, cap, m', f', D, Pl, e, _, hl, hm, hmm, _, hx⟩
  · subst e
    exact ⟨[], row_nil K false W _ none 0⟩
  · subst e
    rw [hw] at hx
    have hle : len ≤ m' := by
      rw [hmm]
      split <;> omega
    obtain ⟨N, hN⟩ := @choose_lt (List Value × α) ⟨([], default)⟩ len (fun i y => K.is false W (fun _ => True) y.1 y.2 ∧ ∀ j u, y.1[j]? = some u → W.cell? ((a.add (i * K.wd)).add j) = some u) (fun i hi => by
      obtain ⟨cs', h3, h4⟩ := hx i (by omega)
      obtain ⟨d, hd⟩ := hop H enc W held _ _ _ h4
      obtain ⟨_, _, hcell⟩ := World.cells?_some h3
      refine ⟨(cs', d), hd, fun j u hj => ?_⟩
      rw [hcell j (by
        have := (List.getElem?_eq_some_iff.1 hj).1
        rw [K.len hd] at this
        exact this)]
      exact hj)
    refine ⟨(List.range len).map (fun i => (N i).2), some a, cap, by simp, by simp; omega, fun h => (by cases h), ?_⟩
    by_cases h0 : len = 0
    · subst h0
      exact .inl rfl
    · have hz := hN 0 (by omega)
      have hlz := K.len hz.1
      have c00 := hz.2 0 _ (List.getElem?_eq_getElem (by omega))
      obtain ⟨b, off, spot⟩ := a
      have hsp : spot = none := by
        have := World.cell?_spot c00
        simpa [Addr.add] using this
      subst hsp
      refine .inr ⟨b, off, fun _ _ => True, fun i => (N i).1, rfl, ?_, trivial, fun i y hy => ?_, fun _ _ _ _ => trivial, fun h => by cases h⟩
      · have := World.block_lt_of_cell? _ _ c00
        simpa [Addr.add] using this
      · have hi : i < len := by
          have := (List.getElem?_eq_some_iff.1 hy).1
          simpa using this
        obtain rfl : (N i).2 = y := by simpa [List.getElem?_map, List.getElem?_range hi] using hy
        refine ⟨(hN i hi).1, fun j v hj => ⟨?_, fun h => by cases h⟩⟩
        have := (hN i hi).2 j v hj
        rw [add_plainO, add_plainO] at this
        exact this

set_option maxRecDepth 100000 in
/-- A struct that came in. -/
theorem open_agg {α : Type} {K : Kd α} {t : TypeId} {fs : Array Field} (ht : Try.prog.underlying t = some (.struct fs)) (hop : Opens K t) {H : Type} {enc : TypeId × Value → H} {W : World} {held : Bool} {base : Nat} {v : Value} {d : DataW H} {p : List MemPlace} (hv : Value.okWide Try.prog W .any base t v) (h : DataW.Trod enc Try.prog W 0 (fun _ => true) held t v d p) :
    ∃ C x, v = .agg (List.toArray C) ∧ K.is false W (fun _ => True) C x := by
  obtain ⟨cs, rfl, _⟩ := okWide_struct ht hv
  obtain ⟨fuel, hf⟩ := h
  obtain ⟨x, hx⟩ := hop H enc W held _ _ _ hf
  exact ⟨cs.toList, x, by simp, hx⟩
set_option maxRecDepth 100000 in
/-- A row that came in. -/
theorem open_row {α : Type} {K : Kd α} {t e : TypeId} (ht : Try.prog.underlying t = some (.slice e)) (hop : Opens (kRow K) t) {H : Type} {enc : TypeId × Value → H} {W : World} {held : Bool} {base : Nat} {v : Value} {d : DataW H} {p : List MemPlace} (hv : Value.okWide Try.prog W .any base t v) (h : DataW.Trod enc Try.prog W 0 (fun _ => true) held t v d p) :
    ∃ a n c x, v = .slice a n c ∧ (kRow K).is false W (fun _ => True) [.slice a n c] x := by
  obtain ⟨a, n, c, rfl⟩ := okWide_slice ht hv
  obtain ⟨fuel, hf⟩ := h
  obtain ⟨x, hx⟩ := hop H enc W held _ _ _ hf
  exact ⟨a, n, c, x, rfl, hx⟩

end Go.Proofs.Ytdlodeklheapgaa
