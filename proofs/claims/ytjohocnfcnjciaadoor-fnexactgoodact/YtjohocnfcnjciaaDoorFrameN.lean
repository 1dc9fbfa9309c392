/- A list of nodes within what came in, opened. -/
import Derived.Test.YtjohocnfcnjciaaDoorFrameS
namespace Go.Proofs.YtjohocnfcnjciaaDoor
open Go.ChangeShapes Go.WideShapes Go.ChangeAt Go.RowKit Go.Deep Go.Joins
set_option linter.unusedVariables false

section
variable {H : Type} {enc : TypeId × Value → H} {W : World}

set_option maxRecDepth 100000 in
/-- A LIST OF NODES WITHIN, OPENED. -/
theorem open_nodes {held : Bool} {m : Nat} {c0 : Value} {y0 : DataW H × List MemPlace} (h2 : DataW.trod enc Tryd.prog W 0 (fun _ => true) held m 22 [c0] = some y0) :
    ∃ (a : Option Addr) (n c : Nat) (N : Nat → Nd), c0 = .slice a n c ∧ n ≤ maxLen ∧ ArgIs W a n N ∧ ∀ i, i < n → (N i).text.size ≤ maxLen ∧ (N i).name.size ≤ maxLen := by
  rcases open_slice Tryd.underlying22 h2 with ⟨e, _⟩ | ⟨a, len, cap, m', f', D, Pl, e, _, hl, hm, hmm, _, hx⟩
  · simp only [List.cons.injEq, and_true] at e
    subst e
    exact ⟨none, 0, 0, fun _ => zeroNd, rfl, by unfold maxLen; omega, .inl rfl, fun i hi => by omega⟩
  · simp only [List.cons.injEq, and_true] at e
    subst e
    rw [cellsLNode] at hx
    have hle : len ≤ m' := by
      rw [hmm]
      split <;> omega
    obtain ⟨N, hN⟩ := @choose_lt Nd ⟨zeroNd⟩ len (fun i y => (∀ j u, [Value.int .i64 y.kind, .int .i64 y.num, .string y.text, .string y.name, .int .i64 y.up][j]? = some u → W.cell? ((a.add (i * 5)).add j) = some u) ∧ y.text.size ≤ maxLen ∧ y.name.size ≤ maxLen) (fun i hi => by
      obtain ⟨cs', h3, h4⟩ := hx i (by omega)
      obtain ⟨y, rfl, z2, z3⟩ := open_node h4
      obtain ⟨_, _, hcell⟩ := World.cells?_some h3
      refine ⟨y, fun j u hj => ?_, z2, z3⟩
      rw [hcell j (by
        have := (List.getElem?_eq_some_iff.1 hj).1
        simpa using this), hj])
    refine ⟨some a, len, cap, N, rfl, by omega, ?_, fun i hi => (hN i hi).2⟩
    by_cases h0 : len = 0
    · exact .inl h0
    · have c00 := (hN 0 (by omega)).1 0 _ rfl
      obtain ⟨b, off, spot⟩ := a
      have hsp : spot = none := by
        have := World.cell?_spot c00
        simpa [Addr.add] using this
      subst hsp
      refine .inr ⟨b, off, rfl, ?_, fun i hi => ?_⟩
      · have := World.block_lt_of_cell? _ _ c00
        simpa [Addr.add] using this
      · have hc := (hN i hi).1
        have q0 := hc 0 _ rfl
        have q1 := hc 1 _ rfl
        have q2 := hc 2 _ rfl
        have q3 := hc 3 _ rfl
        have q4 := hc 4 _ rfl
        rw [add_plain, add_plain] at q0 q1 q2 q3 q4
        exact ⟨q0, q1, q2, q3, q4⟩

end

end Go.Proofs.YtjohocnfcnjciaaDoor
