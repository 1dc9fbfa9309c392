/- The frame of a law over a treap: what came in, opened. -/
import Derived.Test.YtnmbnebofbdmfaaTpB
import Derived.Test.YtnmbnebofbdmfaaRows
import Derived.Test.YtnmbnebofbdmfaaChecked
import Derived.ProofKit
import Derived.OpenShut
import Derived.Deep.DeepHandedRow
import Derived.Deep.Slices
import Derived.Lib.SmallJoins
namespace Go.Proofs.Ytnmbnebofbdmfaa
open Go.ChangeShapes Go.WideShapes Go.ChangeAt Go.RowKit Go.Deep Go.Joins
set_option linter.unusedVariables false

theorem own : ownKnob Try.prog.godebug = none := by kernel_rfl
theorem laidOut : laidOutB Try.prog = true := by kernel_rfl
theorem cellsLLimb : Try.prog.cellsOf 53 = 4 := by kernel_rfl
theorem cellsLTreap : Try.prog.cellsOf 24 = 1 := by kernel_rfl

section
variable {H : Type} {enc : TypeId × Value → H} {W : World}

set_option maxRecDepth 100000 in
/-- A LIMB THAT CAME IN, OPENED. -/
theorem open_limb {held : Bool} {n : Nat} {cs : List Value} {x : DataW H × List MemPlace} (h : DataW.trod enc Try.prog W 0 (fun _ => true) held n 53 cs = some x) :
    ∃ y : Lb, cs = [.string y.key, .string y.val, .int .i64 y.left, .int .i64 y.right] ∧ y.key.size ≤ maxLen ∧ y.val.size ≤ maxLen := by
  obtain ⟨xs, m, _, _, hl, hlen, hf⟩ := DataW.trod_struct Try.underlying53 h
  rw [cellsLLimb] at hl
  match cs, hl with
  | [c0, c1, c2, c3], _ =>
    match xs, hlen with
    | [y0, y1, y2, y3], _ =>
      have e0 : DataW.trod enc Try.prog W 0 (fun _ => true) held m 9 [c0] = some y0 := hf 0 _ rfl
      have e1 : DataW.trod enc Try.prog W 0 (fun _ => true) held m 9 [c1] = some y1 := hf 1 _ rfl
      have e2 : DataW.trod enc Try.prog W 0 (fun _ => true) held m 3 [c2] = some y2 := hf 2 _ rfl
      have e3 : DataW.trod enc Try.prog W 0 (fun _ => true) held m 3 [c3] = some y3 := hf 3 _ rfl
      obtain ⟨t, r0, _, z0⟩ := DataW.trod_string Try.underlying9 e0
      obtain ⟨m', r1, _, z1⟩ := DataW.trod_string Try.underlying9 e1
      obtain ⟨k, r2, _, _⟩ := DataW.trod_int Try.underlying3 e2
      obtain ⟨u, r3, _, _⟩ := DataW.trod_int Try.underlying3 e3
      simp only [List.cons.injEq, and_true] at r0 r1 r2 r3
      subst r0 r1 r2 r3
      exact ⟨⟨t, m', k, u⟩, rfl, z0, z1⟩

theorem add_plainT (b off i : Nat) : (⟨b, off, none⟩ : Addr).add i = ⟨b, off + i, none⟩ := by unfold Addr.add; split <;> simp_all

set_option maxRecDepth 100000 in
/-- A TREAP THAT CAME IN, OPENED. -/
theorem open_treap {held : Bool} {base : Nat} {v : Value} {d : DataW H} {p : List MemPlace} (hv : Value.okWide Try.prog W .any base 24 v) (h : DataW.Trod enc Try.prog W 0 (fun _ => true) held 24 v d p) :
    ∃ (a : Option Addr) (n c : Nat) (N : Nat → Lb), v = .agg #[.slice a n c] ∧ n ≤ maxLen ∧ ArgR W a n N ∧ ∀ i, i < n → (N i).key.size ≤ maxLen ∧ (N i).val.size ≤ maxLen := by
  obtain ⟨cs, rfl, hcs⟩ := okWide_struct Try.underlying24 hv
  rw [cellsLTreap] at hcs
  obtain ⟨c0, rfl⟩ : ∃ c0, cs = #[c0] := by
    rcases cs with ⟨l⟩
    match l, hcs with
    | [c0], _ => exact ⟨c0, rfl⟩
  obtain ⟨fuel, hf⟩ := h
  obtain ⟨y0, m, _, _, h1⟩ := trod_struct1 Try.underlying24 hf
  have h2 : DataW.trod enc Try.prog W 0 (fun _ => true) held m 22 [c0] = some y0 := h1
  rcases open_slice Try.underlying22 h2 with ⟨e, _⟩ | ⟨a, len, cap, m', f', D, Pl, e, _, hl, hm, hmm, _, hx⟩
  · simp only [List.cons.injEq, and_true] at e
    subst e
    exact ⟨none, 0, 0, fun _ => zeroLb, rfl, by unfold maxLen; omega, .inl rfl, fun i hi => by omega⟩
  · simp only [List.cons.injEq, and_true] at e
    subst e
    have hmc : m' = cap := by rw [hmm]; rfl
    subst hmc
    rw [cellsLLimb] at hx
    obtain ⟨N, hN⟩ := @choose_lt Lb ⟨zeroLb⟩ len (fun i y => (∀ j u, [Value.string y.key, .string y.val, .int .i64 y.left, .int .i64 y.right][j]? = some u → W.cell? ((a.add (i * 4)).add j) = some u) ∧ y.key.size ≤ maxLen ∧ y.val.size ≤ maxLen) (fun i hi => by
      obtain ⟨cs', h3, h4⟩ := hx i (by omega)
      obtain ⟨y, rfl, z2, z3⟩ := open_limb h4
      obtain ⟨_, _, hcell⟩ := World.cells?_some h3
      refine ⟨y, fun j u hj => ?_, z2, z3⟩
      rw [hcell j (by
        have := (List.getElem?_eq_some_iff.1 hj).1
        simpa using this), hj])
    refine ⟨some a, len, m', N, rfl, by omega, ?_, fun i hi => (hN i hi).2⟩
    by_cases h0 : len = 0
    · exact .inl h0
    · have c00 := (hN 0 (by omega)).1 0 _ rfl
      obtain ⟨b, off, spot⟩ := a
      have hsp : spot = none := by
        have := World.cell?_spot c00
        simpa [Addr.add] using this
      subst hsp
      refine .inr ⟨b, off, rfl, ?_, fun i hi => ?_⟩
      · have := World.block_lt_of_cell? _ _ c00
        simpa [Addr.add] using this
      · have hc := (hN i hi).1
        have q0 := hc 0 _ rfl
        have q1 := hc 1 _ rfl
        have q2 := hc 2 _ rfl
        have q3 := hc 3 _ rfl
        rw [add_plainT, add_plainT] at q0 q1 q2 q3
        exact ⟨q0, q1, q2, q3⟩
end

end Go.Proofs.Ytnmbnebofbdmfaa
