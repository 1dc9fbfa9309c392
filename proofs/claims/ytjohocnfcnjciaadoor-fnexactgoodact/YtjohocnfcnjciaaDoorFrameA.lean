/- The frame of a law over an act: what came in, opened. -/
import Derived.Test.YtjohocnfcnjciaaDoorFrameN
namespace Go.Proofs.YtjohocnfcnjciaaDoor
open Go.ChangeShapes Go.WideShapes Go.ChangeAt Go.RowKit Go.Deep Go.Joins
set_option linter.unusedVariables false

theorem cellsLAct : Tryd.prog.cellsOf 26 = 3 := by kernel_rfl

section
variable {H : Type} {enc : TypeId × Value → H} {W : World}

set_option maxRecDepth 100000 in
/-- AN ACT'S CELLS, OPENED. -/
theorem open_act0 {held : Bool} {n : Nat} {cs : List Value} {x : DataW H × List MemPlace} (h : DataW.trod enc Tryd.prog W 0 (fun _ => true) held n 26 cs = some x) :
    ∃ (k : Int) (p : ByteArray) (a : Option Addr) (n c : Nat) (N : Nat → Nd), cs = [.int .i64 k, .string p, .slice a n c] ∧ p.size ≤ maxLen ∧ n ≤ maxLen ∧ ArgIs W a n N ∧ ∀ i, i < n → (N i).text.size ≤ maxLen ∧ (N i).name.size ≤ maxLen := by
  obtain ⟨xs, m, _, _, hl, hlen, hf⟩ := DataW.trod_struct Tryd.underlying26 h
  rw [cellsLAct] at hl
  match cs, hl with
  | [c0, c1, c2], _ =>
    match xs, hlen with
    | [y0, y1, y2], _ =>
      have e0 : DataW.trod enc Tryd.prog W 0 (fun _ => true) held m 3 [c0] = some y0 := hf 0 _ rfl
      have e1 : DataW.trod enc Tryd.prog W 0 (fun _ => true) held m 9 [c1] = some y1 := hf 1 _ rfl
      have e2 : DataW.trod enc Tryd.prog W 0 (fun _ => true) held m 24 [c2] = some y2 := hf 2 _ rfl
      obtain ⟨k, r0, _, _⟩ := DataW.trod_int Tryd.underlying3 e0
      obtain ⟨t, r1, _, z1⟩ := DataW.trod_string Tryd.underlying9 e1
      obtain ⟨yy, mm, _, _, h1⟩ := trod_struct1 Tryd.underlying24 e2
      have h2 : DataW.trod enc Tryd.prog W 0 (fun _ => true) held mm 22 [c2] = some yy := h1
      obtain ⟨va, vn, vc, N, rfl, hn, hv, hz⟩ := open_nodes h2
      simp only [List.cons.injEq, and_true] at r0 r1
      subst r0 r1
      exact ⟨k, t, va, vn, vc, N, rfl, z1, hn, hv, hz⟩

set_option maxRecDepth 100000 in
/-- AN ACT THAT CAME IN, OPENED. -/
theorem open_act {held : Bool} {base : Nat} {v : Value} {d : DataW H} {p : List MemPlace} (hv : Value.okWide Tryd.prog W .any base 26 v) (h : DataW.Trod enc Tryd.prog W 0 (fun _ => true) held 26 v d p) :
    ∃ (k : Int) (t : ByteArray) (a : Option Addr) (n c : Nat) (N : Nat → Nd), v = .agg #[.int .i64 k, .string t, .slice a n c] ∧ t.size ≤ maxLen ∧ n ≤ maxLen ∧ ArgIs W a n N ∧ ∀ i, i < n → (N i).text.size ≤ maxLen ∧ (N i).name.size ≤ maxLen := by
  obtain ⟨cs, rfl, hcs⟩ := okWide_struct Tryd.underlying26 hv
  obtain ⟨fuel, hf⟩ := h
  obtain ⟨k, t, a, n, c, N, e, h1, h2, h3, h4⟩ := open_act0 hf
  refine ⟨k, t, a, n, c, N, ?_, h1, h2, h3, h4⟩
  rcases cs with ⟨l⟩
  simp only [Value.cells] at e
  first
    | (subst e; rfl)
    | (simp at e; subst e; rfl)
end

end Go.Proofs.YtjohocnfcnjciaaDoor
