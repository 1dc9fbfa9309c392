/- The frame of a law over a filter: what came in, opened. -/
import Derived.Test.YtadlflgflnlhjaaGreatDoorFrameS
import Derived.Test.YtadlflgflnlhjaaGreatDoorFilM
namespace Go.Proofs.YtadlflgflnlhjaaGreatDoor
open Go.ChangeShapes Go.WideShapes Go.ChangeAt Go.RowKit Go.Deep Go.Joins
set_option linter.unusedVariables false

theorem cellsLTerm : Tryz.prog.cellsOf 115 = 4 := by kernel_rfl
theorem cellsLFilter : Tryz.prog.cellsOf 37 = 1 := by kernel_rfl
theorem cellsOneInt : Tryz.prog.cellsOf 3 = 1 := by kernel_rfl

section
variable {H : Type} {enc : TypeId × Value → H} {W : World}

set_option maxRecDepth 100000 in
/-- A LIST OF NODES WITHIN, OPENED. -/
theorem open_nodes {held : Bool} {m : Nat} {c0 : Value} {y0 : DataW H × List MemPlace} (h2 : DataW.trod enc Tryz.prog W 0 (fun _ => true) held m 22 [c0] = some y0) :
    ∃ (a : Option Addr) (n c : Nat) (N : Nat → Nd), c0 = .slice a n c ∧ n ≤ maxLen ∧ ArgIs W a n N ∧ ∀ i, i < n → (N i).text.size ≤ maxLen ∧ (N i).name.size ≤ maxLen := by
  rcases open_slice Tryz.underlying22 h2 with ⟨e, _⟩ | ⟨a, len, cap, m', f', D, Pl, e, _, hl, hm, hmm, _, hx⟩
  · simp only [List.cons.injEq, and_true] at e
    subst e
    exact ⟨none, 0, 0, fun _ => zeroNd, rfl, by unfold maxLen; omega, .inl rfl, fun i hi => by omega⟩
  · simp only [List.cons.injEq, and_true] at e
    subst e
    rw [cellsLNode] at hx
    have hle : len ≤ m' := by
      rw [hmm]
      split <;> omega
    obtain ⟨N, hN⟩ := @choose_lt Nd ⟨zeroNd⟩ len (fun i y => (∀ j u, [Value.int .i64 y.kind, .int .i64 y.num, .string y.text, .string y.name, .int .i64 y.up][j]? = some u → W.cell? ((a.add (i * 5)).add j) = some u) ∧ y.text.size ≤ maxLen ∧ y.name.size ≤ maxLen) (fun i hi => by
      obtain ⟨cs', h3, h4⟩ := hx i (by omega)
      obtain ⟨y, rfl, z2, z3⟩ := open_node h4
      obtain ⟨_, _, hcell⟩ := World.cells?_some h3
      refine ⟨y, fun j u hj => ?_, z2, z3⟩
      rw [hcell j (by
        have := (List.getElem?_eq_some_iff.1 hj).1
        simpa using this), hj])
    refine ⟨some a, len, cap, N, rfl, by omega, ?_, fun i hi => (hN i hi).2⟩
    by_cases h0 : len = 0
    · exact .inl h0
    · have c00 := (hN 0 (by omega)).1 0 _ rfl
      obtain ⟨b, off, spot⟩ := a
      have hsp : spot = none := by
        have := World.cell?_spot c00
        simpa [Addr.add] using this
      subst hsp
      refine .inr ⟨b, off, rfl, ?_, fun i hi => ?_⟩
      · have := World.block_lt_of_cell? _ _ c00
        simpa [Addr.add] using this
      · have hc := (hN i hi).1
        have q0 := hc 0 _ rfl
        have q1 := hc 1 _ rfl
        have q2 := hc 2 _ rfl
        have q3 := hc 3 _ rfl
        have q4 := hc 4 _ rfl
        rw [add_plain, add_plain] at q0 q1 q2 q3 q4
        exact ⟨q0, q1, q2, q3, q4⟩

set_option maxRecDepth 100000 in
/-- A LIST OF WHOLE NUMBERS WITHIN, OPENED. -/
theorem open_kids {held : Bool} {m : Nat} {c0 : Value} {y0 : DataW H × List MemPlace} (h2 : DataW.trod enc Tryz.prog W 0 (fun _ => true) held m 72 [c0] = some y0) :
    ∃ (a : Option Addr) (n c : Nat) (K : Nat → Int), c0 = .slice a n c ∧ n ≤ maxLen ∧ ArgI W a n K := by
  rcases open_slice Tryz.underlying72 h2 with ⟨e, _⟩ | ⟨a, len, cap, m', f', D, Pl, e, _, hl, hm, hmm, _, hx⟩
  · simp only [List.cons.injEq, and_true] at e
    subst e
    exact ⟨none, 0, 0, fun _ => 0, rfl, by unfold maxLen; omega, .inl rfl⟩
  · simp only [List.cons.injEq, and_true] at e
    subst e
    rw [cellsOneInt] at hx
    have hle : len ≤ m' := by
      rw [hmm]
      split <;> omega
    obtain ⟨K, hK⟩ := @choose_lt Int ⟨0⟩ len (fun i y => W.cell? ((a.add (i * 1)).add 0) = some (.int .i64 y)) (fun i hi => by
      obtain ⟨cs', h3, h4⟩ := hx i (by omega)
      obtain ⟨_, _, hcell⟩ := World.cells?_some h3
      obtain ⟨k, r0, _, _⟩ := DataW.trod_int Tryz.underlying3 h4
      subst r0
      refine ⟨k, ?_⟩
      exact hcell 0 (by simp))
    refine ⟨some a, len, cap, K, rfl, by omega, ?_⟩
    by_cases h0 : len = 0
    · exact .inl h0
    · have c00 := hK 0 (by omega)
      obtain ⟨b, off, spot⟩ := a
      have hsp : spot = none := by
        have := World.cell?_spot c00
        simpa [Addr.add] using this
      subst hsp
      refine .inr ⟨b, off, rfl, ?_, fun i hi => ?_⟩
      · have := World.block_lt_of_cell? _ _ c00
        simpa [Addr.add] using this
      · have q0 := hK i hi
        rw [add_plain, add_plain, Nat.mul_one] at q0
        exact q0

set_option maxRecDepth 100000 in
/-- A TERM THAT CAME IN, OPENED. -/
theorem open_term {held : Bool} {n : Nat} {cs : List Value} {x : DataW H × List MemPlace} (h : DataW.trod enc Tryz.prog W 0 (fun _ => true) held n 115 cs = some x) :
    ∃ (c : Tc) (y : Tm), cs = [.int .i64 c.kind, .string c.path, .slice c.va c.vn c.vc, .slice c.ka c.km c.kc] ∧ TermIs W c y ∧ BigT y := by
  obtain ⟨xs, m, _, _, hl, hlen, hf⟩ := DataW.trod_struct Tryz.underlying115 h
  rw [cellsLTerm] at hl
  match cs, hl with
  | [c0, c1, c2, c3], _ =>
    match xs, hlen with
    | [y0, y1, y2, y3], _ =>
      have e0 : DataW.trod enc Tryz.prog W 0 (fun _ => true) held m 3 [c0] = some y0 := hf 0 _ rfl
      have e1 : DataW.trod enc Tryz.prog W 0 (fun _ => true) held m 9 [c1] = some y1 := hf 1 _ rfl
      have e2 : DataW.trod enc Tryz.prog W 0 (fun _ => true) held m 24 [c2] = some y2 := hf 2 _ rfl
      have e3 : DataW.trod enc Tryz.prog W 0 (fun _ => true) held m 72 [c3] = some y3 := hf 3 _ rfl
      obtain ⟨k, r0, _, _⟩ := DataW.trod_int Tryz.underlying3 e0
      obtain ⟨t, r1, _, z1⟩ := DataW.trod_string Tryz.underlying9 e1
      obtain ⟨yy, mm, _, _, h1⟩ := trod_struct1 Tryz.underlying24 e2
      have h2 : DataW.trod enc Tryz.prog W 0 (fun _ => true) held mm 22 [c2] = some yy := h1
      obtain ⟨va, vn, vc, N, rfl, hn, hv, hz⟩ := open_nodes h2
      obtain ⟨ka, km, kc, K, rfl, hm, hk⟩ := open_kids e3
      simp only [List.cons.injEq, and_true] at r0 r1
      subst r0 r1
      exact ⟨⟨k, t, va, vn, vc, ka, km, kc⟩, ⟨k, t, vn, N, km, K⟩, rfl, ⟨rfl, rfl, rfl, rfl, hv, hk⟩, z1, hn, hz, hm⟩

set_option maxRecDepth 100000 in
/-- A FILTER THAT CAME IN, OPENED. -/
theorem open_filter {held : Bool} {base : Nat} {v : Value} {d : DataW H} {p : List MemPlace} (hv : Value.okWide Tryz.prog W .any base 37 v) (h : DataW.Trod enc Tryz.prog W 0 (fun _ => true) held 37 v d p) :
    ∃ (a : Option Addr) (n c : Nat) (F : Nat → Tm), v = .agg #[.slice a n c] ∧ n ≤ maxLen ∧ FArg W a n F ∧ ∀ i, i < n → BigT (F i) := by
  obtain ⟨cs, rfl, hcs⟩ := okWide_struct Tryz.underlying37 hv
  rw [cellsLFilter] at hcs
  obtain ⟨c0, rfl⟩ : ∃ c0, cs = #[c0] := by
    rcases cs with ⟨l⟩
    match l, hcs with
    | [c0], _ => exact ⟨c0, rfl⟩
  obtain ⟨fuel, hf⟩ := h
  obtain ⟨y0, m, _, _, h1⟩ := trod_struct1 Tryz.underlying37 hf
  have h2 : DataW.trod enc Tryz.prog W 0 (fun _ => true) held m 35 [c0] = some y0 := h1
  rcases open_slice Tryz.underlying35 h2 with ⟨e, _⟩ | ⟨a, len, cap, m', f', D, Pl, e, _, hl, hm, hmm, _, hx⟩
  · simp only [List.cons.injEq, and_true] at e
    subst e
    exact ⟨none, 0, 0, fun _ => ⟨0, ⟨#[]⟩, 0, fun _ => zeroNd, 0, fun _ => 0⟩, rfl, by unfold maxLen; omega, .inl rfl, fun i hi => by omega⟩
  · simp only [List.cons.injEq, and_true] at e
    subst e
    rw [cellsLTerm] at hx
    have hle : len ≤ m' := by
      rw [hmm]
      split <;> omega
    obtain ⟨R, hR⟩ := @choose_lt (Tc × Tm) ⟨(zeroTc, ⟨0, ⟨#[]⟩, 0, fun _ => zeroNd, 0, fun _ => 0⟩)⟩ len (fun i x => (∀ j u, [Value.int .i64 x.1.kind, .string x.1.path, .slice x.1.va x.1.vn x.1.vc, .slice x.1.ka x.1.km x.1.kc][j]? = some u → W.cell? ((a.add (i * 4)).add j) = some u) ∧ TermIs W x.1 x.2 ∧ BigT x.2) (fun i hi => by
      obtain ⟨cs', h3, h4⟩ := hx i (by omega)
      obtain ⟨cc, y, rfl, z2, z3⟩ := open_term h4
      obtain ⟨_, _, hcell⟩ := World.cells?_some h3
      refine ⟨(cc, y), fun j u hj => ?_, z2, z3⟩
      rw [hcell j (by
        have := (List.getElem?_eq_some_iff.1 hj).1
        simpa using this), hj])
    refine ⟨some a, len, cap, fun i => (R i).2, rfl, by omega, ?_, fun i hi => (hR i hi).2.2⟩
    by_cases h0 : len = 0
    · exact .inl h0
    · have c00 := (hR 0 (by omega)).1 0 _ rfl
      obtain ⟨b, off, spot⟩ := a
      have hsp : spot = none := by
        have := World.cell?_spot c00
        simpa [Addr.add] using this
      subst hsp
      refine .inr ⟨b, off, fun i => (R i).1, rfl, ?_, fun i hi => ?_, fun i hi => (hR i hi).2.1⟩
      · have := World.block_lt_of_cell? _ _ c00
        simpa [Addr.add] using this
      · have hc := (hR i hi).1
        have q0 := hc 0 _ rfl
        have q1 := hc 1 _ rfl
        have q2 := hc 2 _ rfl
        have q3 := hc 3 _ rfl
        rw [add_plain, add_plain] at q0 q1 q2 q3
        exact ⟨q0, q1, q2, q3⟩
end

end Go.Proofs.YtadlflgflnlhjaaGreatDoor
