/- The frame of a law over a value: what came in, opened; the library's table of powers of ten. The frame of a law over texts: what came in, opened; the library's variables that a search meets. A list of nodes within what came in, opened. The frame of a law over a filter: what came in, opened. The table of kinds, out of the row's list. -/
import Derived.Test.YtjbjgkkkkghcgaaGreatDoorCards
import Derived.Test.YtjbjgkkkkghcgaaGreatDoorTie
import Derived.Test.YtjbjgkkkkghcgaaGreatDoorGoodI
import Derived.ProofKit
import Derived.OpenShut
import Derived.Deep.DeepHandedRow
import Derived.Deep.Slices
import Derived.Lib.LaidTab
import Derived.Stop.LaidErr
import Derived.Lib.SmallJoins
import Derived.Test.YtjbjgkkkkghcgaaGreatDoorQPathO
import Derived.SliceStrings
import Derived.Test.YtjbjgkkkkghcgaaGreatDoorQClT
import Derived.Test.YtjbjgkkkkghcgaaGreatDoorQKeyOwn0
import Derived.OpenVars
namespace Go.Proofs.YtjbjgkkkkghcgaaGreatDoor
open Go.ChangeShapes Go.WideShapes Go.ChangeAt Go.RowKit Go.Deep Go.Joins
set_option linter.unusedVariables false

theorem own : ownKnob Tryz.prog.godebug = none := by kernel_rfl
theorem laidOut : laidOutB Tryz.prog = true := by kernel_rfl
theorem gPow : Tryz.prog.globalNamed "internal/strconv.uint64pow10" = some 4 := by kernel_rfl
theorem gPowType : (Tryz.prog.globals[4]?).map (·.type) = some 171 := by kernel_rfl
theorem cellsPow : Tryz.prog.cellsOf 171 = 20 := by kernel_rfl
theorem cellsU64 : Tryz.prog.cellsOf 153 = 1 := by kernel_rfl
theorem cellsLNode : Tryz.prog.cellsOf 123 = 5 := by kernel_rfl
theorem cellsLValue : Tryz.prog.cellsOf 53 = 1 := by kernel_rfl

theorem powData {H : Type} : (Rows.laid_internal_strconv_uint64pow10 : DataW H) = Lib.tabData .u64 Lib.pow10Tab := by kernel_rfl

/-- WHAT THE ROWS' LIST GIVES: the powers of ten. -/
theorem table {W : World} {x y : String × DataW Unit} {rest : List (String × DataW Unit)} (h : laidMet Tryz.prog (x :: y :: ("internal/strconv.uint64pow10", Rows.laid_internal_strconv_uint64pow10) :: rest) W) : Tab W.heap.size W := by
  refine Lib.tabBelow_of_tabIs ?_
  have h2 := laidMet.tail (laidMet.tail h)
  exact Lib.tabIs_of_head (rest := rest) gPow gPowType Tryz.underlying171 Tryz.underlying153 cellsU64 cellsPow h2

def tabCells (k : IntKind) (zs : List Int) : Array Value := (zs.map fun z => Value.int k z).toArray
def bits32 : List Int := [0, 1, 28, 2, 29, 14, 24, 3, 30, 22, 20, 15, 25, 17, 4, 8, 31, 27, 13, 23, 21, 19, 16, 7, 26, 12, 18, 6, 11, 5, 10, 9]
def bits64 : List Int := [0, 1, 56, 2, 57, 49, 28, 3, 61, 58, 42, 50, 38, 29, 17, 4, 62, 47, 59, 36, 45, 43, 51, 22, 53, 39, 33, 30, 24, 18, 12, 5, 63, 55, 48, 27, 60, 41, 37, 16, 46, 35, 44, 21, 52, 32, 23, 11, 54, 26, 40, 15, 34, 20, 31, 10, 25, 14, 19, 9, 13, 8, 7, 6]

def layTab (k : IntKind) (zs : List Int) : Obj → Obj
  | .cells _ t frozen => .cells (tabCells k zs) t frozen
  | o => o
/-- A WORLD FOR THE WITNESS: the tables hold what their initialisers lay. -/
def layTabs (w : World) : World := { w with heap := ((w.heap.modify 4 (layTab .u64 Lib.pow10Tab)).modify 5 (layTab .u8 bits32)).modify 6 (layTab .u8 bits64) }

section
variable {H : Type} {enc : TypeId × Value → H} {W : World}

set_option maxRecDepth 100000 in
/-- A NODE THAT CAME IN, OPENED. -/
theorem open_node {held : Bool} {n : Nat} {cs : List Value} {x : DataW H × List MemPlace} (h : DataW.trod enc Tryz.prog W 0 (fun _ => true) held n 123 cs = some x) :
    ∃ y : Nd, cs = [.int .i64 y.kind, .int .i64 y.num, .string y.text, .string y.name, .int .i64 y.up] ∧ y.text.size ≤ maxLen ∧ y.name.size ≤ maxLen := by
  obtain ⟨xs, m, _, _, hl, hlen, hf⟩ := DataW.trod_struct Tryz.underlying123 h
  rw [cellsLNode] at hl
  match cs, hl with
  | [c0, c1, c2, c3, c4], _ =>
    match xs, hlen with
    | [y0, y1, y2, y3, y4], _ =>
      have e0 : DataW.trod enc Tryz.prog W 0 (fun _ => true) held m 3 [c0] = some y0 := hf 0 _ rfl
      have e1 : DataW.trod enc Tryz.prog W 0 (fun _ => true) held m 3 [c1] = some y1 := hf 1 _ rfl
      have e2 : DataW.trod enc Tryz.prog W 0 (fun _ => true) held m 9 [c2] = some y2 := hf 2 _ rfl
      have e3 : DataW.trod enc Tryz.prog W 0 (fun _ => true) held m 9 [c3] = some y3 := hf 3 _ rfl
      have e4 : DataW.trod enc Tryz.prog W 0 (fun _ => true) held m 3 [c4] = some y4 := hf 4 _ rfl
      obtain ⟨k, r0, _, _⟩ := DataW.trod_int Tryz.underlying3 e0
      obtain ⟨u, r1, _, _⟩ := DataW.trod_int Tryz.underlying3 e1
      obtain ⟨t, r2, _, z2⟩ := DataW.trod_string Tryz.underlying9 e2
      obtain ⟨m', r3, _, z3⟩ := DataW.trod_string Tryz.underlying9 e3
      obtain ⟨p, r4, _, _⟩ := DataW.trod_int Tryz.underlying3 e4
      simp only [List.cons.injEq, and_true] at r0 r1 r2 r3 r4
      subst r0 r1 r2 r3 r4
      exact ⟨⟨k, u, t, m', p⟩, rfl, z2, z3⟩

set_option maxRecDepth 100000 in
/-- A VALUE THAT CAME IN, OPENED. -/
theorem open_value {held : Bool} {base : Nat} {v : Value} {d : DataW H} {p : List MemPlace} (hv : Value.okWide Tryz.prog W .any base 53 v) (h : DataW.Trod enc Tryz.prog W 0 (fun _ => true) held 53 v d p) :
    ∃ (a : Option Addr) (n c : Nat) (N : Nat → Nd), v = .agg #[.slice a n c] ∧ n ≤ maxLen ∧ ArgIs W a n N ∧ ∀ i, i < n → (N i).text.size ≤ maxLen ∧ (N i).name.size ≤ maxLen := by
  obtain ⟨cs, rfl, hcs⟩ := okWide_struct Tryz.underlying53 hv
  rw [cellsLValue] at hcs
  obtain ⟨c0, rfl⟩ : ∃ c0, cs = #[c0] := by
    rcases cs with ⟨l⟩
    match l, hcs with
    | [c0], _ => exact ⟨c0, rfl⟩
  obtain ⟨fuel, hf⟩ := h
  obtain ⟨y0, m, _, _, h1⟩ := trod_struct1 Tryz.underlying53 hf
  have h2 : DataW.trod enc Tryz.prog W 0 (fun _ => true) held m 51 [c0] = some y0 := h1
  rcases open_slice Tryz.underlying51 h2 with ⟨e, _⟩ | ⟨a, len, cap, m', f', D, Pl, e, _, hl, hm, hmm, _, hx⟩
  · simp only [List.cons.injEq, and_true] at e
    subst e
    exact ⟨none, 0, 0, fun _ => zeroNd, rfl, by unfold maxLen; omega, .inl rfl, fun i hi => by omega⟩
  · simp only [List.cons.injEq, and_true] at e
    subst e
    have hmc : m' = cap := by rw [hmm]; rfl
    subst hmc
    rw [cellsLNode] at hx
    obtain ⟨N, hN⟩ := @choose_lt Nd ⟨zeroNd⟩ len (fun i y => (∀ j u, [Value.int .i64 y.kind, .int .i64 y.num, .string y.text, .string y.name, .int .i64 y.up][j]? = some u → W.cell? ((a.add (i * 5)).add j) = some u) ∧ y.text.size ≤ maxLen ∧ y.name.size ≤ maxLen) (fun i hi => by
      obtain ⟨cs', h3, h4⟩ := hx i (by omega)
      obtain ⟨y, rfl, z2, z3⟩ := open_node h4
      obtain ⟨_, _, hcell⟩ := World.cells?_some h3
      refine ⟨y, fun j u hj => ?_, z2, z3⟩
      rw [hcell j (by
        have := (List.getElem?_eq_some_iff.1 hj).1
        simpa using this), hj])
    refine ⟨some a, len, m', N, rfl, by omega, ?_, fun i hi => (hN i hi).2⟩
    by_cases h0 : len = 0
    · exact .inl h0
    · have c00 := (hN 0 (by omega)).1 0 _ rfl
      obtain ⟨b, off, spot⟩ := a
      have hsp : spot = none := by
        have := World.cell?_spot c00
        simpa [Addr.add] using this
      subst hsp
      refine .inr ⟨b, off, rfl, ?_, fun i hi => ?_⟩
      · have := World.block_lt_of_cell? _ _ c00
        simpa [Addr.add] using this
      · have hc := (hN i hi).1
        have q0 := hc 0 _ rfl
        have q1 := hc 1 _ rfl
        have q2 := hc 2 _ rfl
        have q3 := hc 3 _ rfl
        have q4 := hc 4 _ rfl
        rw [add_plain, add_plain] at q0 q1 q2 q3 q4
        exact ⟨q0, q1, q2, q3, q4⟩
end

end Go.Proofs.YtjbjgkkkkghcgaaGreatDoor
namespace Go.Proofs.YtjbjgkkkkghcgaaGreatDoor
open Go.ChangeShapes Go.WideShapes Go.ChangeAt Go.RowKit Go.Deep Go.Joins
set_option linter.unusedVariables false

theorem cellsOneStr : Tryz.prog.cellsOf 9 = 1 := by kernel_rfl

set_option maxRecDepth 100000 in
/-- What the world's shape gives: the library's greatest length is a whole number. -/
theorem ml_of {W : World} (h : W.ShapedOpen Tryz.prog) : ML W := Tryz.lays155.s1_3 W h

set_option maxRecDepth 100000 in
/-- A LIST OF TEXTS THAT CAME IN, OPENED. -/
theorem open_strs {H : Type} {enc : TypeId × Value → H} {W : World} {held : Bool} {base : Nat} {v : Value} {d : DataW H} {p : List MemPlace} (hv : Value.okWide Tryz.prog W .any base 35 v) (h : DataW.Trod enc Tryz.prog W 0 (fun _ => true) held 35 v d p) :
    ∃ (a : Option Addr) (n c : Nat) (f : Nat → ByteArray), v = .slice a n c ∧ n ≤ maxLen ∧ ArgS W a n f ∧ ∀ i, i < n → (f i).size ≤ maxLen := by
  obtain ⟨a0, l0, c0, rfl⟩ := okWide_slice Tryz.underlying35 hv
  obtain ⟨fuel, hf⟩ := h
  rcases Go.ChangeShapes.open_strings Tryz.underlying35 Tryz.underlying9 cellsOneStr hf with ⟨e, _⟩ | ⟨a, len, cap, ss, e, _, hl, hm, hlen, _, hcell, hsz⟩
  · have e' : Value.slice a0 l0 c0 = .slice none 0 0 := by simpa [Value.cells] using e
    rw [e']
    exact ⟨none, 0, 0, fun _ => ByteArray.empty, rfl, Nat.zero_le _, .inl rfl, fun i hi => by omega⟩
  · have e' : Value.slice a0 l0 c0 = .slice (some a) len cap := by simpa [Value.cells] using e
    rw [e']
    simp only [if_true] at hlen
    refine ⟨some a, len, cap, fun i => ss.getD i ByteArray.empty, rfl, by omega, ?_, fun i hi => ?_⟩
    · by_cases h0 : len = 0
      · exact .inl h0
      · have c00 := hcell 0 (by omega)
        obtain ⟨b, off, spot⟩ := a
        have hsp : spot = none := by
          have := World.cell?_spot c00
          simpa [Addr.add] using this
        subst hsp
        refine .inr ⟨b, off, rfl, ?_, fun i hi => ?_⟩
        · have := World.block_lt_of_cell? _ _ c00
          simpa [Addr.add] using this
        · have := hcell i (by omega)
          rwa [add_plain] at this
    · apply hsz
      show ss.getD i ByteArray.empty ∈ ss
      rw [List.getD_eq_getElem?_getD, List.getElem?_eq_getElem (by omega)]
      simp

def firstCells : Array Value := (Go.Pinned.utf8FirstZ.map fun (z : Nat) => Value.int .u8 (z : Int)).toArray
def rangeCells : Array Value := #[.int .u8 128, .int .u8 191, .int .u8 160, .int .u8 191, .int .u8 128, .int .u8 159, .int .u8 144, .int .u8 191, .int .u8 128, .int .u8 143] ++ Array.replicate 22 (.int .u8 0)
def layObj (cs : Array Value) : Obj → Obj
  | .cells _ t frozen => .cells cs t frozen
  | o => o
/-- A WORLD FOR THE WITNESS: the library's tables of runes hold what its text lays. -/
def layRunes (w : World) : World := { w with heap := (w.heap.modify 3 (layObj rangeCells)).modify 2 (layObj firstCells) }

end Go.Proofs.YtjbjgkkkkghcgaaGreatDoor
namespace Go.Proofs.YtjbjgkkkkghcgaaGreatDoor
open Go.ChangeShapes Go.WideShapes Go.ChangeAt Go.RowKit Go.Deep Go.Joins
set_option linter.unusedVariables false

section
variable {H : Type} {enc : TypeId × Value → H} {W : World}

set_option maxRecDepth 100000 in
/-- A LIST OF NODES WITHIN, OPENED. -/
theorem open_nodes {held : Bool} {m : Nat} {c0 : Value} {y0 : DataW H × List MemPlace} (h2 : DataW.trod enc Tryz.prog W 0 (fun _ => true) held m 51 [c0] = some y0) :
    ∃ (a : Option Addr) (n c : Nat) (N : Nat → Nd), c0 = .slice a n c ∧ n ≤ maxLen ∧ ArgIs W a n N ∧ ∀ i, i < n → (N i).text.size ≤ maxLen ∧ (N i).name.size ≤ maxLen := by
  rcases open_slice Tryz.underlying51 h2 with ⟨e, _⟩ | ⟨a, len, cap, m', f', D, Pl, e, _, hl, hm, hmm, _, hx⟩
  · simp only [List.cons.injEq, and_true] at e
    subst e
    exact ⟨none, 0, 0, fun _ => zeroNd, rfl, by unfold maxLen; omega, .inl rfl, fun i hi => by omega⟩
  · simp only [List.cons.injEq, and_true] at e
    subst e
    rw [cellsLNode] at hx
    have hle : len ≤ m' := by
      rw [hmm]
      split <;> omega
    obtain ⟨N, hN⟩ := @choose_lt Nd ⟨zeroNd⟩ len (fun i y => (∀ j u, [Value.int .i64 y.kind, .int .i64 y.num, .string y.text, .string y.name, .int .i64 y.up][j]? = some u → W.cell? ((a.add (i * 5)).add j) = some u) ∧ y.text.size ≤ maxLen ∧ y.name.size ≤ maxLen) (fun i hi => by
      obtain ⟨cs', h3, h4⟩ := hx i (by omega)
      obtain ⟨y, rfl, z2, z3⟩ := open_node h4
      obtain ⟨_, _, hcell⟩ := World.cells?_some h3
      refine ⟨y, fun j u hj => ?_, z2, z3⟩
      rw [hcell j (by
        have := (List.getElem?_eq_some_iff.1 hj).1
        simpa using this), hj])
    refine ⟨some a, len, cap, N, rfl, by omega, ?_, fun i hi => (hN i hi).2⟩
    by_cases h0 : len = 0
    · exact .inl h0
    · have c00 := (hN 0 (by omega)).1 0 _ rfl
      obtain ⟨b, off, spot⟩ := a
      have hsp : spot = none := by
        have := World.cell?_spot c00
        simpa [Addr.add] using this
      subst hsp
      refine .inr ⟨b, off, rfl, ?_, fun i hi => ?_⟩
      · have := World.block_lt_of_cell? _ _ c00
        simpa [Addr.add] using this
      · have hc := (hN i hi).1
        have q0 := hc 0 _ rfl
        have q1 := hc 1 _ rfl
        have q2 := hc 2 _ rfl
        have q3 := hc 3 _ rfl
        have q4 := hc 4 _ rfl
        rw [add_plain, add_plain] at q0 q1 q2 q3 q4
        exact ⟨q0, q1, q2, q3, q4⟩

end

end Go.Proofs.YtjbjgkkkkghcgaaGreatDoor
namespace Go.Proofs.YtjbjgkkkkghcgaaGreatDoor
open Go.ChangeShapes Go.WideShapes Go.ChangeAt Go.RowKit Go.Deep Go.Joins
set_option linter.unusedVariables false

theorem cellsLTerm : Tryz.prog.cellsOf 56 = 4 := by kernel_rfl
theorem cellsLFilter : Tryz.prog.cellsOf 24 = 1 := by kernel_rfl
theorem cellsOneInt : Tryz.prog.cellsOf 3 = 1 := by kernel_rfl

section
variable {H : Type} {enc : TypeId × Value → H} {W : World}

set_option maxRecDepth 100000 in
/-- A LIST OF WHOLE NUMBERS WITHIN, OPENED. -/
theorem open_kids {held : Bool} {m : Nat} {c0 : Value} {y0 : DataW H × List MemPlace} (h2 : DataW.trod enc Tryz.prog W 0 (fun _ => true) held m 54 [c0] = some y0) :
    ∃ (a : Option Addr) (n c : Nat) (K : Nat → Int), c0 = .slice a n c ∧ n ≤ maxLen ∧ ArgI W a n K := by
  rcases open_slice Tryz.underlying54 h2 with ⟨e, _⟩ | ⟨a, len, cap, m', f', D, Pl, e, _, hl, hm, hmm, _, hx⟩
  · simp only [List.cons.injEq, and_true] at e
    subst e
    exact ⟨none, 0, 0, fun _ => 0, rfl, by unfold maxLen; omega, .inl rfl⟩
  · simp only [List.cons.injEq, and_true] at e
    subst e
    rw [cellsOneInt] at hx
    have hle : len ≤ m' := by
      rw [hmm]
      split <;> omega
    obtain ⟨K, hK⟩ := @choose_lt Int ⟨0⟩ len (fun i y => W.cell? ((a.add (i * 1)).add 0) = some (.int .i64 y)) (fun i hi => by
      obtain ⟨cs', h3, h4⟩ := hx i (by omega)
      obtain ⟨_, _, hcell⟩ := World.cells?_some h3
      obtain ⟨k, r0, _, _⟩ := DataW.trod_int Tryz.underlying3 h4
      subst r0
      refine ⟨k, ?_⟩
      exact hcell 0 (by simp))
    refine ⟨some a, len, cap, K, rfl, by omega, ?_⟩
    by_cases h0 : len = 0
    · exact .inl h0
    · have c00 := hK 0 (by omega)
      obtain ⟨b, off, spot⟩ := a
      have hsp : spot = none := by
        have := World.cell?_spot c00
        simpa [Addr.add] using this
      subst hsp
      refine .inr ⟨b, off, rfl, ?_, fun i hi => ?_⟩
      · have := World.block_lt_of_cell? _ _ c00
        simpa [Addr.add] using this
      · have q0 := hK i hi
        rw [add_plain, add_plain, Nat.mul_one] at q0
        exact q0

set_option maxRecDepth 100000 in
/-- A TERM THAT CAME IN, OPENED. -/
theorem open_term {held : Bool} {n : Nat} {cs : List Value} {x : DataW H × List MemPlace} (h : DataW.trod enc Tryz.prog W 0 (fun _ => true) held n 56 cs = some x) :
    ∃ (c : Tc) (y : Tm), cs = [.int .i64 c.kind, .string c.path, .slice c.va c.vn c.vc, .slice c.ka c.km c.kc] ∧ TermIs W c y ∧ BigT y := by
  obtain ⟨xs, m, _, _, hl, hlen, hf⟩ := DataW.trod_struct Tryz.underlying56 h
  rw [cellsLTerm] at hl
  match cs, hl with
  | [c0, c1, c2, c3], _ =>
    match xs, hlen with
    | [y0, y1, y2, y3], _ =>
      have e0 : DataW.trod enc Tryz.prog W 0 (fun _ => true) held m 3 [c0] = some y0 := hf 0 _ rfl
      have e1 : DataW.trod enc Tryz.prog W 0 (fun _ => true) held m 9 [c1] = some y1 := hf 1 _ rfl
      have e2 : DataW.trod enc Tryz.prog W 0 (fun _ => true) held m 53 [c2] = some y2 := hf 2 _ rfl
      have e3 : DataW.trod enc Tryz.prog W 0 (fun _ => true) held m 54 [c3] = some y3 := hf 3 _ rfl
      obtain ⟨k, r0, _, _⟩ := DataW.trod_int Tryz.underlying3 e0
      obtain ⟨t, r1, _, z1⟩ := DataW.trod_string Tryz.underlying9 e1
      obtain ⟨yy, mm, _, _, h1⟩ := trod_struct1 Tryz.underlying53 e2
      have h2 : DataW.trod enc Tryz.prog W 0 (fun _ => true) held mm 51 [c2] = some yy := h1
      obtain ⟨va, vn, vc, N, rfl, hn, hv, hz⟩ := open_nodes h2
      obtain ⟨ka, km, kc, K, rfl, hm, hk⟩ := open_kids e3
      simp only [List.cons.injEq, and_true] at r0 r1
      subst r0 r1
      exact ⟨⟨k, t, va, vn, vc, ka, km, kc⟩, ⟨k, t, vn, N, km, K⟩, rfl, ⟨rfl, rfl, rfl, rfl, hv, hk⟩, z1, hn, hz, hm⟩

set_option maxRecDepth 100000 in
/-- A FILTER THAT CAME IN, OPENED. -/
theorem open_filter {held : Bool} {base : Nat} {v : Value} {d : DataW H} {p : List MemPlace} (hv : Value.okWide Tryz.prog W .any base 24 v) (h : DataW.Trod enc Tryz.prog W 0 (fun _ => true) held 24 v d p) :
    ∃ (a : Option Addr) (n c : Nat) (F : Nat → Tm), v = .agg #[.slice a n c] ∧ n ≤ maxLen ∧ FArg W a n F ∧ ∀ i, i < n → BigT (F i) := by
  obtain ⟨cs, rfl, hcs⟩ := okWide_struct Tryz.underlying24 hv
  rw [cellsLFilter] at hcs
  obtain ⟨c0, rfl⟩ : ∃ c0, cs = #[c0] := by
    rcases cs with ⟨l⟩
    match l, hcs with
    | [c0], _ => exact ⟨c0, rfl⟩
  obtain ⟨fuel, hf⟩ := h
  obtain ⟨y0, m, _, _, h1⟩ := trod_struct1 Tryz.underlying24 hf
  have h2 : DataW.trod enc Tryz.prog W 0 (fun _ => true) held m 22 [c0] = some y0 := h1
  rcases open_slice Tryz.underlying22 h2 with ⟨e, _⟩ | ⟨a, len, cap, m', f', D, Pl, e, _, hl, hm, hmm, _, hx⟩
  · simp only [List.cons.injEq, and_true] at e
    subst e
    exact ⟨none, 0, 0, fun _ => ⟨0, ⟨#[]⟩, 0, fun _ => zeroNd, 0, fun _ => 0⟩, rfl, by unfold maxLen; omega, .inl rfl, fun i hi => by omega⟩
  · simp only [List.cons.injEq, and_true] at e
    subst e
    rw [cellsLTerm] at hx
    have hle : len ≤ m' := by
      rw [hmm]
      split <;> omega
    obtain ⟨R, hR⟩ := @choose_lt (Tc × Tm) ⟨(zeroTc, ⟨0, ⟨#[]⟩, 0, fun _ => zeroNd, 0, fun _ => 0⟩)⟩ len (fun i x => (∀ j u, [Value.int .i64 x.1.kind, .string x.1.path, .slice x.1.va x.1.vn x.1.vc, .slice x.1.ka x.1.km x.1.kc][j]? = some u → W.cell? ((a.add (i * 4)).add j) = some u) ∧ TermIs W x.1 x.2 ∧ BigT x.2) (fun i hi => by
      obtain ⟨cs', h3, h4⟩ := hx i (by omega)
      obtain ⟨cc, y, rfl, z2, z3⟩ := open_term h4
      obtain ⟨_, _, hcell⟩ := World.cells?_some h3
      refine ⟨(cc, y), fun j u hj => ?_, z2, z3⟩
      rw [hcell j (by
        have := (List.getElem?_eq_some_iff.1 hj).1
        simpa using this), hj])
    refine ⟨some a, len, cap, fun i => (R i).2, rfl, by omega, ?_, fun i hi => (hR i hi).2.2⟩
    by_cases h0 : len = 0
    · exact .inl h0
    · have c00 := (hR 0 (by omega)).1 0 _ rfl
      obtain ⟨b, off, spot⟩ := a
      have hsp : spot = none := by
        have := World.cell?_spot c00
        simpa [Addr.add] using this
      subst hsp
      refine .inr ⟨b, off, fun i => (R i).1, rfl, ?_, fun i hi => ?_, fun i hi => (hR i hi).2.1⟩
      · have := World.block_lt_of_cell? _ _ c00
        simpa [Addr.add] using this
      · have hc := (hR i hi).1
        have q0 := hc 0 _ rfl
        have q1 := hc 1 _ rfl
        have q2 := hc 2 _ rfl
        have q3 := hc 3 _ rfl
        rw [add_plain, add_plain] at q0 q1 q2 q3
        exact ⟨q0, q1, q2, q3⟩
end

end Go.Proofs.YtjbjgkkkkghcgaaGreatDoor
namespace Go.Proofs.YtjbjgkkkkghcgaaGreatDoor
open Go.ChangeShapes Go.WideShapes Go.ChangeAt Go.RowKit
set_option linter.unusedVariables false

theorem gMarks : Tryz.prog.globalNamed "loop.example/g00274/impl.kindMarks" = some 0 := by kernel_rfl
theorem gMarksType : (Tryz.prog.globals[0]?).map (·.type) = some 100 := by kernel_rfl
theorem cellsMarks : Tryz.prog.cellsOf 100 = 8 := by kernel_rfl
theorem cellsStr : Tryz.prog.cellsOf 9 = 1 := by kernel_rfl

/-- WHAT THE ROW's LIST GIVES: the table of kinds. -/
theorem marks_of {W : World} {x y z : String × DataW Unit} {rest : List (String × DataW Unit)} (h : laidMet Tryz.prog (x :: y :: z :: ("loop.example/g00274/impl.kindMarks", Rows.laid_loop_example_g00274_impl_kindMarks) :: rest) W) : Marks W := by
  obtain ⟨ps, ⟨g, t, cs, fuel, p, q, hg, ht, hvar, hd, _, _⟩, _⟩ := laidMet.tail (laidMet.tail (laidMet.tail h))
  obtain rfl := Option.some.inj (gMarks.symm.trans hg)
  obtain rfl := Option.some.inj (gMarksType.symm.trans ht)
  have hc := World.var?_cell hg hvar
  cases fuel with
  | zero => simp [DataW.trod] at hd
  | succ fuel =>
    simp only [DataW.trod, Tryz.underlying100, cellsStr, cellsMarks, Nat.mul_one] at hd
    split at hd
    · obtain ⟨xs, hm, hx⟩ := Option.map_eq_some_iff.1 hd
      have hxs : xs.map (·.1) = [.lit (.string []), .lit (.string [1]), .lit (.string [2]), .lit (.string [3]), .lit (.string [4]), .lit (.string [5]), .lit (.string [6]), .lit (.string [7])] := by
        have := congrArg Prod.fst hx
        simpa [Rows.laid_loop_example_g00274_impl_kindMarks] using this
      have hall : ∀ k : Nat, 1 ≤ k → k ≤ 7 → W.cell? ⟨0, k, none⟩ = some (.string (strL [kindB k])) := fun k h1 h7 => by
        obtain ⟨b, hb, hf⟩ := Lib.mapM_at hm k k (List.getElem?_range (show k < 8 by omega))
        obtain ⟨s, hs, rfl, _⟩ := DataW.trod_string Tryz.underlying9 hf
        have e1 : cs.toList[k]? = some (.string s) := by
          have := congrArg (·[0]?) hs
          simpa [List.getElem?_take, List.getElem?_drop] using this
        have e2 : (xs.map (·.1))[k]? = some (.lit (.string s.data.toList)) := by simp [hb]
        rw [hxs] at e2
        have e3 : s.data.toList = [kindB k] := by
          match k, h1, h7 with
          | 1, _, _ => exact (show s.data.toList = [1] by simpa using e2.symm).trans rfl
          | 2, _, _ => exact (show s.data.toList = [2] by simpa using e2.symm).trans rfl
          | 3, _, _ => exact (show s.data.toList = [3] by simpa using e2.symm).trans rfl
          | 4, _, _ => exact (show s.data.toList = [4] by simpa using e2.symm).trans rfl
          | 5, _, _ => exact (show s.data.toList = [5] by simpa using e2.symm).trans rfl
          | 6, _, _ => exact (show s.data.toList = [6] by simpa using e2.symm).trans rfl
          | 7, _, _ => exact (show s.data.toList = [7] by simpa using e2.symm).trans rfl
        rw [hc k, ← Array.getElem?_toList, e1, strL_text s, e3]
      exact ⟨World.block_lt_of_cell? _ _ (hall 1 (by omega) (by omega)), hall⟩
    · cases hd

def layText : Obj → Obj
  | .cells _ t frozen => .cells #[.string ⟨#[]⟩, .string ⟨#[1]⟩, .string ⟨#[2]⟩, .string ⟨#[3]⟩, .string ⟨#[4]⟩, .string ⟨#[5]⟩, .string ⟨#[6]⟩, .string ⟨#[7]⟩] t frozen
  | o => o
def layMarks (w : World) : World := { layTabs w with heap := (layTabs w).heap.modify 0 layText }

end Go.Proofs.YtjbjgkkkkghcgaaGreatDoor
