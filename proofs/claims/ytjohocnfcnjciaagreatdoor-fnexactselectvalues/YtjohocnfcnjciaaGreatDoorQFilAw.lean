/- The frame of a law over a value: what came in, opened; the library's table of powers of ten. The frame of a law over texts: what came in, opened; the library's variables that a search meets. A list of nodes within what came in, opened. The frame of a law over a filter: what came in, opened. A filter made plain: the program's PlainFilter. Whether a value has no nodes. Whether a filter is good: the specification. Whether a value matches a filter: what both MatchFilters answer. What the law's small helpers do with a list of whole numbers. No condition. A filter that came in: weighed. No condition. A filter that came in: weighed as a whole. No condition. A filter of one's own, marked: the law's marks, and what holds them. No condition. A filter of one's own, marked and held: the law's walks. A filter that bears the law's marks: held; and the two walks over a filter. Two filters that say the same, held against each other. No condition. A copied filter reads as the one that came in. A filter of one's own beside what is marked. -/
import Derived.Test.YtjohocnfcnjciaaGreatDoorCards
import Derived.Test.YtjohocnfcnjciaaGreatDoorTie
import Derived.Test.YtjohocnfcnjciaaGreatDoorGoodI
import Derived.ProofKit
import Derived.OpenShut
import Derived.Deep.DeepHandedRow
import Derived.Deep.Slices
import Derived.Lib.LaidTab
import Derived.Stop.LaidErr
import Derived.Lib.SmallJoins
import Derived.Test.YtjohocnfcnjciaaGreatDoorPathT0
import Derived.SliceStrings
import Derived.Test.YtjohocnfcnjciaaGreatDoorQClT
import Derived.Test.YtjohocnfcnjciaaGreatDoorQClF
import Derived.Test.YtjohocnfcnjciaaGreatDoorQPlN
import Derived.Test.YtjohocnfcnjciaaGreatDoorPathS
import Derived.Test.YtjohocnfcnjciaaGreatDoorQRndM
import Derived.Deep.DeepFit
import Derived.Test.YtjohocnfcnjciaaGreatDoorQMatT
import Derived.Deep.RegionHeld3
import Derived.Test.YtjohocnfcnjciaaGreatDoorGoodOwn
import Derived.Test.YtjohocnfcnjciaaGreatDoorQFilTo
namespace Go.Proofs.YtjohocnfcnjciaaGreatDoor
open Go.ChangeShapes Go.WideShapes Go.ChangeAt Go.RowKit Go.Deep Go.Joins
set_option linter.unusedVariables false

theorem own : ownKnob Tryz.prog.godebug = none := by kernel_rfl
theorem laidOut : laidOutB Tryz.prog = true := by kernel_rfl
theorem gPow : Tryz.prog.globalNamed "internal/strconv.uint64pow10" = some 0 := by kernel_rfl
theorem gPowType : (Tryz.prog.globals[0]?).map (·.type) = some 163 := by kernel_rfl
theorem cellsPow : Tryz.prog.cellsOf 163 = 20 := by kernel_rfl
theorem cellsU64 : Tryz.prog.cellsOf 151 = 1 := by kernel_rfl
theorem cellsLNode : Tryz.prog.cellsOf 87 = 5 := by kernel_rfl
theorem cellsLValue : Tryz.prog.cellsOf 27 = 1 := by kernel_rfl

theorem powData {H : Type} : (Rows.laid_internal_strconv_uint64pow10 : DataW H) = Lib.tabData .u64 Lib.pow10Tab := by kernel_rfl

/-- WHAT THE ROWS' LIST GIVES: the powers of ten. -/
theorem table {W : World} {x y : String × DataW Unit} {rest : List (String × DataW Unit)} (h : laidMet Tryz.prog (x :: y :: ("internal/strconv.uint64pow10", Rows.laid_internal_strconv_uint64pow10) :: rest) W) : Tab W.heap.size W := by
  refine Lib.tabBelow_of_tabIs ?_
  have h2 := laidMet.tail (laidMet.tail h)
  exact Lib.tabIs_of_head (rest := rest) gPow gPowType Tryz.underlying163 Tryz.underlying151 cellsU64 cellsPow h2

def tabCells (k : IntKind) (zs : List Int) : Array Value := (zs.map fun z => Value.int k z).toArray
def bits32 : List Int := [0, 1, 28, 2, 29, 14, 24, 3, 30, 22, 20, 15, 25, 17, 4, 8, 31, 27, 13, 23, 21, 19, 16, 7, 26, 12, 18, 6, 11, 5, 10, 9]
def bits64 : List Int := [0, 1, 56, 2, 57, 49, 28, 3, 61, 58, 42, 50, 38, 29, 17, 4, 62, 47, 59, 36, 45, 43, 51, 22, 53, 39, 33, 30, 24, 18, 12, 5, 63, 55, 48, 27, 60, 41, 37, 16, 46, 35, 44, 21, 52, 32, 23, 11, 54, 26, 40, 15, 34, 20, 31, 10, 25, 14, 19, 9, 13, 8, 7, 6]

def layTab (k : IntKind) (zs : List Int) : Obj → Obj
  | .cells _ t frozen => .cells (tabCells k zs) t frozen
  | o => o
/-- A WORLD FOR THE WITNESS: the tables hold what their initialisers lay. -/
def layTabs (w : World) : World := { w with heap := ((w.heap.modify 0 (layTab .u64 Lib.pow10Tab)).modify 2 (layTab .u8 bits32)).modify 3 (layTab .u8 bits64) }

section
variable {H : Type} {enc : TypeId × Value → H} {W : World}

set_option maxRecDepth 100000 in
/-- A NODE THAT CAME IN, OPENED. -/
theorem open_node {held : Bool} {n : Nat} {cs : List Value} {x : DataW H × List MemPlace} (h : DataW.trod enc Tryz.prog W 0 (fun _ => true) held n 87 cs = some x) :
    ∃ y : Nd, cs = [.int .i64 y.kind, .int .i64 y.num, .string y.text, .string y.name, .int .i64 y.up] ∧ y.text.size ≤ maxLen ∧ y.name.size ≤ maxLen := by
  obtain ⟨xs, m, _, _, hl, hlen, hf⟩ := DataW.trod_struct Tryz.underlying87 h
  rw [cellsLNode] at hl
  match cs, hl with
  | [c0, c1, c2, c3, c4], _ =>
    match xs, hlen with
    | [y0, y1, y2, y3, y4], _ =>
      have e0 : DataW.trod enc Tryz.prog W 0 (fun _ => true) held m 3 [c0] = some y0 := hf 0 _ rfl
      have e1 : DataW.trod enc Tryz.prog W 0 (fun _ => true) held m 3 [c1] = some y1 := hf 1 _ rfl
      have e2 : DataW.trod enc Tryz.prog W 0 (fun _ => true) held m 9 [c2] = some y2 := hf 2 _ rfl
      have e3 : DataW.trod enc Tryz.prog W 0 (fun _ => true) held m 9 [c3] = some y3 := hf 3 _ rfl
      have e4 : DataW.trod enc Tryz.prog W 0 (fun _ => true) held m 3 [c4] = some y4 := hf 4 _ rfl
      obtain ⟨k, r0, _, _⟩ := DataW.trod_int Tryz.underlying3 e0
      obtain ⟨u, r1, _, _⟩ := DataW.trod_int Tryz.underlying3 e1
      obtain ⟨t, r2, _, z2⟩ := DataW.trod_string Tryz.underlying9 e2
      obtain ⟨m', r3, _, z3⟩ := DataW.trod_string Tryz.underlying9 e3
      obtain ⟨p, r4, _, _⟩ := DataW.trod_int Tryz.underlying3 e4
      simp only [List.cons.injEq, and_true] at r0 r1 r2 r3 r4
      subst r0 r1 r2 r3 r4
      exact ⟨⟨k, u, t, m', p⟩, rfl, z2, z3⟩

set_option maxRecDepth 100000 in
/-- A VALUE THAT CAME IN, OPENED. -/
theorem open_value {held : Bool} {base : Nat} {v : Value} {d : DataW H} {p : List MemPlace} (hv : Value.okWide Tryz.prog W .any base 27 v) (h : DataW.Trod enc Tryz.prog W 0 (fun _ => true) held 27 v d p) :
    ∃ (a : Option Addr) (n c : Nat) (N : Nat → Nd), v = .agg #[.slice a n c] ∧ n ≤ maxLen ∧ ArgIs W a n N ∧ ∀ i, i < n → (N i).text.size ≤ maxLen ∧ (N i).name.size ≤ maxLen := by
  obtain ⟨cs, rfl, hcs⟩ := okWide_struct Tryz.underlying27 hv
  rw [cellsLValue] at hcs
  obtain ⟨c0, rfl⟩ : ∃ c0, cs = #[c0] := by
    rcases cs with ⟨l⟩
    match l, hcs with
    | [c0], _ => exact ⟨c0, rfl⟩
  obtain ⟨fuel, hf⟩ := h
  obtain ⟨y0, m, _, _, h1⟩ := trod_struct1 Tryz.underlying27 hf
  have h2 : DataW.trod enc Tryz.prog W 0 (fun _ => true) held m 25 [c0] = some y0 := h1
  rcases open_slice Tryz.underlying25 h2 with ⟨e, _⟩ | ⟨a, len, cap, m', f', D, Pl, e, _, hl, hm, hmm, _, hx⟩
  · simp only [List.cons.injEq, and_true] at e
    subst e
    exact ⟨none, 0, 0, fun _ => zeroNd, rfl, by unfold maxLen; omega, .inl rfl, fun i hi => by omega⟩
  · simp only [List.cons.injEq, and_true] at e
    subst e
    have hmc : m' = cap := by rw [hmm]; rfl
    subst hmc
    rw [cellsLNode] at hx
    obtain ⟨N, hN⟩ := @choose_lt Nd ⟨zeroNd⟩ len (fun i y => (∀ j u, [Value.int .i64 y.kind, .int .i64 y.num, .string y.text, .string y.name, .int .i64 y.up][j]? = some u → W.cell? ((a.add (i * 5)).add j) = some u) ∧ y.text.size ≤ maxLen ∧ y.name.size ≤ maxLen) (fun i hi => by
      obtain ⟨cs', h3, h4⟩ := hx i (by omega)
      obtain ⟨y, rfl, z2, z3⟩ := open_node h4
      obtain ⟨_, _, hcell⟩ := World.cells?_some h3
      refine ⟨y, fun j u hj => ?_, z2, z3⟩
      rw [hcell j (by
        have := (List.getElem?_eq_some_iff.1 hj).1
        simpa using this), hj])
    refine ⟨some a, len, m', N, rfl, by omega, ?_, fun i hi => (hN i hi).2⟩
    by_cases h0 : len = 0
    · exact .inl h0
    · have c00 := (hN 0 (by omega)).1 0 _ rfl
      obtain ⟨b, off, spot⟩ := a
      have hsp : spot = none := by
        have := World.cell?_spot c00
        simpa [Addr.add] using this
      subst hsp
      refine .inr ⟨b, off, rfl, ?_, fun i hi => ?_⟩
      · have := World.block_lt_of_cell? _ _ c00
        simpa [Addr.add] using this
      · have hc := (hN i hi).1
        have q0 := hc 0 _ rfl
        have q1 := hc 1 _ rfl
        have q2 := hc 2 _ rfl
        have q3 := hc 3 _ rfl
        have q4 := hc 4 _ rfl
        rw [add_plain, add_plain] at q0 q1 q2 q3 q4
        exact ⟨q0, q1, q2, q3, q4⟩
end

end Go.Proofs.YtjohocnfcnjciaaGreatDoor
namespace Go.Proofs.YtjohocnfcnjciaaGreatDoor
open Go.ChangeShapes Go.WideShapes Go.ChangeAt Go.RowKit Go.Deep Go.Joins
set_option linter.unusedVariables false

theorem cellsOneStr : Tryz.prog.cellsOf 9 = 1 := by kernel_rfl

set_option maxRecDepth 100000 in
/-- What the world's shape gives: the library's greatest length is a whole number. -/
theorem ml_of {W : World} (h : W.ShapedOpen Tryz.prog) : ML W := Tryz.lays155.s1_3 W h

set_option maxRecDepth 100000 in
/-- A LIST OF TEXTS THAT CAME IN, OPENED. -/
theorem open_strs {H : Type} {enc : TypeId × Value → H} {W : World} {held : Bool} {base : Nat} {v : Value} {d : DataW H} {p : List MemPlace} (hv : Value.okWide Tryz.prog W .any base 64 v) (h : DataW.Trod enc Tryz.prog W 0 (fun _ => true) held 64 v d p) :
    ∃ (a : Option Addr) (n c : Nat) (f : Nat → ByteArray), v = .slice a n c ∧ n ≤ maxLen ∧ ArgS W a n f ∧ ∀ i, i < n → (f i).size ≤ maxLen := by
  obtain ⟨a0, l0, c0, rfl⟩ := okWide_slice Tryz.underlying64 hv
  obtain ⟨fuel, hf⟩ := h
  rcases Go.ChangeShapes.open_strings Tryz.underlying64 Tryz.underlying9 cellsOneStr hf with ⟨e, _⟩ | ⟨a, len, cap, ss, e, _, hl, hm, hlen, _, hcell, hsz⟩
  · have e' : Value.slice a0 l0 c0 = .slice none 0 0 := by simpa [Value.cells] using e
    rw [e']
    exact ⟨none, 0, 0, fun _ => ByteArray.empty, rfl, Nat.zero_le _, .inl rfl, fun i hi => by omega⟩
  · have e' : Value.slice a0 l0 c0 = .slice (some a) len cap := by simpa [Value.cells] using e
    rw [e']
    simp only [if_true] at hlen
    refine ⟨some a, len, cap, fun i => ss.getD i ByteArray.empty, rfl, by omega, ?_, fun i hi => ?_⟩
    · by_cases h0 : len = 0
      · exact .inl h0
      · have c00 := hcell 0 (by omega)
        obtain ⟨b, off, spot⟩ := a
        have hsp : spot = none := by
          have := World.cell?_spot c00
          simpa [Addr.add] using this
        subst hsp
        refine .inr ⟨b, off, rfl, ?_, fun i hi => ?_⟩
        · have := World.block_lt_of_cell? _ _ c00
          simpa [Addr.add] using this
        · have := hcell i (by omega)
          rwa [add_plain] at this
    · apply hsz
      show ss.getD i ByteArray.empty ∈ ss
      rw [List.getD_eq_getElem?_getD, List.getElem?_eq_getElem (by omega)]
      simp

def firstCells : Array Value := (Go.Pinned.utf8FirstZ.map fun (z : Nat) => Value.int .u8 (z : Int)).toArray
def rangeCells : Array Value := #[.int .u8 128, .int .u8 191, .int .u8 160, .int .u8 191, .int .u8 128, .int .u8 159, .int .u8 144, .int .u8 191, .int .u8 128, .int .u8 143] ++ Array.replicate 22 (.int .u8 0)
def layObj (cs : Array Value) : Obj → Obj
  | .cells _ t frozen => .cells cs t frozen
  | o => o
/-- A WORLD FOR THE WITNESS: the library's tables of runes hold what its text lays. -/
def layRunes (w : World) : World := { w with heap := (w.heap.modify 5 (layObj rangeCells)).modify 4 (layObj firstCells) }

end Go.Proofs.YtjohocnfcnjciaaGreatDoor
namespace Go.Proofs.YtjohocnfcnjciaaGreatDoor
open Go.ChangeShapes Go.WideShapes Go.ChangeAt Go.RowKit Go.Deep Go.Joins
set_option linter.unusedVariables false

section
variable {H : Type} {enc : TypeId × Value → H} {W : World}

set_option maxRecDepth 100000 in
/-- A LIST OF NODES WITHIN, OPENED. -/
theorem open_nodes {held : Bool} {m : Nat} {c0 : Value} {y0 : DataW H × List MemPlace} (h2 : DataW.trod enc Tryz.prog W 0 (fun _ => true) held m 25 [c0] = some y0) :
    ∃ (a : Option Addr) (n c : Nat) (N : Nat → Nd), c0 = .slice a n c ∧ n ≤ maxLen ∧ ArgIs W a n N ∧ ∀ i, i < n → (N i).text.size ≤ maxLen ∧ (N i).name.size ≤ maxLen := by
  rcases open_slice Tryz.underlying25 h2 with ⟨e, _⟩ | ⟨a, len, cap, m', f', D, Pl, e, _, hl, hm, hmm, _, hx⟩
  · simp only [List.cons.injEq, and_true] at e
    subst e
    exact ⟨none, 0, 0, fun _ => zeroNd, rfl, by unfold maxLen; omega, .inl rfl, fun i hi => by omega⟩
  · simp only [List.cons.injEq, and_true] at e
    subst e
    rw [cellsLNode] at hx
    have hle : len ≤ m' := by
      rw [hmm]
      split <;> omega
    obtain ⟨N, hN⟩ := @choose_lt Nd ⟨zeroNd⟩ len (fun i y => (∀ j u, [Value.int .i64 y.kind, .int .i64 y.num, .string y.text, .string y.name, .int .i64 y.up][j]? = some u → W.cell? ((a.add (i * 5)).add j) = some u) ∧ y.text.size ≤ maxLen ∧ y.name.size ≤ maxLen) (fun i hi => by
      obtain ⟨cs', h3, h4⟩ := hx i (by omega)
      obtain ⟨y, rfl, z2, z3⟩ := open_node h4
      obtain ⟨_, _, hcell⟩ := World.cells?_some h3
      refine ⟨y, fun j u hj => ?_, z2, z3⟩
      rw [hcell j (by
        have := (List.getElem?_eq_some_iff.1 hj).1
        simpa using this), hj])
    refine ⟨some a, len, cap, N, rfl, by omega, ?_, fun i hi => (hN i hi).2⟩
    by_cases h0 : len = 0
    · exact .inl h0
    · have c00 := (hN 0 (by omega)).1 0 _ rfl
      obtain ⟨b, off, spot⟩ := a
      have hsp : spot = none := by
        have := World.cell?_spot c00
        simpa [Addr.add] using this
      subst hsp
      refine .inr ⟨b, off, rfl, ?_, fun i hi => ?_⟩
      · have := World.block_lt_of_cell? _ _ c00
        simpa [Addr.add] using this
      · have hc := (hN i hi).1
        have q0 := hc 0 _ rfl
        have q1 := hc 1 _ rfl
        have q2 := hc 2 _ rfl
        have q3 := hc 3 _ rfl
        have q4 := hc 4 _ rfl
        rw [add_plain, add_plain] at q0 q1 q2 q3 q4
        exact ⟨q0, q1, q2, q3, q4⟩

end

end Go.Proofs.YtjohocnfcnjciaaGreatDoor
namespace Go.Proofs.YtjohocnfcnjciaaGreatDoor
open Go.ChangeShapes Go.WideShapes Go.ChangeAt Go.RowKit Go.Deep Go.Joins
set_option linter.unusedVariables false

theorem cellsLTerm : Tryz.prog.cellsOf 84 = 4 := by kernel_rfl
theorem cellsLFilter : Tryz.prog.cellsOf 24 = 1 := by kernel_rfl
theorem cellsOneInt : Tryz.prog.cellsOf 3 = 1 := by kernel_rfl

section
variable {H : Type} {enc : TypeId × Value → H} {W : World}

set_option maxRecDepth 100000 in
/-- A LIST OF WHOLE NUMBERS WITHIN, OPENED. -/
theorem open_kids {held : Bool} {m : Nat} {c0 : Value} {y0 : DataW H × List MemPlace} (h2 : DataW.trod enc Tryz.prog W 0 (fun _ => true) held m 49 [c0] = some y0) :
    ∃ (a : Option Addr) (n c : Nat) (K : Nat → Int), c0 = .slice a n c ∧ n ≤ maxLen ∧ ArgI W a n K := by
  rcases open_slice Tryz.underlying49 h2 with ⟨e, _⟩ | ⟨a, len, cap, m', f', D, Pl, e, _, hl, hm, hmm, _, hx⟩
  · simp only [List.cons.injEq, and_true] at e
    subst e
    exact ⟨none, 0, 0, fun _ => 0, rfl, by unfold maxLen; omega, .inl rfl⟩
  · simp only [List.cons.injEq, and_true] at e
    subst e
    rw [cellsOneInt] at hx
    have hle : len ≤ m' := by
      rw [hmm]
      split <;> omega
    obtain ⟨K, hK⟩ := @choose_lt Int ⟨0⟩ len (fun i y => W.cell? ((a.add (i * 1)).add 0) = some (.int .i64 y)) (fun i hi => by
      obtain ⟨cs', h3, h4⟩ := hx i (by omega)
      obtain ⟨_, _, hcell⟩ := World.cells?_some h3
      obtain ⟨k, r0, _, _⟩ := DataW.trod_int Tryz.underlying3 h4
      subst r0
      refine ⟨k, ?_⟩
      exact hcell 0 (by simp))
    refine ⟨some a, len, cap, K, rfl, by omega, ?_⟩
    by_cases h0 : len = 0
    · exact .inl h0
    · have c00 := hK 0 (by omega)
      obtain ⟨b, off, spot⟩ := a
      have hsp : spot = none := by
        have := World.cell?_spot c00
        simpa [Addr.add] using this
      subst hsp
      refine .inr ⟨b, off, rfl, ?_, fun i hi => ?_⟩
      · have := World.block_lt_of_cell? _ _ c00
        simpa [Addr.add] using this
      · have q0 := hK i hi
        rw [add_plain, add_plain, Nat.mul_one] at q0
        exact q0

set_option maxRecDepth 100000 in
/-- A TERM THAT CAME IN, OPENED. -/
theorem open_term {held : Bool} {n : Nat} {cs : List Value} {x : DataW H × List MemPlace} (h : DataW.trod enc Tryz.prog W 0 (fun _ => true) held n 84 cs = some x) :
    ∃ (c : Tc) (y : Tm), cs = [.int .i64 c.kind, .string c.path, .slice c.va c.vn c.vc, .slice c.ka c.km c.kc] ∧ TermIs W c y ∧ BigT y := by
  obtain ⟨xs, m, _, _, hl, hlen, hf⟩ := DataW.trod_struct Tryz.underlying84 h
  rw [cellsLTerm] at hl
  match cs, hl with
  | [c0, c1, c2, c3], _ =>
    match xs, hlen with
    | [y0, y1, y2, y3], _ =>
      have e0 : DataW.trod enc Tryz.prog W 0 (fun _ => true) held m 3 [c0] = some y0 := hf 0 _ rfl
      have e1 : DataW.trod enc Tryz.prog W 0 (fun _ => true) held m 9 [c1] = some y1 := hf 1 _ rfl
      have e2 : DataW.trod enc Tryz.prog W 0 (fun _ => true) held m 27 [c2] = some y2 := hf 2 _ rfl
      have e3 : DataW.trod enc Tryz.prog W 0 (fun _ => true) held m 49 [c3] = some y3 := hf 3 _ rfl
      obtain ⟨k, r0, _, _⟩ := DataW.trod_int Tryz.underlying3 e0
      obtain ⟨t, r1, _, z1⟩ := DataW.trod_string Tryz.underlying9 e1
      obtain ⟨yy, mm, _, _, h1⟩ := trod_struct1 Tryz.underlying27 e2
      have h2 : DataW.trod enc Tryz.prog W 0 (fun _ => true) held mm 25 [c2] = some yy := h1
      obtain ⟨va, vn, vc, N, rfl, hn, hv, hz⟩ := open_nodes h2
      obtain ⟨ka, km, kc, K, rfl, hm, hk⟩ := open_kids e3
      simp only [List.cons.injEq, and_true] at r0 r1
      subst r0 r1
      exact ⟨⟨k, t, va, vn, vc, ka, km, kc⟩, ⟨k, t, vn, N, km, K⟩, rfl, ⟨rfl, rfl, rfl, rfl, hv, hk⟩, z1, hn, hz, hm⟩

set_option maxRecDepth 100000 in
/-- A FILTER THAT CAME IN, OPENED. -/
theorem open_filter {held : Bool} {base : Nat} {v : Value} {d : DataW H} {p : List MemPlace} (hv : Value.okWide Tryz.prog W .any base 24 v) (h : DataW.Trod enc Tryz.prog W 0 (fun _ => true) held 24 v d p) :
    ∃ (a : Option Addr) (n c : Nat) (F : Nat → Tm), v = .agg #[.slice a n c] ∧ n ≤ maxLen ∧ FArg W a n F ∧ ∀ i, i < n → BigT (F i) := by
  obtain ⟨cs, rfl, hcs⟩ := okWide_struct Tryz.underlying24 hv
  rw [cellsLFilter] at hcs
  obtain ⟨c0, rfl⟩ : ∃ c0, cs = #[c0] := by
    rcases cs with ⟨l⟩
    match l, hcs with
    | [c0], _ => exact ⟨c0, rfl⟩
  obtain ⟨fuel, hf⟩ := h
  obtain ⟨y0, m, _, _, h1⟩ := trod_struct1 Tryz.underlying24 hf
  have h2 : DataW.trod enc Tryz.prog W 0 (fun _ => true) held m 22 [c0] = some y0 := h1
  rcases open_slice Tryz.underlying22 h2 with ⟨e, _⟩ | ⟨a, len, cap, m', f', D, Pl, e, _, hl, hm, hmm, _, hx⟩
  · simp only [List.cons.injEq, and_true] at e
    subst e
    exact ⟨none, 0, 0, fun _ => ⟨0, ⟨#[]⟩, 0, fun _ => zeroNd, 0, fun _ => 0⟩, rfl, by unfold maxLen; omega, .inl rfl, fun i hi => by omega⟩
  · simp only [List.cons.injEq, and_true] at e
    subst e
    rw [cellsLTerm] at hx
    have hle : len ≤ m' := by
      rw [hmm]
      split <;> omega
    obtain ⟨R, hR⟩ := @choose_lt (Tc × Tm) ⟨(zeroTc, ⟨0, ⟨#[]⟩, 0, fun _ => zeroNd, 0, fun _ => 0⟩)⟩ len (fun i x => (∀ j u, [Value.int .i64 x.1.kind, .string x.1.path, .slice x.1.va x.1.vn x.1.vc, .slice x.1.ka x.1.km x.1.kc][j]? = some u → W.cell? ((a.add (i * 4)).add j) = some u) ∧ TermIs W x.1 x.2 ∧ BigT x.2) (fun i hi => by
      obtain ⟨cs', h3, h4⟩ := hx i (by omega)
      obtain ⟨cc, y, rfl, z2, z3⟩ := open_term h4
      obtain ⟨_, _, hcell⟩ := World.cells?_some h3
      refine ⟨(cc, y), fun j u hj => ?_, z2, z3⟩
      rw [hcell j (by
        have := (List.getElem?_eq_some_iff.1 hj).1
        simpa using this), hj])
    refine ⟨some a, len, cap, fun i => (R i).2, rfl, by omega, ?_, fun i hi => (hR i hi).2.2⟩
    by_cases h0 : len = 0
    · exact .inl h0
    · have c00 := (hR 0 (by omega)).1 0 _ rfl
      obtain ⟨b, off, spot⟩ := a
      have hsp : spot = none := by
        have := World.cell?_spot c00
        simpa [Addr.add] using this
      subst hsp
      refine .inr ⟨b, off, fun i => (R i).1, rfl, ?_, fun i hi => ?_, fun i hi => (hR i hi).2.1⟩
      · have := World.block_lt_of_cell? _ _ c00
        simpa [Addr.add] using this
      · have hc := (hR i hi).1
        have q0 := hc 0 _ rfl
        have q1 := hc 1 _ rfl
        have q2 := hc 2 _ rfl
        have q3 := hc 3 _ rfl
        rw [add_plain, add_plain] at q0 q1 q2 q3
        exact ⟨q0, q1, q2, q3⟩
end

end Go.Proofs.YtjohocnfcnjciaaGreatDoor
namespace Go.Proofs.YtjohocnfcnjciaaGreatDoor
open Go.RowKit
set_option linter.unusedVariables false

/-- The clause of a whole filter, made plain. -/
def plC (F : Nat → Tm) (t : Nat) : Cl := (clF F t (t - 1)).plain
theorem plC_facts {F : Nat → Tm} {t : Nat} (h : GoodF F t) : (clF F t (t - 1)).ok ∧ (clF F t (t - 1)).size ≤ 2 ^ 19 ∧ (plC F t).ok ∧ (plC F t).size ≤ 2 ^ 20 := by
  have ht := h.1
  have h1 := clF_ok h t (t - 1) (by omega) (by omega)
  have h2 := clF_size h t (t - 1) (by omega) (by omega)
  have h3 : (2 : Nat) ^ (t - 1) ≤ 2 ^ 19 := Nat.pow_le_pow_right (by decide) (by omega)
  have h4 := (Cl.plain_size (clF F t (t - 1))).1
  have h5 := (Cl.plain_ok _ h1).1
  refine ⟨h1, by omega, h5, ?_⟩
  show (clF F t (t - 1)).plain.size ≤ 2 ^ 20
  omega
theorem good_ahead {F : Nat → Tm} {t : Nat} (h : GoodF F t) (hs : SmallF t F) : Ahead F t :=
  ⟨fun i hi j hj => ((h.2.1 i hi).2 j hj).1, fun i hi h8 => by rw [not_one h hi h8]; decide, fun i hi => (hs.2 i hi).2.2⟩

set_option maxRecDepth 100000 in
set_option maxHeartbeats 2000000 in
theorem clauseOf_any (w0 : World) (a : Option Addr) (c t : Nat) (F : Nat → Tm) (hF : FArg w0 a t F) (hCF : CapF w0 a t) (hA : Ahead F t) (ht : t ≤ 2 ^ 20) (ht0 : 0 < t) (w : World) (hw : Below w0.heap.size w0 w) :
    Calls Tryz.prog 37 #[.agg #[.slice a t c]] w fun e w' => ∃ T y, e = .returned (.iface T y) ∧ ClIs w0 w' (fun b => w.heap.size ≤ b) (clF F t (t - 1)) (.iface T y) ∧ Below w.heap.size w w' := by
  have hal : ∀ o, Below w.heap.size w (w.alloc o) := fun o => (Below.refl _ _).alloc (Nat.le_refl _) o
  have HC : Hid (∀ o, Calls Tryz.prog 66 #[.slice a t c, .int .i64 ((t : Int) - 1)] (w.alloc o) fun e w' => ∃ T y, e = .returned (.iface T y) ∧ ClIs w0 w' (fun b => w.heap.size ≤ b) (clF F t (t - 1)) (.iface T y) ∧ Below w.heap.size w w') := fun o => by
    have h := clauseAt_any w0 a c t F hF hCF hA ht (t - 1) (by omega) (w.alloc o) (hw.trans ((hal o).mono hw.size))
    rw [show (((t - 1 : Nat)) : Int) = (t : Int) - 1 by omega, show t - 1 + 1 = t by omega] at h
    refine h.mono ?_
    rintro e w' ⟨v, rfl, hc, hb⟩
    obtain ⟨T, y, rfl⟩ := hc.form
    exact ⟨T, y, rfl, ClIs.keep (fun b _ _ => rfl) (fun b hb _ => by simp at hb; omega) (Nat.le_refl _) _ _ hc, (hal o).trans (hb.mono (by simp))⟩
  clear hF hCF hA hw hal
  go_enter Tryz.func37, Tryz.ntmps37
  go_wp2_with fail
  refine (HC.out _).mono ?_
  rintro e w1 ⟨T, y, rfl, hc, hb⟩
  have HR : Hid (ClIs w0 w1 (fun b => w.heap.size ≤ b) (clF F t (t - 1)) (.iface T y) ∧ Below w.heap.size w w1) := ⟨hc, hb⟩
  clear hc hb
  go_wp2
  go_ret
  exact ⟨T, y, rfl, HR.out.1, HR.out.2⟩

/-- WHAT PlainFilter ANSWERS. -/
def PlIs (F : Nat → Tm) (t : Nat) (w : World) (e : Ending) (w' : World) : Prop := ∃ u q, ((GoodF F t ∧ (plC F t).size ≤ 20 ∧ u = (plC F t).size ∧ q = true) ∨ (¬ (GoodF F t ∧ (plC F t).size ≤ 20) ∧ u = 0 ∧ q = false)) ∧ FlIs (TL ((plC F t).emit 0)) u q w e w'
theorem PlIs.no {F : Nat → Tm} {t : Nat} {w w' : World} (h : ¬ (GoodF F t ∧ (plC F t).size ≤ 20)) (hb : Below w.heap.size w w') : PlIs F t w (.returned (.tuple #[.agg #[.slice none 0 0], .bool false])) w' := ⟨0, false, .inr ⟨h, rfl, rfl⟩, FlIs.no _ hb⟩
theorem PlIs.yes {F : Nat → Tm} {t B u : Nat} {w w1 w' : World} {a : Option Addr} {c r : Nat} {x : Value} (h : GoodF F t) (h20 : u ≤ 20) (hu : u = (plC F t).size) (hB : w.heap.size ≤ B) (hT : TBld w1 B (.slice a u c) u (TL ((plC F t).emit 0))) (hw : w' = w1.setCell ⟨r, 0, none⟩ x) (hr : r < B) (hb : Below w.heap.size w w') : PlIs F t w (.returned (.tuple #[.agg #[.slice a u c], .bool true])) w' := by
  obtain ⟨a', c', b, P, Q, e, _, h1, h2, h3⟩ := hT.own (by omega)
  injection e with e1 _ e3
  subst e1 e3
  have hz : w'.heap.size = w1.heap.size := by rw [hw]; simp [World.setCell]
  have hp := Cl.size_one (plC F t)
  have hb1 := h1 (by omega)
  refine ⟨u, true, .inl ⟨h, by omega, hu, rfl⟩, a, c, b, P, Q, rfl, fun _ => ⟨by omega, by omega⟩, fun i hi => by have := h2 i hi; omega, ?_, hb⟩
  rw [hw]
  exact h3.but (g := r) (BelowBut.setCell _ _ _) (by omega) (fun i hi => .inl (by have := h2 i hi; omega))

set_option maxRecDepth 100000 in
set_option maxHeartbeats 4000000 in
theorem implPlain_any (a : Option Addr) (c t : Nat) (F : Nat → Tm) (w : World) (h : FArg w a t F) (hCF : CapF w a t) (hs : SmallF t F) (htab : Tab w.heap.size w) (hml : ML w) :
    Calls Tryz.prog 15 #[.agg #[.slice a t c]] w (PlIs F t w) := by
  have H : Hid (FArg w a t F) := h
  have HCF : Hid (CapF w a t) := hCF
  have HS : Hid (SmallF t F) := hs
  have HT : Hid (Tab w.heap.size w) := htab
  have HML : Hid (ML w) := hml
  clear h hCF hs htab hml
  go_enter Tryz.func15, Tryz.ntmps15
  go_wp2_with fail
  obtain ⟨W, hW⟩ : ∃ W, W = (w.alloc (.cells #[.slice a t c] 34)).alloc (.cells #[.slice none 0 0] 34) := ⟨_, rfl⟩
  have bW : Below w.heap.size w W := by rw [hW]; exact ((Below.refl _ _).alloc (Nat.le_refl _) _).alloc (by simp) _
  have zW : w.heap.size + 1 < W.heap.size := by rw [hW]; simp
  have zW' : w.heap.size < W.heap.size := by omega
  have f0 : W.cell? ⟨w.heap.size, 0, none⟩ = some (.slice a t c) := by rw [hW]; simp [go_sem]
  have r0 : W.cell? ⟨w.heap.size + 1, 0, none⟩ = some (.slice none 0 0) := by rw [hW]; simp [go_sem]
  have fr0 : W.frozen? ⟨w.heap.size + 1, 0, none⟩ = false := by rw [hW]; simp [go_sem]
  have HFW : Hid (FArg W a t F) := H.out.below bW
  have HCW : Hid (CapF W a t) := HCF.out.below H.out bW
  have HBW : Hid (Below w.heap.size w W) := bW
  rw [← hW]
  clear hW
  refine (implGoodF_any a c t F W HFW.out HS.out (HT.out.up bW) (HML.out.below bW)).mono ?_
  rintro e w1 ⟨q, rfl, hq, hb1⟩
  have z1 := hb1.size
  have f1 : w1.cell? ⟨w.heap.size, 0, none⟩ = some (.slice a t c) := (hb1.cell zW').trans f0
  have r1 : w1.cell? ⟨w.heap.size + 1, 0, none⟩ = some (.slice none 0 0) := (hb1.cell zW).trans r0
  have fr1 : w1.frozen? ⟨w.heap.size + 1, 0, none⟩ = false := (hb1.frozen zW).trans fr0
  have HB1 : Hid (Below W.heap.size W w1) := hb1
  clear hb1 bW f0 r0 fr0
  cases q with
  | false =>
    have HN : Hid (¬ (GoodF F t ∧ (plC F t).size ≤ 20)) := fun h => by simpa using hq.2 h.1
    have HB2 : Hid (Below w.heap.size w w1) := HBW.out.trans (HB1.out.mono HBW.out.size)
    clear hq
    go_wp2
    exact bodyPost_ret (v := .tuple #[.agg #[.slice none 0 0], .bool false]) (by simp [results, Tryz.results15, go_sem, r1]) rfl (PlIs.no HN.out (HB2.out.setCell (by simp) _))
  | true =>
    have hg := hq.1 rfl
    have ht20 := hg.1
    have HG : Hid (GoodF F t) := hg
    have HP : Hid ((clF F t (t - 1)).ok ∧ (clF F t (t - 1)).size ≤ 2 ^ 19 ∧ (plC F t).ok ∧ (plC F t).size ≤ 2 ^ 20) := plC_facts hg
    have HAH : Hid (Ahead F t) := good_ahead hg HS.out
    clear hq hg
    go_wp2_with fail
    refine (clauseOf_any W a c t F HFW.out HCW.out HAH.out (by omega) (by omega) w1 HB1.out).mono ?_
    rintro e w2 ⟨T2, y2, rfl, hc2, hb2⟩
    have z2 := hb2.size
    have r2 : w2.cell? ⟨w.heap.size + 1, 0, none⟩ = some (.slice none 0 0) := (hb2.cell (by show w.heap.size + 1 < _; omega)).trans r1
    have fr2 : w2.frozen? ⟨w.heap.size + 1, 0, none⟩ = false := (hb2.frozen (by show w.heap.size + 1 < _; omega)).trans fr1
    have HB2 : Hid (Below W.heap.size W w2) := HB1.out.trans (hb2.mono HB1.out.size)
    have HC2 : Hid (ClIs W w2 (fun b => w1.heap.size ≤ b) (clF F t (t - 1)) (.iface T2 y2)) := hc2
    clear hc2 hb2 f1 r1 fr1
    go_wp2_with fail
    refine ((turn_any W _ _ (Nat.le_refl _) (by have := HP.out.2.1; omega)).1 w2 _ _ HB2.out HC2.out).mono ?_
    rintro e w3 ⟨v3, rfl, hc3, hb3⟩
    obtain ⟨T3, y3, rfl⟩ := hc3.form
    have z3 := hb3.size
    have r3 : w3.cell? ⟨w.heap.size + 1, 0, none⟩ = some (.slice none 0 0) := (hb3.cell (by show w.heap.size + 1 < _; omega)).trans r2
    have fr3 : w3.frozen? ⟨w.heap.size + 1, 0, none⟩ = false := (hb3.frozen (by show w.heap.size + 1 < _; omega)).trans fr2
    have HB3 : Hid (Below W.heap.size W w3) := HB2.out.trans (hb3.mono HB2.out.size)
    have HC3 : Hid (ClIs W w3 (fun b => w2.heap.size ≤ b) (plC F t) (.iface T3 y3)) := hc3
    clear hc3 hb3 r2 fr2 HC2
    go_wp2_with fail
    refine (appendClause_any W w3 HB3.out _ (plC F t) (Nat.le_refl _) HP.out.2.2.1 (fun b => w2.heap.size ≤ b) (.iface T3 y3) w3 (fun _ => False) (.slice none 0 0) [] 0 (fun _ => zeroTc) rfl HC3.out (Below.refl _ _) (TBldX.nil _ _ _ _) (fun q h => h.elim) (by have := HP.out.2.2.2; omega)).mono ?_
    rintro e w4 ⟨v4, R4, rfl, hT4, hg4, _⟩
    obtain ⟨u, hu⟩ : ∃ u, u = (plC F t).size := ⟨_, rfl⟩
    rw [← hu, Nat.zero_add, List.nil_append] at hT4
    have hT4b := hT4.bld
    obtain ⟨a4, c4, rfl⟩ := hT4b.form
    have hb4 : Below w3.heap.size w3 w4 := (Below.refl _ _).grown hg4 (Nat.le_refl _) (fun b hb => by simp [Value.ownBlock] at hb)
    have z4 := hb4.size
    have r4 : w4.cell? ⟨w.heap.size + 1, 0, none⟩ = some (.slice none 0 0) := (hb4.cell (by show w.heap.size + 1 < _; omega)).trans r3
    have fr4 : w4.frozen? ⟨w.heap.size + 1, 0, none⟩ = false := (hb4.frozen (by show w.heap.size + 1 < _; omega)).trans fr3
    have HB4 : Hid (Below W.heap.size W w4) := HB3.out.trans (hb4.mono HB3.out.size)
    have HT4 : Hid (TBld w4 w3.heap.size (.slice a4 u c4) u (TL ((plC F t).emit 0))) := hT4b
    have HU : Hid (u = (plC F t).size ∧ u ≤ 2 ^ 20) := ⟨hu, by rw [hu]; exact HP.out.2.2.2⟩
    have u20 : u ≤ 2 ^ 20 := HU.out.2
    clear hT4 hT4b hg4 hb4 hu r3 fr3 HC3
    go_wp2_with fail
    by_cases h20 : u ≤ 20
    · refine (filterOf_any w3.heap.size _ u _ _ HT4.out h20).mono ?_
      rintro e w5 ⟨⟨a5, c5, e5, rfl⟩, hb5⟩
      injection e5 with e6 _ e7
      subst e6 e7
      have r5 : w5.cell? ⟨w.heap.size + 1, 0, none⟩ = some (.slice none 0 0) := (hb5.cell (by show w.heap.size + 1 < _; omega)).trans r4
      have fr5 : w5.frozen? ⟨w.heap.size + 1, 0, none⟩ = false := (hb5.frozen (by show w.heap.size + 1 < _; omega)).trans fr4
      have HT5 : Hid (TBld w5 w3.heap.size (.slice a4 u c4) u (TL ((plC F t).emit 0))) := HT4.out.below hb5
      have HB5 : Hid (Below w.heap.size w w5) := HBW.out.trans ((HB4.out.trans (hb5.mono HB4.out.size)).mono HBW.out.size)
      clear hb5 r4 fr4 HT4
      go_wp2
      exact bodyPost_ret (v := .tuple #[.agg #[.slice a4 u c4], .bool true]) (by simp [results, Tryz.results15, go_sem, r5]) rfl (PlIs.yes HG.out h20 HU.out.1 (by omega) HT5.out rfl (by omega) (HB5.out.setCell (by simp) _))
    · refine (filterOf_no a4 u c4 _ (by omega) (by omega)).mono ?_
      rintro e w5 ⟨rfl, hb5⟩
      have r5 : w5.cell? ⟨w.heap.size + 1, 0, none⟩ = some (.slice none 0 0) := (hb5.cell (by show w.heap.size + 1 < _; omega)).trans r4
      have fr5 : w5.frozen? ⟨w.heap.size + 1, 0, none⟩ = false := (hb5.frozen (by show w.heap.size + 1 < _; omega)).trans fr4
      have HB5 : Hid (Below w.heap.size w w5) := HBW.out.trans ((HB4.out.trans (hb5.mono HB4.out.size)).mono HBW.out.size)
      clear hb5 r4 fr4 HT4
      go_wp2
      exact bodyPost_ret (v := .tuple #[.agg #[.slice none 0 0], .bool false]) (by simp [results, Tryz.results15, go_sem, r5]) rfl (PlIs.no (fun h => h20 (by rw [HU.out.1]; exact h.2)) (HB5.out.setCell (by simp) _))

end Go.Proofs.YtjohocnfcnjciaaGreatDoor
namespace Go.Proofs.YtjohocnfcnjciaaGreatDoor
open Go.RowKit
set_option linter.unusedVariables false

set_option maxHeartbeats 400000 in
theorem l5Zero_any (a : Option Addr) (c n : Nat) (w : World) (hn : n ≤ 2 ^ 20) :
    Calls Tryz.prog 52 #[.agg #[.slice a n c]] w (BoolIs (n = 0) w) := by
  have hal : ∀ o, Below w.heap.size w (w.alloc o) := fun o => (Below.refl _ _).alloc (Nat.le_refl _) o
  go_enter Tryz.func52, Tryz.ntmps52
  go_wp2
  go_ret
  exact BoolIs.of (by simp) (hal _)

end Go.Proofs.YtjohocnfcnjciaaGreatDoor
namespace Go.Proofs.YtjohocnfcnjciaaGreatDoor
open Go.RowKit
set_option linter.unusedVariables false

set_option maxHeartbeats 400000 in
theorem l5Leaf_any (k : Int) (w : World) :
    Calls Tryz.prog 50 #[.int .i64 k] w fun e w' => e = .returned (.bool (decide (1 ≤ k) && decide (k ≤ 5))) ∧ Below w.heap.size w w' := by
  go_enter Tryz.func50, Tryz.ntmps50
  go_wp2_with fail
  refine (l1In_any k 1 5 _).mono ?_
  rintro e w1 ⟨rfl, hb⟩
  go_wp2
  go_ret
  exact ⟨rfl, hb⟩

set_option maxRecDepth 100000 in
set_option maxHeartbeats 4000000 in
theorem specGoodF_any (a : Option Addr) (c t : Nat) (F : Nat → Tm) (w : World) (h : FArg w a t F) (hs : SmallF t F) :
    Calls Tryz.prog 29 #[.agg #[.slice a t c]] w (BoolIs (GoodF F t) w) := by
  have H : Hid (FArg w a t F) := h
  have HS : Hid (SmallF t F) := hs
  have t20 := hs.1
  clear h hs
  have hal : ∀ o, Below w.heap.size w (w.alloc o) := fun o => (Below.refl _ _).alloc (Nat.le_refl _) o
  by_cases t0 : t = 0 ∨ 20 < t
  · have HN : Hid (¬ GoodF F t) := fun h => by have := h.1; omega
    have hd : (decide ((1 : Int) ≤ (t : Int)) && decide ((t : Int) ≤ 20)) = false := by simp; omega
    go_enter Tryz.func29, Tryz.ntmps29
    go_wp2_with fail
    refine (l1In_any t 1 20 _).mono ?_
    rw [hd]
    rintro e w1 ⟨rfl, hb⟩
    have HB1 : Hid (Below w.heap.size w w1) := (hal _).trans (hb.mono (by simp))
    clear hb
    go_wp2
    go_ret
    exact BoolIs.no HN.out HB1.out
  have hd : (decide ((1 : Int) ≤ (t : Int)) && decide ((t : Int) ≤ 20)) = true := by simp; omega
  go_enter Tryz.func29, Tryz.ntmps29
  go_wp2_with fail
  refine (l1In_any t 1 20 _).mono ?_
  rw [hd]
  rintro e w1 ⟨rfl, hb⟩
  have hf1 : w1.cell? ⟨w.heap.size, 0, none⟩ = some (.slice a t c) := by rw [hb.cell (by simp)]; simp [go_sem]
  have HB1 : Hid (Below w.heap.size w w1) := (hal _).trans (hb.mono (by simp))
  have z1 : w.heap.size < w1.heap.size := by have := hb.size; simp at this; omega
  clear hb hd hal
  have hmw := make_ints t (by omega) w1
  have n1 := ints_made t w1 3
  obtain ⟨W, hW⟩ : ∃ W, W = w1.alloc (.cells (madeCells #[.int .i64 0] t) 3) := ⟨_, rfl⟩
  have hsz : W.heap.size = w1.heap.size + 1 := by rw [hW]; simp
  have hbl : Below w1.heap.size w1 W := by rw [hW]; go_grown
  rw [← hW] at n1 hmw
  have HN : Hid (IntsAt W w1.heap.size t (fun z => tcnt F 0 z)) := n1.same fun i hi => rfl
  clear n1 hW
  have hfW : W.cell? ⟨w.heap.size, 0, none⟩ = some (.slice a t c) := (hbl.cell z1).trans hf1
  have HBW : Hid (Below w.heap.size w W) := HB1.out.trans (hbl.mono HB1.out.size)
  go_wp2_with fail
  go_loopw [24] (fun i wr => ∃ k : Nat, k ≤ t ∧ i = .int .i64 (k : Int) ∧ w.heap.size < wr.heap.size ∧ Below w.heap.size w wr ∧ w1.heap.size < wr.heap.size ∧ wr.cell? ⟨w.heap.size, 0, none⟩ = some (.slice a t c) ∧ Hid (IntsAt wr w1.heap.size t (fun z => tcnt F k z)) ∧ Hid (∀ j, j < k → FieldsOK (F j) ∧ RisA (F j).K (F j).m j)) (fun i _ => t - (intOf i).toNat)
  case atStart => exact ⟨0, Nat.zero_le _, rfl, by omega, HBW.out, by omega, hfW, HN, fun j hj => by omega⟩
  case round =>
    rename World => x0
    clear hfW hf1 hbl hsz hmw HBW HN
    obtain ⟨k, hk, rfl, hz, hnx, hz1, hf, HI, HJ⟩ := hrel
    by_cases hlt : k < t
    · obtain ⟨b, off, va, vc, ka, kc, rfl, hb, a0, a1, a2, a3, hv, hkk⟩ := H.out.at hlt
      replace a0 := (hnx.cell hb).trans a0
      replace a1 := (hnx.cell hb).trans a1
      replace a2 := (hnx.cell hb).trans a2
      replace a3 := (hnx.cell hb).trans a3
      have i0 : (0 : Int) ≤ (k : Int) := by omega
      have i1 : (k : Int) < (t : Int) := by omega
      have HNX : Hid (Below w.heap.size w x0) := hnx
      have hbw : b < x0.heap.size := Nat.lt_of_lt_of_le hb hnx.size
      have HCB : Hid (∀ j z, j ≤ (F k).m → 0 ≤ cntAt F k j z ∧ cntAt F k j z ≤ 2 ^ 30) := fun j z hj => cnt_bound (fun i hi => (HS.out.2 i hi).2.2) hlt (by omega) hj z
      have HI0 : Hid (IntsAt x0 w1.heap.size t (cntAt F k 0)) := by rw [cnt_zero]; exact HI
      have HCW : Hid (cntAt F k (F k).m = fun z : Nat => tcnt F (k + 1) z) := cnt_whole F k
      have HC0 : Hid ((F k).m = 0 → (fun z : Nat => tcnt F k z) = fun z : Nat => tcnt F (k + 1) z) := fun h => by rw [← cnt_whole, h, cnt_zero]
      have HCS : Hid (∀ j q : Nat, (F k).K j = (q : Int) → (fun z => if z = q then cntAt F k j q + 1 else cntAt F k j z) = cntAt F k (j + 1)) := cnt_step F k
      have HBAD : Hid (¬ FieldsOK (F k) → ¬ GoodF F t) := fun h g => h (g.2.1 k hlt).1
      have HRIS : Hid (¬ RisA (F k).K (F k).m k → ¬ GoodF F t) := fun h g => h (g.2.1 k hlt).2
      have HNEXT : Hid (FieldsOK (F k) → RisA (F k).K (F k).m k → ∀ j, j < k + 1 → FieldsOK (F j) ∧ RisA (F j).K (F j).m j) := fun h1 h2 j hj => by
        by_cases e : j = k
        · subst e; exact ⟨h1, h2⟩
        · exact HJ.out j (by omega)
      have HST : Hid (SmallT (F k)) := HS.out.2 k hlt
      have HV : Hid (ArgIs x0 va (F k).n (F k).N ∧ ArgI w ka (F k).m (F k).K) := ⟨hv.below hnx, hkk⟩
      obtain ⟨C, hC⟩ : ∃ C, C = cntAt F k := ⟨_, rfl⟩
      rw [← hC] at HCB HI0 HCW HCS
      obtain ⟨x, hx⟩ : ∃ x, x = F k := ⟨_, rfl⟩
      rw [← hx] at a0 a1 a2 a3 HCB HCW HC0 HCS HBAD HRIS HNEXT HST HV
      clear hv hkk hnx hC hx
      obtain ⟨kd, p, n, N, m, K⟩ := x
      dsimp only at a0 a1 a2 a3 HCB HCW HC0 HCS HBAD HRIS HNEXT HST HV
      have s1 : p.data.toList.length ≤ 2 ^ 20 := by have := HST.out.1; rw [Array.length_toList]; exact this
      have s3 : m ≤ 2 ^ 20 := HST.out.2.2
      have HSN : Hid (SmallN n N) := HST.out.2.1
      have HWA : ∀ o, Below x0.heap.size x0 (x0.alloc o) := fun o => (Below.refl _ _).alloc (Nat.le_refl _) o
      by_cases hkd : kd < 1 ∨ 8 < kd
      · have HN : Hid (¬ GoodF F t) := HBAD.out (fields_else kd p n N m K hkd)
        have hd : (decide (1 ≤ kd) && decide (kd ≤ 8)) = false := by simp; omega
        go_wp2_with fail
        refine (l1In_any kd 1 8 _).mono ?_
        rw [hd]
        rintro e v1 ⟨rfl, hb1⟩
        have HR1 : Hid (Below x0.heap.size x0 v1) := (HWA _).trans (hb1.mono (by simp))
        clear hb1 HWA
        go_wp2
        go_ret
        exact BoolIs.no HN.out (HNX.out.trans (HR1.out.mono HNX.out.size))
      rcases (show kd = 1 ∨ kd = 2 ∨ kd = 3 ∨ kd = 4 ∨ kd = 5 ∨ kd = 6 ∨ kd = 7 ∨ kd = 8 by omega) with hkd | hkd | hkd | hkd | hkd | hkd | hkd | hkd
      · subst hkd
        have HIF : Hid (FieldsOK ⟨1, p, n, N, m, K⟩ ↔ _) := fields_cmp 1 p n N m K (by decide)
        go_wp2_with fail
        refine (l1In_any 1 1 8 _).mono ?_
        rintro e v1 ⟨rfl, hb1⟩
        have f1 : v1.cell? ⟨w.heap.size, 0, none⟩ = some (.slice (some ⟨b, off, none⟩) t c) := by rw [hb1.cell (by simp; omega)]; simp [World.cell?_alloc_past, hz, hf]
        have x10 : v1.cell? ⟨x0.heap.size, 0, none⟩ = some (.int .i64 1) := by rw [hb1.cell (by simp)]; simp [World.cell?_alloc_new]
        have x11 : v1.cell? ⟨x0.heap.size, 1, none⟩ = some (.string p) := by rw [hb1.cell (by simp)]; simp [World.cell?_alloc_new]
        have x12 : v1.cell? ⟨x0.heap.size, 2, none⟩ = some (.slice va n vc) := by rw [hb1.cell (by simp)]; simp [World.cell?_alloc_new]
        have x13 : v1.cell? ⟨x0.heap.size, 3, none⟩ = some (.slice ka m kc) := by rw [hb1.cell (by simp)]; simp [World.cell?_alloc_new]
        have z1' := hb1.size
        simp at z1'
        have HR1 : Hid (Below x0.heap.size x0 v1) := (HWA _).trans (hb1.mono (by simp))
        clear hb1 HWA
        go_wp2_with fail
        refine (l5Leaf_any 1 _).mono ?_
        rintro e v2 ⟨rfl, hb2⟩
        have f2 : v2.cell? ⟨w.heap.size, 0, none⟩ = some (.slice (some ⟨b, off, none⟩) t c) := (hb2.cell (by show w.heap.size < _; omega)).trans f1
        have x20 : v2.cell? ⟨x0.heap.size, 0, none⟩ = some (.int .i64 1) := (hb2.cell (by show x0.heap.size < _; omega)).trans x10
        have x21 : v2.cell? ⟨x0.heap.size, 1, none⟩ = some (.string p) := (hb2.cell (by show x0.heap.size < _; omega)).trans x11
        have x22 : v2.cell? ⟨x0.heap.size, 2, none⟩ = some (.slice va n vc) := (hb2.cell (by show x0.heap.size < _; omega)).trans x12
        have x23 : v2.cell? ⟨x0.heap.size, 3, none⟩ = some (.slice ka m kc) := (hb2.cell (by show x0.heap.size < _; omega)).trans x13
        have z2 := hb2.size
        have HR2 : Hid (Below x0.heap.size x0 v2) := HR1.out.trans (hb2.mono HR1.out.size)
        clear hb2 f1 x10 x11 x12 x13 HR1
        go_wp2_with fail
        refine (show Calls Tryz.prog 51 #[.string p] _ (NamesIs p.data.toList _) from l3Path_any p.data.toList _ s1).mono ?_
        rintro e v3 ⟨vv, g, rfl, _, _, hb3⟩
        have f3 : v3.cell? ⟨w.heap.size, 0, none⟩ = some (.slice (some ⟨b, off, none⟩) t c) := (hb3.cell (by show w.heap.size < _; omega)).trans f2
        have x30 : v3.cell? ⟨x0.heap.size, 0, none⟩ = some (.int .i64 1) := (hb3.cell (by show x0.heap.size < _; omega)).trans x20
        have x31 : v3.cell? ⟨x0.heap.size, 1, none⟩ = some (.string p) := (hb3.cell (by show x0.heap.size < _; omega)).trans x21
        have x32 : v3.cell? ⟨x0.heap.size, 2, none⟩ = some (.slice va n vc) := (hb3.cell (by show x0.heap.size < _; omega)).trans x22
        have x33 : v3.cell? ⟨x0.heap.size, 3, none⟩ = some (.slice ka m kc) := (hb3.cell (by show x0.heap.size < _; omega)).trans x23
        have z3 := hb3.size
        have HR3 : Hid (Below x0.heap.size x0 v3) := HR2.out.trans (hb3.mono HR2.out.size)
        clear hb3 f2 x20 x21 x22 x23 HR2
        cases hpp : (namesL p.data.toList).isSome with
        | false =>
          have HN : Hid (¬ GoodF F t) := HBAD.out fun h => by have := (HIF.out.1 h).1; unfold PathIs at this; rw [hpp] at this; simp at this
          clear hpp
          go_wp2
          go_ret
          exact BoolIs.no HN.out (HNX.out.trans (HR3.out.mono HNX.out.size))
        | true =>
          have HP : Hid (PathIs p) := hpp
          clear hpp
          by_cases m0 : m = 0
          · have HM0 : Hid (m = 0) := m0
            have m1 : ¬ ((0 : Int) < (m : Int)) := by omega
            clear m0
            go_wp2_with fail
            refine (specGood_arg va vc n N _ (HV.out.1.below HR3.out) HSN.out).mono ?_
            rintro e v4 ⟨q, rfl, hq, hb4⟩
            have f4 : v4.cell? ⟨w.heap.size, 0, none⟩ = some (.slice (some ⟨b, off, none⟩) t c) := (hb4.cell (by show w.heap.size < _; omega)).trans f3
            have x40 : v4.cell? ⟨x0.heap.size, 0, none⟩ = some (.int .i64 1) := (hb4.cell (by show x0.heap.size < _; omega)).trans x30
            have x41 : v4.cell? ⟨x0.heap.size, 1, none⟩ = some (.string p) := (hb4.cell (by show x0.heap.size < _; omega)).trans x31
            have x42 : v4.cell? ⟨x0.heap.size, 2, none⟩ = some (.slice va n vc) := (hb4.cell (by show x0.heap.size < _; omega)).trans x32
            have x43 : v4.cell? ⟨x0.heap.size, 3, none⟩ = some (.slice ka m kc) := (hb4.cell (by show x0.heap.size < _; omega)).trans x33
            have z4 := hb4.size
            have HR4 : Hid (Below x0.heap.size x0 v4) := HR3.out.trans (hb4.mono HR3.out.size)
            clear hb4 f3 x30 x31 x32 x33 HR3
            cases q with
            | false =>
              have HN : Hid (¬ GoodF F t) := HBAD.out fun h => by simpa using hq.2 (HIF.out.1 h).2.1
              clear hq
              go_wp2
              go_ret
              exact BoolIs.no HN.out (HNX.out.trans (HR4.out.mono HNX.out.size))
            | true =>
              have HY := HNEXT.out (HIF.out.2 ⟨HP.out, hq.1 rfl, HM0.out⟩) (fun j hj => by have := HM0.out; omega)
              have HY' : Hid (∀ j, j < k + 1 → FieldsOK (F j) ∧ RisA (F j).K (F j).m j) := HY
              clear HY hq
              go_wp2
              go_roundw
              case rel => exact ⟨k + 1, by omega, by go_num, by omega, HNX.out.trans (HR4.out.mono HNX.out.size), by omega, f4, by have h := HI.out.below HR4.out (by omega); rw [HC0.out HM0.out] at h; exact h, HY'⟩
              case measure => simp [intOf]; omega
          · have HN : Hid (¬ GoodF F t) := HBAD.out fun h => m0 (HIF.out.1 h).2.2
            have m1 : (0 : Int) < (m : Int) := by omega
            go_wp2
            go_ret
            exact BoolIs.no HN.out (HNX.out.trans (HR3.out.mono HNX.out.size))
      · subst hkd
        have HIF : Hid (FieldsOK ⟨2, p, n, N, m, K⟩ ↔ _) := fields_cmp 2 p n N m K (by decide)
        go_wp2_with fail
        refine (l1In_any 2 1 8 _).mono ?_
        rintro e v1 ⟨rfl, hb1⟩
        have f1 : v1.cell? ⟨w.heap.size, 0, none⟩ = some (.slice (some ⟨b, off, none⟩) t c) := by rw [hb1.cell (by simp; omega)]; simp [World.cell?_alloc_past, hz, hf]
        have x10 : v1.cell? ⟨x0.heap.size, 0, none⟩ = some (.int .i64 2) := by rw [hb1.cell (by simp)]; simp [World.cell?_alloc_new]
        have x11 : v1.cell? ⟨x0.heap.size, 1, none⟩ = some (.string p) := by rw [hb1.cell (by simp)]; simp [World.cell?_alloc_new]
        have x12 : v1.cell? ⟨x0.heap.size, 2, none⟩ = some (.slice va n vc) := by rw [hb1.cell (by simp)]; simp [World.cell?_alloc_new]
        have x13 : v1.cell? ⟨x0.heap.size, 3, none⟩ = some (.slice ka m kc) := by rw [hb1.cell (by simp)]; simp [World.cell?_alloc_new]
        have z1' := hb1.size
        simp at z1'
        have HR1 : Hid (Below x0.heap.size x0 v1) := (HWA _).trans (hb1.mono (by simp))
        clear hb1 HWA
        go_wp2_with fail
        refine (l5Leaf_any 2 _).mono ?_
        rintro e v2 ⟨rfl, hb2⟩
        have f2 : v2.cell? ⟨w.heap.size, 0, none⟩ = some (.slice (some ⟨b, off, none⟩) t c) := (hb2.cell (by show w.heap.size < _; omega)).trans f1
        have x20 : v2.cell? ⟨x0.heap.size, 0, none⟩ = some (.int .i64 2) := (hb2.cell (by show x0.heap.size < _; omega)).trans x10
        have x21 : v2.cell? ⟨x0.heap.size, 1, none⟩ = some (.string p) := (hb2.cell (by show x0.heap.size < _; omega)).trans x11
        have x22 : v2.cell? ⟨x0.heap.size, 2, none⟩ = some (.slice va n vc) := (hb2.cell (by show x0.heap.size < _; omega)).trans x12
        have x23 : v2.cell? ⟨x0.heap.size, 3, none⟩ = some (.slice ka m kc) := (hb2.cell (by show x0.heap.size < _; omega)).trans x13
        have z2 := hb2.size
        have HR2 : Hid (Below x0.heap.size x0 v2) := HR1.out.trans (hb2.mono HR1.out.size)
        clear hb2 f1 x10 x11 x12 x13 HR1
        go_wp2_with fail
        refine (show Calls Tryz.prog 51 #[.string p] _ (NamesIs p.data.toList _) from l3Path_any p.data.toList _ s1).mono ?_
        rintro e v3 ⟨vv, g, rfl, _, _, hb3⟩
        have f3 : v3.cell? ⟨w.heap.size, 0, none⟩ = some (.slice (some ⟨b, off, none⟩) t c) := (hb3.cell (by show w.heap.size < _; omega)).trans f2
        have x30 : v3.cell? ⟨x0.heap.size, 0, none⟩ = some (.int .i64 2) := (hb3.cell (by show x0.heap.size < _; omega)).trans x20
        have x31 : v3.cell? ⟨x0.heap.size, 1, none⟩ = some (.string p) := (hb3.cell (by show x0.heap.size < _; omega)).trans x21
        have x32 : v3.cell? ⟨x0.heap.size, 2, none⟩ = some (.slice va n vc) := (hb3.cell (by show x0.heap.size < _; omega)).trans x22
        have x33 : v3.cell? ⟨x0.heap.size, 3, none⟩ = some (.slice ka m kc) := (hb3.cell (by show x0.heap.size < _; omega)).trans x23
        have z3 := hb3.size
        have HR3 : Hid (Below x0.heap.size x0 v3) := HR2.out.trans (hb3.mono HR2.out.size)
        clear hb3 f2 x20 x21 x22 x23 HR2
        cases hpp : (namesL p.data.toList).isSome with
        | false =>
          have HN : Hid (¬ GoodF F t) := HBAD.out fun h => by have := (HIF.out.1 h).1; unfold PathIs at this; rw [hpp] at this; simp at this
          clear hpp
          go_wp2
          go_ret
          exact BoolIs.no HN.out (HNX.out.trans (HR3.out.mono HNX.out.size))
        | true =>
          have HP : Hid (PathIs p) := hpp
          clear hpp
          by_cases m0 : m = 0
          · have HM0 : Hid (m = 0) := m0
            have m1 : ¬ ((0 : Int) < (m : Int)) := by omega
            clear m0
            go_wp2_with fail
            refine (specGood_arg va vc n N _ (HV.out.1.below HR3.out) HSN.out).mono ?_
            rintro e v4 ⟨q, rfl, hq, hb4⟩
            have f4 : v4.cell? ⟨w.heap.size, 0, none⟩ = some (.slice (some ⟨b, off, none⟩) t c) := (hb4.cell (by show w.heap.size < _; omega)).trans f3
            have x40 : v4.cell? ⟨x0.heap.size, 0, none⟩ = some (.int .i64 2) := (hb4.cell (by show x0.heap.size < _; omega)).trans x30
            have x41 : v4.cell? ⟨x0.heap.size, 1, none⟩ = some (.string p) := (hb4.cell (by show x0.heap.size < _; omega)).trans x31
            have x42 : v4.cell? ⟨x0.heap.size, 2, none⟩ = some (.slice va n vc) := (hb4.cell (by show x0.heap.size < _; omega)).trans x32
            have x43 : v4.cell? ⟨x0.heap.size, 3, none⟩ = some (.slice ka m kc) := (hb4.cell (by show x0.heap.size < _; omega)).trans x33
            have z4 := hb4.size
            have HR4 : Hid (Below x0.heap.size x0 v4) := HR3.out.trans (hb4.mono HR3.out.size)
            clear hb4 f3 x30 x31 x32 x33 HR3
            cases q with
            | false =>
              have HN : Hid (¬ GoodF F t) := HBAD.out fun h => by simpa using hq.2 (HIF.out.1 h).2.1
              clear hq
              go_wp2
              go_ret
              exact BoolIs.no HN.out (HNX.out.trans (HR4.out.mono HNX.out.size))
            | true =>
              have HY := HNEXT.out (HIF.out.2 ⟨HP.out, hq.1 rfl, HM0.out⟩) (fun j hj => by have := HM0.out; omega)
              have HY' : Hid (∀ j, j < k + 1 → FieldsOK (F j) ∧ RisA (F j).K (F j).m j) := HY
              clear HY hq
              go_wp2
              go_roundw
              case rel => exact ⟨k + 1, by omega, by go_num, by omega, HNX.out.trans (HR4.out.mono HNX.out.size), by omega, f4, by have h := HI.out.below HR4.out (by omega); rw [HC0.out HM0.out] at h; exact h, HY'⟩
              case measure => simp [intOf]; omega
          · have HN : Hid (¬ GoodF F t) := HBAD.out fun h => m0 (HIF.out.1 h).2.2
            have m1 : (0 : Int) < (m : Int) := by omega
            go_wp2
            go_ret
            exact BoolIs.no HN.out (HNX.out.trans (HR3.out.mono HNX.out.size))
      · subst hkd
        have HIF : Hid (FieldsOK ⟨3, p, n, N, m, K⟩ ↔ _) := fields_cmp 3 p n N m K (by decide)
        go_wp2_with fail
        refine (l1In_any 3 1 8 _).mono ?_
        rintro e v1 ⟨rfl, hb1⟩
        have f1 : v1.cell? ⟨w.heap.size, 0, none⟩ = some (.slice (some ⟨b, off, none⟩) t c) := by rw [hb1.cell (by simp; omega)]; simp [World.cell?_alloc_past, hz, hf]
        have x10 : v1.cell? ⟨x0.heap.size, 0, none⟩ = some (.int .i64 3) := by rw [hb1.cell (by simp)]; simp [World.cell?_alloc_new]
        have x11 : v1.cell? ⟨x0.heap.size, 1, none⟩ = some (.string p) := by rw [hb1.cell (by simp)]; simp [World.cell?_alloc_new]
        have x12 : v1.cell? ⟨x0.heap.size, 2, none⟩ = some (.slice va n vc) := by rw [hb1.cell (by simp)]; simp [World.cell?_alloc_new]
        have x13 : v1.cell? ⟨x0.heap.size, 3, none⟩ = some (.slice ka m kc) := by rw [hb1.cell (by simp)]; simp [World.cell?_alloc_new]
        have z1' := hb1.size
        simp at z1'
        have HR1 : Hid (Below x0.heap.size x0 v1) := (HWA _).trans (hb1.mono (by simp))
        clear hb1 HWA
        go_wp2_with fail
        refine (l5Leaf_any 3 _).mono ?_
        rintro e v2 ⟨rfl, hb2⟩
        have f2 : v2.cell? ⟨w.heap.size, 0, none⟩ = some (.slice (some ⟨b, off, none⟩) t c) := (hb2.cell (by show w.heap.size < _; omega)).trans f1
        have x20 : v2.cell? ⟨x0.heap.size, 0, none⟩ = some (.int .i64 3) := (hb2.cell (by show x0.heap.size < _; omega)).trans x10
        have x21 : v2.cell? ⟨x0.heap.size, 1, none⟩ = some (.string p) := (hb2.cell (by show x0.heap.size < _; omega)).trans x11
        have x22 : v2.cell? ⟨x0.heap.size, 2, none⟩ = some (.slice va n vc) := (hb2.cell (by show x0.heap.size < _; omega)).trans x12
        have x23 : v2.cell? ⟨x0.heap.size, 3, none⟩ = some (.slice ka m kc) := (hb2.cell (by show x0.heap.size < _; omega)).trans x13
        have z2 := hb2.size
        have HR2 : Hid (Below x0.heap.size x0 v2) := HR1.out.trans (hb2.mono HR1.out.size)
        clear hb2 f1 x10 x11 x12 x13 HR1
        go_wp2_with fail
        refine (show Calls Tryz.prog 51 #[.string p] _ (NamesIs p.data.toList _) from l3Path_any p.data.toList _ s1).mono ?_
        rintro e v3 ⟨vv, g, rfl, _, _, hb3⟩
        have f3 : v3.cell? ⟨w.heap.size, 0, none⟩ = some (.slice (some ⟨b, off, none⟩) t c) := (hb3.cell (by show w.heap.size < _; omega)).trans f2
        have x30 : v3.cell? ⟨x0.heap.size, 0, none⟩ = some (.int .i64 3) := (hb3.cell (by show x0.heap.size < _; omega)).trans x20
        have x31 : v3.cell? ⟨x0.heap.size, 1, none⟩ = some (.string p) := (hb3.cell (by show x0.heap.size < _; omega)).trans x21
        have x32 : v3.cell? ⟨x0.heap.size, 2, none⟩ = some (.slice va n vc) := (hb3.cell (by show x0.heap.size < _; omega)).trans x22
        have x33 : v3.cell? ⟨x0.heap.size, 3, none⟩ = some (.slice ka m kc) := (hb3.cell (by show x0.heap.size < _; omega)).trans x23
        have z3 := hb3.size
        have HR3 : Hid (Below x0.heap.size x0 v3) := HR2.out.trans (hb3.mono HR2.out.size)
        clear hb3 f2 x20 x21 x22 x23 HR2
        cases hpp : (namesL p.data.toList).isSome with
        | false =>
          have HN : Hid (¬ GoodF F t) := HBAD.out fun h => by have := (HIF.out.1 h).1; unfold PathIs at this; rw [hpp] at this; simp at this
          clear hpp
          go_wp2
          go_ret
          exact BoolIs.no HN.out (HNX.out.trans (HR3.out.mono HNX.out.size))
        | true =>
          have HP : Hid (PathIs p) := hpp
          clear hpp
          by_cases m0 : m = 0
          · have HM0 : Hid (m = 0) := m0
            have m1 : ¬ ((0 : Int) < (m : Int)) := by omega
            clear m0
            go_wp2_with fail
            refine (specGood_arg va vc n N _ (HV.out.1.below HR3.out) HSN.out).mono ?_
            rintro e v4 ⟨q, rfl, hq, hb4⟩
            have f4 : v4.cell? ⟨w.heap.size, 0, none⟩ = some (.slice (some ⟨b, off, none⟩) t c) := (hb4.cell (by show w.heap.size < _; omega)).trans f3
            have x40 : v4.cell? ⟨x0.heap.size, 0, none⟩ = some (.int .i64 3) := (hb4.cell (by show x0.heap.size < _; omega)).trans x30
            have x41 : v4.cell? ⟨x0.heap.size, 1, none⟩ = some (.string p) := (hb4.cell (by show x0.heap.size < _; omega)).trans x31
            have x42 : v4.cell? ⟨x0.heap.size, 2, none⟩ = some (.slice va n vc) := (hb4.cell (by show x0.heap.size < _; omega)).trans x32
            have x43 : v4.cell? ⟨x0.heap.size, 3, none⟩ = some (.slice ka m kc) := (hb4.cell (by show x0.heap.size < _; omega)).trans x33
            have z4 := hb4.size
            have HR4 : Hid (Below x0.heap.size x0 v4) := HR3.out.trans (hb4.mono HR3.out.size)
            clear hb4 f3 x30 x31 x32 x33 HR3
            cases q with
            | false =>
              have HN : Hid (¬ GoodF F t) := HBAD.out fun h => by simpa using hq.2 (HIF.out.1 h).2.1
              clear hq
              go_wp2
              go_ret
              exact BoolIs.no HN.out (HNX.out.trans (HR4.out.mono HNX.out.size))
            | true =>
              have HY := HNEXT.out (HIF.out.2 ⟨HP.out, hq.1 rfl, HM0.out⟩) (fun j hj => by have := HM0.out; omega)
              have HY' : Hid (∀ j, j < k + 1 → FieldsOK (F j) ∧ RisA (F j).K (F j).m j) := HY
              clear HY hq
              go_wp2
              go_roundw
              case rel => exact ⟨k + 1, by omega, by go_num, by omega, HNX.out.trans (HR4.out.mono HNX.out.size), by omega, f4, by have h := HI.out.below HR4.out (by omega); rw [HC0.out HM0.out] at h; exact h, HY'⟩
              case measure => simp [intOf]; omega
          · have HN : Hid (¬ GoodF F t) := HBAD.out fun h => m0 (HIF.out.1 h).2.2
            have m1 : (0 : Int) < (m : Int) := by omega
            go_wp2
            go_ret
            exact BoolIs.no HN.out (HNX.out.trans (HR3.out.mono HNX.out.size))
      · subst hkd
        have HIF : Hid (FieldsOK ⟨4, p, n, N, m, K⟩ ↔ _) := fields_has p n N m K
        go_wp2_with fail
        refine (l1In_any 4 1 8 _).mono ?_
        rintro e v1 ⟨rfl, hb1⟩
        have f1 : v1.cell? ⟨w.heap.size, 0, none⟩ = some (.slice (some ⟨b, off, none⟩) t c) := by rw [hb1.cell (by simp; omega)]; simp [World.cell?_alloc_past, hz, hf]
        have x10 : v1.cell? ⟨x0.heap.size, 0, none⟩ = some (.int .i64 4) := by rw [hb1.cell (by simp)]; simp [World.cell?_alloc_new]
        have x11 : v1.cell? ⟨x0.heap.size, 1, none⟩ = some (.string p) := by rw [hb1.cell (by simp)]; simp [World.cell?_alloc_new]
        have x12 : v1.cell? ⟨x0.heap.size, 2, none⟩ = some (.slice va n vc) := by rw [hb1.cell (by simp)]; simp [World.cell?_alloc_new]
        have x13 : v1.cell? ⟨x0.heap.size, 3, none⟩ = some (.slice ka m kc) := by rw [hb1.cell (by simp)]; simp [World.cell?_alloc_new]
        have z1' := hb1.size
        simp at z1'
        have HR1 : Hid (Below x0.heap.size x0 v1) := (HWA _).trans (hb1.mono (by simp))
        clear hb1 HWA
        go_wp2_with fail
        refine (l5Leaf_any 4 _).mono ?_
        rintro e v2 ⟨rfl, hb2⟩
        have f2 : v2.cell? ⟨w.heap.size, 0, none⟩ = some (.slice (some ⟨b, off, none⟩) t c) := (hb2.cell (by show w.heap.size < _; omega)).trans f1
        have x20 : v2.cell? ⟨x0.heap.size, 0, none⟩ = some (.int .i64 4) := (hb2.cell (by show x0.heap.size < _; omega)).trans x10
        have x21 : v2.cell? ⟨x0.heap.size, 1, none⟩ = some (.string p) := (hb2.cell (by show x0.heap.size < _; omega)).trans x11
        have x22 : v2.cell? ⟨x0.heap.size, 2, none⟩ = some (.slice va n vc) := (hb2.cell (by show x0.heap.size < _; omega)).trans x12
        have x23 : v2.cell? ⟨x0.heap.size, 3, none⟩ = some (.slice ka m kc) := (hb2.cell (by show x0.heap.size < _; omega)).trans x13
        have z2 := hb2.size
        have HR2 : Hid (Below x0.heap.size x0 v2) := HR1.out.trans (hb2.mono HR1.out.size)
        clear hb2 f1 x10 x11 x12 x13 HR1
        go_wp2_with fail
        refine (show Calls Tryz.prog 51 #[.string p] _ (NamesIs p.data.toList _) from l3Path_any p.data.toList _ s1).mono ?_
        rintro e v3 ⟨vv, g, rfl, _, _, hb3⟩
        have f3 : v3.cell? ⟨w.heap.size, 0, none⟩ = some (.slice (some ⟨b, off, none⟩) t c) := (hb3.cell (by show w.heap.size < _; omega)).trans f2
        have x30 : v3.cell? ⟨x0.heap.size, 0, none⟩ = some (.int .i64 4) := (hb3.cell (by show x0.heap.size < _; omega)).trans x20
        have x31 : v3.cell? ⟨x0.heap.size, 1, none⟩ = some (.string p) := (hb3.cell (by show x0.heap.size < _; omega)).trans x21
        have x32 : v3.cell? ⟨x0.heap.size, 2, none⟩ = some (.slice va n vc) := (hb3.cell (by show x0.heap.size < _; omega)).trans x22
        have x33 : v3.cell? ⟨x0.heap.size, 3, none⟩ = some (.slice ka m kc) := (hb3.cell (by show x0.heap.size < _; omega)).trans x23
        have z3 := hb3.size
        have HR3 : Hid (Below x0.heap.size x0 v3) := HR2.out.trans (hb3.mono HR2.out.size)
        clear hb3 f2 x20 x21 x22 x23 HR2
        cases hpp : (namesL p.data.toList).isSome with
        | false =>
          have HN : Hid (¬ GoodF F t) := HBAD.out fun h => by have := (HIF.out.1 h).1; unfold PathIs at this; rw [hpp] at this; simp at this
          clear hpp
          go_wp2
          go_ret
          exact BoolIs.no HN.out (HNX.out.trans (HR3.out.mono HNX.out.size))
        | true =>
          have HP : Hid (PathIs p) := hpp
          clear hpp
          by_cases m0 : m = 0
          · have HM0 : Hid (m = 0) := m0
            have m1 : ¬ ((0 : Int) < (m : Int)) := by omega
            clear m0
            go_wp2_with fail
            refine (l5Zero_any va vc n _ HSN.out.1).mono ?_
            rintro e v4 ⟨q, rfl, hq, hb4⟩
            have f4 : v4.cell? ⟨w.heap.size, 0, none⟩ = some (.slice (some ⟨b, off, none⟩) t c) := (hb4.cell (by show w.heap.size < _; omega)).trans f3
            have x40 : v4.cell? ⟨x0.heap.size, 0, none⟩ = some (.int .i64 4) := (hb4.cell (by show x0.heap.size < _; omega)).trans x30
            have x41 : v4.cell? ⟨x0.heap.size, 1, none⟩ = some (.string p) := (hb4.cell (by show x0.heap.size < _; omega)).trans x31
            have x42 : v4.cell? ⟨x0.heap.size, 2, none⟩ = some (.slice va n vc) := (hb4.cell (by show x0.heap.size < _; omega)).trans x32
            have x43 : v4.cell? ⟨x0.heap.size, 3, none⟩ = some (.slice ka m kc) := (hb4.cell (by show x0.heap.size < _; omega)).trans x33
            have z4 := hb4.size
            have HR4 : Hid (Below x0.heap.size x0 v4) := HR3.out.trans (hb4.mono HR3.out.size)
            clear hb4 f3 x30 x31 x32 x33 HR3
            cases q with
            | false =>
              have HN : Hid (¬ GoodF F t) := HBAD.out fun h => by simpa using hq.2 (HIF.out.1 h).2.1
              clear hq
              go_wp2
              go_ret
              exact BoolIs.no HN.out (HNX.out.trans (HR4.out.mono HNX.out.size))
            | true =>
              have HY' : Hid (∀ j, j < k + 1 → FieldsOK (F j) ∧ RisA (F j).K (F j).m j) := HNEXT.out (HIF.out.2 ⟨HP.out, hq.1 rfl, HM0.out⟩) (fun j hj => by have := HM0.out; omega)
              clear hq
              go_wp2
              go_roundw
              case rel => exact ⟨k + 1, by omega, by go_num, by omega, HNX.out.trans (HR4.out.mono HNX.out.size), by omega, f4, by have h := HI.out.below HR4.out (by omega); rw [HC0.out HM0.out] at h; exact h, HY'⟩
              case measure => simp [intOf]; omega
          · have HN : Hid (¬ GoodF F t) := HBAD.out fun h => m0 (HIF.out.1 h).2.2
            have m1 : (0 : Int) < (m : Int) := by omega
            go_wp2
            go_ret
            exact BoolIs.no HN.out (HNX.out.trans (HR3.out.mono HNX.out.size))
      · subst hkd
        have HIF : Hid (FieldsOK ⟨5, p, n, N, m, K⟩ ↔ _) := fields_in p n N m K
        go_wp2_with fail
        refine (l1In_any 5 1 8 _).mono ?_
        rintro e v1 ⟨rfl, hb1⟩
        have f1 : v1.cell? ⟨w.heap.size, 0, none⟩ = some (.slice (some ⟨b, off, none⟩) t c) := by rw [hb1.cell (by simp; omega)]; simp [World.cell?_alloc_past, hz, hf]
        have x10 : v1.cell? ⟨x0.heap.size, 0, none⟩ = some (.int .i64 5) := by rw [hb1.cell (by simp)]; simp [World.cell?_alloc_new]
        have x11 : v1.cell? ⟨x0.heap.size, 1, none⟩ = some (.string p) := by rw [hb1.cell (by simp)]; simp [World.cell?_alloc_new]
        have x12 : v1.cell? ⟨x0.heap.size, 2, none⟩ = some (.slice va n vc) := by rw [hb1.cell (by simp)]; simp [World.cell?_alloc_new]
        have x13 : v1.cell? ⟨x0.heap.size, 3, none⟩ = some (.slice ka m kc) := by rw [hb1.cell (by simp)]; simp [World.cell?_alloc_new]
        have z1' := hb1.size
        simp at z1'
        have HR1 : Hid (Below x0.heap.size x0 v1) := (HWA _).trans (hb1.mono (by simp))
        clear hb1 HWA
        go_wp2_with fail
        refine (l5Leaf_any 5 _).mono ?_
        rintro e v2 ⟨rfl, hb2⟩
        have f2 : v2.cell? ⟨w.heap.size, 0, none⟩ = some (.slice (some ⟨b, off, none⟩) t c) := (hb2.cell (by show w.heap.size < _; omega)).trans f1
        have x20 : v2.cell? ⟨x0.heap.size, 0, none⟩ = some (.int .i64 5) := (hb2.cell (by show x0.heap.size < _; omega)).trans x10
        have x21 : v2.cell? ⟨x0.heap.size, 1, none⟩ = some (.string p) := (hb2.cell (by show x0.heap.size < _; omega)).trans x11
        have x22 : v2.cell? ⟨x0.heap.size, 2, none⟩ = some (.slice va n vc) := (hb2.cell (by show x0.heap.size < _; omega)).trans x12
        have x23 : v2.cell? ⟨x0.heap.size, 3, none⟩ = some (.slice ka m kc) := (hb2.cell (by show x0.heap.size < _; omega)).trans x13
        have z2 := hb2.size
        have HR2 : Hid (Below x0.heap.size x0 v2) := HR1.out.trans (hb2.mono HR1.out.size)
        clear hb2 f1 x10 x11 x12 x13 HR1
        go_wp2_with fail
        refine (show Calls Tryz.prog 51 #[.string p] _ (NamesIs p.data.toList _) from l3Path_any p.data.toList _ s1).mono ?_
        rintro e v3 ⟨vv, g, rfl, _, _, hb3⟩
        have f3 : v3.cell? ⟨w.heap.size, 0, none⟩ = some (.slice (some ⟨b, off, none⟩) t c) := (hb3.cell (by show w.heap.size < _; omega)).trans f2
        have x30 : v3.cell? ⟨x0.heap.size, 0, none⟩ = some (.int .i64 5) := (hb3.cell (by show x0.heap.size < _; omega)).trans x20
        have x31 : v3.cell? ⟨x0.heap.size, 1, none⟩ = some (.string p) := (hb3.cell (by show x0.heap.size < _; omega)).trans x21
        have x32 : v3.cell? ⟨x0.heap.size, 2, none⟩ = some (.slice va n vc) := (hb3.cell (by show x0.heap.size < _; omega)).trans x22
        have x33 : v3.cell? ⟨x0.heap.size, 3, none⟩ = some (.slice ka m kc) := (hb3.cell (by show x0.heap.size < _; omega)).trans x23
        have z3 := hb3.size
        have HR3 : Hid (Below x0.heap.size x0 v3) := HR2.out.trans (hb3.mono HR2.out.size)
        clear hb3 f2 x20 x21 x22 x23 HR2
        cases hpp : (namesL p.data.toList).isSome with
        | false =>
          have HN : Hid (¬ GoodF F t) := HBAD.out fun h => by have := (HIF.out.1 h).1; unfold PathIs at this; rw [hpp] at this; simp at this
          clear hpp
          go_wp2
          go_ret
          exact BoolIs.no HN.out (HNX.out.trans (HR3.out.mono HNX.out.size))
        | true =>
          have HP : Hid (PathIs p) := hpp
          clear hpp
          by_cases m0 : m = 0
          · have HM0 : Hid (m = 0) := m0
            have m1 : ¬ ((0 : Int) < (m : Int)) := by omega
            clear m0
            go_wp2_with fail
            refine (specGood_arg va vc n N _ (HV.out.1.below HR3.out) HSN.out).mono ?_
            rintro e v4 ⟨q, rfl, hq, hb4⟩
            have f4 : v4.cell? ⟨w.heap.size, 0, none⟩ = some (.slice (some ⟨b, off, none⟩) t c) := (hb4.cell (by show w.heap.size < _; omega)).trans f3
            have x40 : v4.cell? ⟨x0.heap.size, 0, none⟩ = some (.int .i64 5) := (hb4.cell (by show x0.heap.size < _; omega)).trans x30
            have x41 : v4.cell? ⟨x0.heap.size, 1, none⟩ = some (.string p) := (hb4.cell (by show x0.heap.size < _; omega)).trans x31
            have x42 : v4.cell? ⟨x0.heap.size, 2, none⟩ = some (.slice va n vc) := (hb4.cell (by show x0.heap.size < _; omega)).trans x32
            have x43 : v4.cell? ⟨x0.heap.size, 3, none⟩ = some (.slice ka m kc) := (hb4.cell (by show x0.heap.size < _; omega)).trans x33
            have z4 := hb4.size
            have HR4 : Hid (Below x0.heap.size x0 v4) := HR3.out.trans (hb4.mono HR3.out.size)
            clear hb4 f3 x30 x31 x32 x33 HR3
            cases q with
            | false =>
              have HN : Hid (¬ GoodF F t) := HBAD.out fun h => by simpa using hq.2 (HIF.out.1 h).2.1.1
              clear hq
              go_wp2
              go_ret
              exact BoolIs.no HN.out (HNX.out.trans (HR4.out.mono HNX.out.size))
            | true =>
              have hg := hq.1 rfl
              have n0 := good_pos hg
              have HG : Hid (GoodV N n) := hg
              have n20 := HSN.out.1
              clear hq hg
              rcases HV.out.1.below HR4.out with h0 | ⟨bb, oo, rfl, hbb, hat⟩
              · omega
              have a0 := (hat 0 n0).1
              have i2 : (0 : Int) < (n : Int) := by omega
              simp only [Nat.zero_mul, Nat.add_zero] at a0
              clear hat
              by_cases h6 : (N 0).kind = 6
              · rw [h6] at a0
                have HY' : Hid (∀ j, j < k + 1 → FieldsOK (F j) ∧ RisA (F j).K (F j).m j) := HNEXT.out (HIF.out.2 ⟨HP.out, ⟨HG.out, h6⟩, HM0.out⟩) (fun j hj => by have := HM0.out; omega)
                clear h6
                go_wp2
                go_roundw
                case rel => exact ⟨k + 1, by omega, by go_num, by omega, HNX.out.trans (HR4.out.mono HNX.out.size), by omega, f4, by have h := HI.out.below HR4.out (by omega); rw [HC0.out HM0.out] at h; exact h, HY'⟩
                case measure => simp [intOf]; omega
              · have HN : Hid (¬ GoodF F t) := HBAD.out fun h => h6 (HIF.out.1 h).2.1.2
                obtain ⟨k6, hk6⟩ : ∃ k6, k6 = (N 0).kind := ⟨_, rfl⟩
                rw [← hk6] at a0 h6
                clear hk6
                go_wp2
                go_ret
                exact BoolIs.no HN.out (HNX.out.trans (HR4.out.mono HNX.out.size))
          · have HN : Hid (¬ GoodF F t) := HBAD.out fun h => m0 (HIF.out.1 h).2.2
            have m1 : (0 : Int) < (m : Int) := by omega
            go_wp2
            go_ret
            exact BoolIs.no HN.out (HNX.out.trans (HR3.out.mono HNX.out.size))
      · subst hkd
        have HIF : Hid (FieldsOK ⟨6, p, n, N, m, K⟩ ↔ _) := fields_all 6 p n N m K (by decide)
        go_wp2_with fail
        refine (l1In_any 6 1 8 _).mono ?_
        rintro e v1 ⟨rfl, hb1⟩
        have f1 : v1.cell? ⟨w.heap.size, 0, none⟩ = some (.slice (some ⟨b, off, none⟩) t c) := by rw [hb1.cell (by simp; omega)]; simp [World.cell?_alloc_past, hz, hf]
        have x10 : v1.cell? ⟨x0.heap.size, 0, none⟩ = some (.int .i64 6) := by rw [hb1.cell (by simp)]; simp [World.cell?_alloc_new]
        have x11 : v1.cell? ⟨x0.heap.size, 1, none⟩ = some (.string p) := by rw [hb1.cell (by simp)]; simp [World.cell?_alloc_new]
        have x12 : v1.cell? ⟨x0.heap.size, 2, none⟩ = some (.slice va n vc) := by rw [hb1.cell (by simp)]; simp [World.cell?_alloc_new]
        have x13 : v1.cell? ⟨x0.heap.size, 3, none⟩ = some (.slice ka m kc) := by rw [hb1.cell (by simp)]; simp [World.cell?_alloc_new]
        have z1' := hb1.size
        simp at z1'
        have HR1 : Hid (Below x0.heap.size x0 v1) := (HWA _).trans (hb1.mono (by simp))
        clear hb1 HWA
        go_wp2_with fail
        refine (l5Leaf_any 6 _).mono ?_
        rintro e v2 ⟨rfl, hb2⟩
        have f2 : v2.cell? ⟨w.heap.size, 0, none⟩ = some (.slice (some ⟨b, off, none⟩) t c) := (hb2.cell (by show w.heap.size < _; omega)).trans f1
        have x20 : v2.cell? ⟨x0.heap.size, 0, none⟩ = some (.int .i64 6) := (hb2.cell (by show x0.heap.size < _; omega)).trans x10
        have x21 : v2.cell? ⟨x0.heap.size, 1, none⟩ = some (.string p) := (hb2.cell (by show x0.heap.size < _; omega)).trans x11
        have x22 : v2.cell? ⟨x0.heap.size, 2, none⟩ = some (.slice va n vc) := (hb2.cell (by show x0.heap.size < _; omega)).trans x12
        have x23 : v2.cell? ⟨x0.heap.size, 3, none⟩ = some (.slice ka m kc) := (hb2.cell (by show x0.heap.size < _; omega)).trans x13
        have z2 := hb2.size
        have HR2 : Hid (Below x0.heap.size x0 v2) := HR1.out.trans (hb2.mono HR1.out.size)
        clear hb2 f1 x10 x11 x12 x13 HR1
        by_cases p0 : p.size = 0
        · have pe : p.toList = [] := (empty_iff p).2 p0
          have HP0 : Hid (p.size = 0) := p0
          clear p0
          go_wp2_with fail
          refine (l5Zero_any va vc n _ HSN.out.1).mono ?_
          rintro e v3 ⟨q, rfl, hq, hb3⟩
          have f3 : v3.cell? ⟨w.heap.size, 0, none⟩ = some (.slice (some ⟨b, off, none⟩) t c) := (hb3.cell (by show w.heap.size < _; omega)).trans f2
          have x30 : v3.cell? ⟨x0.heap.size, 0, none⟩ = some (.int .i64 6) := (hb3.cell (by show x0.heap.size < _; omega)).trans x20
          have x31 : v3.cell? ⟨x0.heap.size, 1, none⟩ = some (.string p) := (hb3.cell (by show x0.heap.size < _; omega)).trans x21
          have x32 : v3.cell? ⟨x0.heap.size, 2, none⟩ = some (.slice va n vc) := (hb3.cell (by show x0.heap.size < _; omega)).trans x22
          have x33 : v3.cell? ⟨x0.heap.size, 3, none⟩ = some (.slice ka m kc) := (hb3.cell (by show x0.heap.size < _; omega)).trans x23
          have z3 := hb3.size
          have HR3 : Hid (Below x0.heap.size x0 v3) := HR2.out.trans (hb3.mono HR2.out.size)
          clear hb3 f2 x20 x21 x22 x23 HR2
          cases q with
          | false =>
            have HN : Hid (¬ GoodF F t) := HBAD.out fun h => by simpa using hq.2 (HIF.out.1 h).2
            clear hq
            go_wp2
            go_ret
            exact BoolIs.no HN.out (HNX.out.trans (HR3.out.mono HNX.out.size))
          | true =>
            have HN0 : Hid (n = 0) := hq.1 rfl
            clear hq
            have HF : Hid (FieldsOK ⟨6, p, n, N, m, K⟩) := HIF.out.2 ⟨HP0.out, HN0.out⟩
            have HB3 : Hid (Below w.heap.size w v3) := HNX.out.trans (HR3.out.mono HNX.out.size)
            have HI3 : Hid (IntsAt v3 w1.heap.size t (C 0)) := HI0.out.below HR3.out hz1
            clear HR3 HI0 HI HNX a0 a1 a2 a3 hf
            go_wp2_with fail
            clear x30 x31 x32
            go_loopw [107] (fun i wr2 => ∃ j : Nat, j ≤ m ∧ i = .int .i64 (j : Int) ∧ x0.heap.size < wr2.heap.size ∧ wr2.cell? ⟨w.heap.size, 0, none⟩ = some (.slice (some ⟨b, off, none⟩) t c) ∧ wr2.cell? ⟨x0.heap.size, 3, none⟩ = some (.slice ka m kc) ∧ Below w.heap.size w wr2 ∧ Hid (IntsAt wr2 w1.heap.size t (C j)) ∧ Hid (∀ i, i < j → (0 ≤ K i ∧ K i < k) ∧ (0 < i → K (i - 1) < K i))) (fun i _ => m - (intOf i).toNat)
            case atStart => exact ⟨0, Nat.zero_le _, rfl, by omega, f3, x33, HB3.out, HI3, fun i hi => by omega⟩
            case round =>
              clear f3 x33 HB3 HI3
              obtain ⟨j, hj, rfl, hz2, f3, x33, hnx2, HI, HRJ⟩ := hrel
              by_cases hjm : j < m
              · rcases HV.out.2 with h0 | ⟨b', off', rfl, hb', hat⟩
                · omega
                have d0 := (hnx2.cell hb').trans (hat j hjm)
                have j0 : (0 : Int) ≤ (j : Int) := by omega
                have j1 : (j : Int) < (m : Int) := by omega
                have HNX2 : Hid (Below w.heap.size w wr) := hnx2
                have HRN : Hid (∀ i, i < m → ¬ ((0 ≤ K i ∧ K i < k) ∧ (0 < i → K (i - 1) < K i)) → ¬ GoodF F t) := fun i hi h => HRIS.out fun r => h (r i hi)
                by_cases hr : 0 ≤ K j ∧ K j ≤ (k : Int) - 1
                · obtain ⟨q, hq⟩ : ∃ q : Nat, K j = (q : Int) := ⟨(K j).toNat, by omega⟩
                  have hqt : q < t := by omega
                  have hqk : (q : Int) < k := by omega
                  have hd : (decide (0 ≤ (q : Int)) && decide ((q : Int) ≤ (k : Int) - 1)) = true := by simp; omega
                  obtain ⟨cb0, cb1⟩ := HCB.out j q hj
                  have HCQ : Hid ((fun z => if z = q then C j q + 1 else C j z) = C (j + 1)) := HCS.out j q hq
                  have HPJ : Hid (0 < j → ¬ K (j - 1) < (q : Int) → ¬ GoodF F t) := fun h0 h1 => HRN.out j hjm (fun h => h1 (by have := h.2 h0; omega))
                  have HRJ' : Hid ((0 < j → K (j - 1) < (q : Int)) → ∀ i, i < j + 1 → (0 ≤ K i ∧ K i < k) ∧ (0 < i → K (i - 1) < K i)) := fun h i hi => by
                    by_cases e : i = j
                    · subst e; exact ⟨⟨by omega, by omega⟩, fun h0 => by have := h h0; omega⟩
                    · exact HRJ.out i (by omega)
                  rw [hq] at d0
                  clear hq hr
                  by_cases hp : 0 < j
                  · obtain ⟨i, rfl⟩ : ∃ i, j = i + 1 := ⟨j - 1, by omega⟩
                    have e0 := (hnx2.cell hb').trans (hat i (by omega))
                    simp only [Nat.add_sub_cancel] at HPJ HRJ'
                    obtain ⟨y, hy⟩ : ∃ y, y = K i := ⟨_, rfl⟩
                    rw [← hy] at e0 HPJ HRJ'
                    have i2 : (0 : Int) ≤ (i : Int) := by omega
                    have i3 : (i : Int) < (m : Int) := by omega
                    have i4 : (0 : Int) < (i : Int) + 1 := by omega
                    have hs1 : ((i + 1 : Nat) : Int) - 1 = (i : Int) := by omega
                    clear hat hnx2 hy
                    by_cases hle : (q : Int) ≤ y
                    · have HN : Hid (¬ GoodF F t) := HPJ.out hp (by omega)
                      go_wp2_with fail
                      go_fit (l1In_any (q : Int) 0 ((k : Int) - 1) wr)
                      rw [hd]
                      rintro e v4 ⟨rfl, hb4⟩
                      have x43 : v4.cell? ⟨x0.heap.size, 3, none⟩ = some (.slice (some ⟨b', off', none⟩) m kc) := (hb4.cell (by show x0.heap.size < _; omega)).trans x33
                      have e4 : v4.cell? ⟨b', off' + i, none⟩ = some (.int .i64 y) := (hb4.cell (by show b' < _; omega)).trans e0
                      have HB4 : Hid (Below w.heap.size w v4) := HNX2.out.trans (hb4.mono HNX2.out.size)
                      clear hb4
                      go_wp2
                      go_ret
                      exact BoolIs.no HN.out HB4.out
                    · have HRK : Hid (∀ i_1, i_1 < i + 1 + 1 → (0 ≤ K i_1 ∧ K i_1 < k) ∧ (0 < i_1 → K (i_1 - 1) < K i_1)) := HRJ'.out (fun _ => by omega)
                      go_wp2_with fail
                      go_fit (l1In_any (q : Int) 0 ((k : Int) - 1) wr)
                      rw [hd]
                      rintro e v4 ⟨rfl, hb4⟩
                      have x43 : v4.cell? ⟨x0.heap.size, 3, none⟩ = some (.slice (some ⟨b', off', none⟩) m kc) := (hb4.cell (by show x0.heap.size < _; omega)).trans x33
                      have f4 : v4.cell? ⟨w.heap.size, 0, none⟩ = some (.slice (some ⟨b, off, none⟩) t c) := (hb4.cell (by show w.heap.size < _; omega)).trans f3
                      have e4 : v4.cell? ⟨b', off' + i, none⟩ = some (.int .i64 y) := (hb4.cell (by show b' < _; omega)).trans e0
                      have HB4 : Hid (Below w.heap.size w v4) := HNX2.out.trans (hb4.mono HNX2.out.size)
                      have z4 := hb4.size
                      have HI4 : Hid (IntsAt v4 w1.heap.size t (C (i + 1))) := HI.out.below hb4 (by omega)
                      clear hb4 HI
                      have c0 := (HI4.out q hqt).1
                      have c1 := (HI4.out q hqt).2
                      have HIS : Hid (IntsAt (v4.setCell ⟨w1.heap.size, q, none⟩ (.int .i64 (C (i + 1) q + 1))) w1.heap.size t (C (i + 1 + 1))) := by
                        rw [← HCQ.out]
                        exact HI4.out.set hqt (C (i + 1) q + 1)
                      have HBS : Hid (Below w.heap.size w (v4.setCell ⟨w1.heap.size, q, none⟩ (.int .i64 (C (i + 1) q + 1)))) := HB4.out.setCell (p := ⟨w1.heap.size, _, none⟩) (by show w.heap.size ≤ w1.heap.size; omega) _
                      have q0 : (0 : Int) ≤ (q : Int) := by omega
                      have q1 : (q : Int) < (t : Int) := by omega
                      obtain ⟨x, hx⟩ : ∃ x, x = C (i + 1) q := ⟨_, rfl⟩
                      rw [← hx] at c0 cb0 cb1 HIS HBS
                      clear hx HCQ
                      go_wp2
                      go_roundw
                      case rel => exact ⟨i + 1 + 1, by omega, by go_num, by simp [World.setCell]; omega, (World.cell?_setCell_other _ _ _ _ (by intro e; injection e with e1 _ _; omega)).trans f4, (World.cell?_setCell_other _ _ _ _ (by intro e; injection e with e1 _ _; omega)).trans x43, HBS.out, HIS, HRK⟩
                      case measure => simp [intOf]; omega
                  · have hp' : ¬ ((0 : Int) < (j : Int)) := by omega
                    have HRK : Hid (∀ i_1, i_1 < j + 1 → (0 ≤ K i_1 ∧ K i_1 < k) ∧ (0 < i_1 → K (i_1 - 1) < K i_1)) := HRJ'.out (fun h => absurd h hp)
                    clear hp hat hnx2
                    go_wp2_with fail
                    go_fit (l1In_any (q : Int) 0 ((k : Int) - 1) wr)
                    rw [hd]
                    rintro e v4 ⟨rfl, hb4⟩
                    have x43 : v4.cell? ⟨x0.heap.size, 3, none⟩ = some (.slice (some ⟨b', off', none⟩) m kc) := (hb4.cell (by show x0.heap.size < _; omega)).trans x33
                    have f4 : v4.cell? ⟨w.heap.size, 0, none⟩ = some (.slice (some ⟨b, off, none⟩) t c) := (hb4.cell (by show w.heap.size < _; omega)).trans f3
                    have HB4 : Hid (Below w.heap.size w v4) := HNX2.out.trans (hb4.mono HNX2.out.size)
                    have z4 := hb4.size
                    have HI4 : Hid (IntsAt v4 w1.heap.size t (C j)) := HI.out.below hb4 (by omega)
                    clear hb4 HI
                    have c0 := (HI4.out q hqt).1
                    have c1 := (HI4.out q hqt).2
                    have HIS : Hid (IntsAt (v4.setCell ⟨w1.heap.size, q, none⟩ (.int .i64 (C (j) q + 1))) w1.heap.size t (C (j + 1))) := by
                      rw [← HCQ.out]
                      exact HI4.out.set hqt (C (j) q + 1)
                    have HBS : Hid (Below w.heap.size w (v4.setCell ⟨w1.heap.size, q, none⟩ (.int .i64 (C (j) q + 1)))) := HB4.out.setCell (p := ⟨w1.heap.size, _, none⟩) (by show w.heap.size ≤ w1.heap.size; omega) _
                    have q0 : (0 : Int) ≤ (q : Int) := by omega
                    have q1 : (q : Int) < (t : Int) := by omega
                    obtain ⟨x, hx⟩ : ∃ x, x = C (j) q := ⟨_, rfl⟩
                    rw [← hx] at c0 cb0 cb1 HIS HBS
                    clear hx HCQ
                    go_wp2
                    go_roundw
                    case rel => exact ⟨j + 1, by omega, by go_num, by simp [World.setCell]; omega, (World.cell?_setCell_other _ _ _ _ (by intro e; injection e with e1 _ _; omega)).trans f4, (World.cell?_setCell_other _ _ _ _ (by intro e; injection e with e1 _ _; omega)).trans x43, HBS.out, HIS, HRK⟩
                    case measure => simp [intOf]; omega
                · have HN : Hid (¬ GoodF F t) := HRN.out j hjm (fun h => hr ⟨h.1.1, by have := h.1.2; omega⟩)
                  have hd : (decide (0 ≤ K j) && decide (K j ≤ (k : Int) - 1)) = false := by simp; omega
                  obtain ⟨y, hy⟩ : ∃ y, y = K j := ⟨_, rfl⟩
                  rw [← hy] at d0 hd
                  clear hat hnx2 hy hr
                  go_wp2_with fail
                  go_fit (l1In_any y 0 ((k : Int) - 1) wr)
                  rw [hd]
                  rintro e v4 ⟨rfl, hb4⟩
                  have HB4 : Hid (Below w.heap.size w v4) := HNX2.out.trans (hb4.mono HNX2.out.size)
                  clear hb4
                  go_wp2
                  go_ret
                  exact BoolIs.no HN.out HB4.out
              · obtain rfl : j = m := by omega
                have HY' : Hid (∀ j, j < k + 1 → FieldsOK (F j) ∧ RisA (F j).K (F j).m j) := HNEXT.out HF.out HRJ.out
                have HI' : Hid (IntsAt wr w1.heap.size t (fun z : Nat => tcnt F (k + 1) z)) := by have h := HI.out; rw [HCW.out] at h; exact h
                go_wp2
                go_roundw
                case rel => exact ⟨k + 1, by omega, by go_num, by omega, hnx2, by omega, f3, HI', HY'⟩
                case measure => simp [intOf]; omega
        · have HN : Hid (¬ GoodF F t) := HBAD.out fun h => p0 (HIF.out.1 h).1
          have pe : ¬ p.toList = [] := fun h => p0 ((empty_iff p).1 h)
          clear p0
          go_wp2
          go_ret
          exact BoolIs.no HN.out (HNX.out.trans (HR2.out.mono HNX.out.size))
      · subst hkd
        have HIF : Hid (FieldsOK ⟨7, p, n, N, m, K⟩ ↔ _) := fields_all 7 p n N m K (by decide)
        go_wp2_with fail
        refine (l1In_any 7 1 8 _).mono ?_
        rintro e v1 ⟨rfl, hb1⟩
        have f1 : v1.cell? ⟨w.heap.size, 0, none⟩ = some (.slice (some ⟨b, off, none⟩) t c) := by rw [hb1.cell (by simp; omega)]; simp [World.cell?_alloc_past, hz, hf]
        have x10 : v1.cell? ⟨x0.heap.size, 0, none⟩ = some (.int .i64 7) := by rw [hb1.cell (by simp)]; simp [World.cell?_alloc_new]
        have x11 : v1.cell? ⟨x0.heap.size, 1, none⟩ = some (.string p) := by rw [hb1.cell (by simp)]; simp [World.cell?_alloc_new]
        have x12 : v1.cell? ⟨x0.heap.size, 2, none⟩ = some (.slice va n vc) := by rw [hb1.cell (by simp)]; simp [World.cell?_alloc_new]
        have x13 : v1.cell? ⟨x0.heap.size, 3, none⟩ = some (.slice ka m kc) := by rw [hb1.cell (by simp)]; simp [World.cell?_alloc_new]
        have z1' := hb1.size
        simp at z1'
        have HR1 : Hid (Below x0.heap.size x0 v1) := (HWA _).trans (hb1.mono (by simp))
        clear hb1 HWA
        go_wp2_with fail
        refine (l5Leaf_any 7 _).mono ?_
        rintro e v2 ⟨rfl, hb2⟩
        have f2 : v2.cell? ⟨w.heap.size, 0, none⟩ = some (.slice (some ⟨b, off, none⟩) t c) := (hb2.cell (by show w.heap.size < _; omega)).trans f1
        have x20 : v2.cell? ⟨x0.heap.size, 0, none⟩ = some (.int .i64 7) := (hb2.cell (by show x0.heap.size < _; omega)).trans x10
        have x21 : v2.cell? ⟨x0.heap.size, 1, none⟩ = some (.string p) := (hb2.cell (by show x0.heap.size < _; omega)).trans x11
        have x22 : v2.cell? ⟨x0.heap.size, 2, none⟩ = some (.slice va n vc) := (hb2.cell (by show x0.heap.size < _; omega)).trans x12
        have x23 : v2.cell? ⟨x0.heap.size, 3, none⟩ = some (.slice ka m kc) := (hb2.cell (by show x0.heap.size < _; omega)).trans x13
        have z2 := hb2.size
        have HR2 : Hid (Below x0.heap.size x0 v2) := HR1.out.trans (hb2.mono HR1.out.size)
        clear hb2 f1 x10 x11 x12 x13 HR1
        by_cases p0 : p.size = 0
        · have pe : p.toList = [] := (empty_iff p).2 p0
          have HP0 : Hid (p.size = 0) := p0
          clear p0
          go_wp2_with fail
          refine (l5Zero_any va vc n _ HSN.out.1).mono ?_
          rintro e v3 ⟨q, rfl, hq, hb3⟩
          have f3 : v3.cell? ⟨w.heap.size, 0, none⟩ = some (.slice (some ⟨b, off, none⟩) t c) := (hb3.cell (by show w.heap.size < _; omega)).trans f2
          have x30 : v3.cell? ⟨x0.heap.size, 0, none⟩ = some (.int .i64 7) := (hb3.cell (by show x0.heap.size < _; omega)).trans x20
          have x31 : v3.cell? ⟨x0.heap.size, 1, none⟩ = some (.string p) := (hb3.cell (by show x0.heap.size < _; omega)).trans x21
          have x32 : v3.cell? ⟨x0.heap.size, 2, none⟩ = some (.slice va n vc) := (hb3.cell (by show x0.heap.size < _; omega)).trans x22
          have x33 : v3.cell? ⟨x0.heap.size, 3, none⟩ = some (.slice ka m kc) := (hb3.cell (by show x0.heap.size < _; omega)).trans x23
          have z3 := hb3.size
          have HR3 : Hid (Below x0.heap.size x0 v3) := HR2.out.trans (hb3.mono HR2.out.size)
          clear hb3 f2 x20 x21 x22 x23 HR2
          cases q with
          | false =>
            have HN : Hid (¬ GoodF F t) := HBAD.out fun h => by simpa using hq.2 (HIF.out.1 h).2
            clear hq
            go_wp2
            go_ret
            exact BoolIs.no HN.out (HNX.out.trans (HR3.out.mono HNX.out.size))
          | true =>
            have HN0 : Hid (n = 0) := hq.1 rfl
            clear hq
            have HF : Hid (FieldsOK ⟨7, p, n, N, m, K⟩) := HIF.out.2 ⟨HP0.out, HN0.out⟩
            have HB3 : Hid (Below w.heap.size w v3) := HNX.out.trans (HR3.out.mono HNX.out.size)
            have HI3 : Hid (IntsAt v3 w1.heap.size t (C 0)) := HI0.out.below HR3.out hz1
            clear HR3 HI0 HI HNX a0 a1 a2 a3 hf
            go_wp2_with fail
            clear x30 x31 x32
            go_loopw [107] (fun i wr2 => ∃ j : Nat, j ≤ m ∧ i = .int .i64 (j : Int) ∧ x0.heap.size < wr2.heap.size ∧ wr2.cell? ⟨w.heap.size, 0, none⟩ = some (.slice (some ⟨b, off, none⟩) t c) ∧ wr2.cell? ⟨x0.heap.size, 3, none⟩ = some (.slice ka m kc) ∧ Below w.heap.size w wr2 ∧ Hid (IntsAt wr2 w1.heap.size t (C j)) ∧ Hid (∀ i, i < j → (0 ≤ K i ∧ K i < k) ∧ (0 < i → K (i - 1) < K i))) (fun i _ => m - (intOf i).toNat)
            case atStart => exact ⟨0, Nat.zero_le _, rfl, by omega, f3, x33, HB3.out, HI3, fun i hi => by omega⟩
            case round =>
              clear f3 x33 HB3 HI3
              obtain ⟨j, hj, rfl, hz2, f3, x33, hnx2, HI, HRJ⟩ := hrel
              by_cases hjm : j < m
              · rcases HV.out.2 with h0 | ⟨b', off', rfl, hb', hat⟩
                · omega
                have d0 := (hnx2.cell hb').trans (hat j hjm)
                have j0 : (0 : Int) ≤ (j : Int) := by omega
                have j1 : (j : Int) < (m : Int) := by omega
                have HNX2 : Hid (Below w.heap.size w wr) := hnx2
                have HRN : Hid (∀ i, i < m → ¬ ((0 ≤ K i ∧ K i < k) ∧ (0 < i → K (i - 1) < K i)) → ¬ GoodF F t) := fun i hi h => HRIS.out fun r => h (r i hi)
                by_cases hr : 0 ≤ K j ∧ K j ≤ (k : Int) - 1
                · obtain ⟨q, hq⟩ : ∃ q : Nat, K j = (q : Int) := ⟨(K j).toNat, by omega⟩
                  have hqt : q < t := by omega
                  have hqk : (q : Int) < k := by omega
                  have hd : (decide (0 ≤ (q : Int)) && decide ((q : Int) ≤ (k : Int) - 1)) = true := by simp; omega
                  obtain ⟨cb0, cb1⟩ := HCB.out j q hj
                  have HCQ : Hid ((fun z => if z = q then C j q + 1 else C j z) = C (j + 1)) := HCS.out j q hq
                  have HPJ : Hid (0 < j → ¬ K (j - 1) < (q : Int) → ¬ GoodF F t) := fun h0 h1 => HRN.out j hjm (fun h => h1 (by have := h.2 h0; omega))
                  have HRJ' : Hid ((0 < j → K (j - 1) < (q : Int)) → ∀ i, i < j + 1 → (0 ≤ K i ∧ K i < k) ∧ (0 < i → K (i - 1) < K i)) := fun h i hi => by
                    by_cases e : i = j
                    · subst e; exact ⟨⟨by omega, by omega⟩, fun h0 => by have := h h0; omega⟩
                    · exact HRJ.out i (by omega)
                  rw [hq] at d0
                  clear hq hr
                  by_cases hp : 0 < j
                  · obtain ⟨i, rfl⟩ : ∃ i, j = i + 1 := ⟨j - 1, by omega⟩
                    have e0 := (hnx2.cell hb').trans (hat i (by omega))
                    simp only [Nat.add_sub_cancel] at HPJ HRJ'
                    obtain ⟨y, hy⟩ : ∃ y, y = K i := ⟨_, rfl⟩
                    rw [← hy] at e0 HPJ HRJ'
                    have i2 : (0 : Int) ≤ (i : Int) := by omega
                    have i3 : (i : Int) < (m : Int) := by omega
                    have i4 : (0 : Int) < (i : Int) + 1 := by omega
                    have hs1 : ((i + 1 : Nat) : Int) - 1 = (i : Int) := by omega
                    clear hat hnx2 hy
                    by_cases hle : (q : Int) ≤ y
                    · have HN : Hid (¬ GoodF F t) := HPJ.out hp (by omega)
                      go_wp2_with fail
                      go_fit (l1In_any (q : Int) 0 ((k : Int) - 1) wr)
                      rw [hd]
                      rintro e v4 ⟨rfl, hb4⟩
                      have x43 : v4.cell? ⟨x0.heap.size, 3, none⟩ = some (.slice (some ⟨b', off', none⟩) m kc) := (hb4.cell (by show x0.heap.size < _; omega)).trans x33
                      have e4 : v4.cell? ⟨b', off' + i, none⟩ = some (.int .i64 y) := (hb4.cell (by show b' < _; omega)).trans e0
                      have HB4 : Hid (Below w.heap.size w v4) := HNX2.out.trans (hb4.mono HNX2.out.size)
                      clear hb4
                      go_wp2
                      go_ret
                      exact BoolIs.no HN.out HB4.out
                    · have HRK : Hid (∀ i_1, i_1 < i + 1 + 1 → (0 ≤ K i_1 ∧ K i_1 < k) ∧ (0 < i_1 → K (i_1 - 1) < K i_1)) := HRJ'.out (fun _ => by omega)
                      go_wp2_with fail
                      go_fit (l1In_any (q : Int) 0 ((k : Int) - 1) wr)
                      rw [hd]
                      rintro e v4 ⟨rfl, hb4⟩
                      have x43 : v4.cell? ⟨x0.heap.size, 3, none⟩ = some (.slice (some ⟨b', off', none⟩) m kc) := (hb4.cell (by show x0.heap.size < _; omega)).trans x33
                      have f4 : v4.cell? ⟨w.heap.size, 0, none⟩ = some (.slice (some ⟨b, off, none⟩) t c) := (hb4.cell (by show w.heap.size < _; omega)).trans f3
                      have e4 : v4.cell? ⟨b', off' + i, none⟩ = some (.int .i64 y) := (hb4.cell (by show b' < _; omega)).trans e0
                      have HB4 : Hid (Below w.heap.size w v4) := HNX2.out.trans (hb4.mono HNX2.out.size)
                      have z4 := hb4.size
                      have HI4 : Hid (IntsAt v4 w1.heap.size t (C (i + 1))) := HI.out.below hb4 (by omega)
                      clear hb4 HI
                      have c0 := (HI4.out q hqt).1
                      have c1 := (HI4.out q hqt).2
                      have HIS : Hid (IntsAt (v4.setCell ⟨w1.heap.size, q, none⟩ (.int .i64 (C (i + 1) q + 1))) w1.heap.size t (C (i + 1 + 1))) := by
                        rw [← HCQ.out]
                        exact HI4.out.set hqt (C (i + 1) q + 1)
                      have HBS : Hid (Below w.heap.size w (v4.setCell ⟨w1.heap.size, q, none⟩ (.int .i64 (C (i + 1) q + 1)))) := HB4.out.setCell (p := ⟨w1.heap.size, _, none⟩) (by show w.heap.size ≤ w1.heap.size; omega) _
                      have q0 : (0 : Int) ≤ (q : Int) := by omega
                      have q1 : (q : Int) < (t : Int) := by omega
                      obtain ⟨x, hx⟩ : ∃ x, x = C (i + 1) q := ⟨_, rfl⟩
                      rw [← hx] at c0 cb0 cb1 HIS HBS
                      clear hx HCQ
                      go_wp2
                      go_roundw
                      case rel => exact ⟨i + 1 + 1, by omega, by go_num, by simp [World.setCell]; omega, (World.cell?_setCell_other _ _ _ _ (by intro e; injection e with e1 _ _; omega)).trans f4, (World.cell?_setCell_other _ _ _ _ (by intro e; injection e with e1 _ _; omega)).trans x43, HBS.out, HIS, HRK⟩
                      case measure => simp [intOf]; omega
                  · have hp' : ¬ ((0 : Int) < (j : Int)) := by omega
                    have HRK : Hid (∀ i_1, i_1 < j + 1 → (0 ≤ K i_1 ∧ K i_1 < k) ∧ (0 < i_1 → K (i_1 - 1) < K i_1)) := HRJ'.out (fun h => absurd h hp)
                    clear hp hat hnx2
                    go_wp2_with fail
                    go_fit (l1In_any (q : Int) 0 ((k : Int) - 1) wr)
                    rw [hd]
                    rintro e v4 ⟨rfl, hb4⟩
                    have x43 : v4.cell? ⟨x0.heap.size, 3, none⟩ = some (.slice (some ⟨b', off', none⟩) m kc) := (hb4.cell (by show x0.heap.size < _; omega)).trans x33
                    have f4 : v4.cell? ⟨w.heap.size, 0, none⟩ = some (.slice (some ⟨b, off, none⟩) t c) := (hb4.cell (by show w.heap.size < _; omega)).trans f3
                    have HB4 : Hid (Below w.heap.size w v4) := HNX2.out.trans (hb4.mono HNX2.out.size)
                    have z4 := hb4.size
                    have HI4 : Hid (IntsAt v4 w1.heap.size t (C j)) := HI.out.below hb4 (by omega)
                    clear hb4 HI
                    have c0 := (HI4.out q hqt).1
                    have c1 := (HI4.out q hqt).2
                    have HIS : Hid (IntsAt (v4.setCell ⟨w1.heap.size, q, none⟩ (.int .i64 (C (j) q + 1))) w1.heap.size t (C (j + 1))) := by
                      rw [← HCQ.out]
                      exact HI4.out.set hqt (C (j) q + 1)
                    have HBS : Hid (Below w.heap.size w (v4.setCell ⟨w1.heap.size, q, none⟩ (.int .i64 (C (j) q + 1)))) := HB4.out.setCell (p := ⟨w1.heap.size, _, none⟩) (by show w.heap.size ≤ w1.heap.size; omega) _
                    have q0 : (0 : Int) ≤ (q : Int) := by omega
                    have q1 : (q : Int) < (t : Int) := by omega
                    obtain ⟨x, hx⟩ : ∃ x, x = C (j) q := ⟨_, rfl⟩
                    rw [← hx] at c0 cb0 cb1 HIS HBS
                    clear hx HCQ
                    go_wp2
                    go_roundw
                    case rel => exact ⟨j + 1, by omega, by go_num, by simp [World.setCell]; omega, (World.cell?_setCell_other _ _ _ _ (by intro e; injection e with e1 _ _; omega)).trans f4, (World.cell?_setCell_other _ _ _ _ (by intro e; injection e with e1 _ _; omega)).trans x43, HBS.out, HIS, HRK⟩
                    case measure => simp [intOf]; omega
                · have HN : Hid (¬ GoodF F t) := HRN.out j hjm (fun h => hr ⟨h.1.1, by have := h.1.2; omega⟩)
                  have hd : (decide (0 ≤ K j) && decide (K j ≤ (k : Int) - 1)) = false := by simp; omega
                  obtain ⟨y, hy⟩ : ∃ y, y = K j := ⟨_, rfl⟩
                  rw [← hy] at d0 hd
                  clear hat hnx2 hy hr
                  go_wp2_with fail
                  go_fit (l1In_any y 0 ((k : Int) - 1) wr)
                  rw [hd]
                  rintro e v4 ⟨rfl, hb4⟩
                  have HB4 : Hid (Below w.heap.size w v4) := HNX2.out.trans (hb4.mono HNX2.out.size)
                  clear hb4
                  go_wp2
                  go_ret
                  exact BoolIs.no HN.out HB4.out
              · obtain rfl : j = m := by omega
                have HY' : Hid (∀ j, j < k + 1 → FieldsOK (F j) ∧ RisA (F j).K (F j).m j) := HNEXT.out HF.out HRJ.out
                have HI' : Hid (IntsAt wr w1.heap.size t (fun z : Nat => tcnt F (k + 1) z)) := by have h := HI.out; rw [HCW.out] at h; exact h
                go_wp2
                go_roundw
                case rel => exact ⟨k + 1, by omega, by go_num, by omega, hnx2, by omega, f3, HI', HY'⟩
                case measure => simp [intOf]; omega
        · have HN : Hid (¬ GoodF F t) := HBAD.out fun h => p0 (HIF.out.1 h).1
          have pe : ¬ p.toList = [] := fun h => p0 ((empty_iff p).1 h)
          clear p0
          go_wp2
          go_ret
          exact BoolIs.no HN.out (HNX.out.trans (HR2.out.mono HNX.out.size))
      · subst hkd
        have HIF : Hid (FieldsOK ⟨8, p, n, N, m, K⟩ ↔ _) := fields_not p n N m K
        go_wp2_with fail
        refine (l1In_any 8 1 8 _).mono ?_
        rintro e v1 ⟨rfl, hb1⟩
        have f1 : v1.cell? ⟨w.heap.size, 0, none⟩ = some (.slice (some ⟨b, off, none⟩) t c) := by rw [hb1.cell (by simp; omega)]; simp [World.cell?_alloc_past, hz, hf]
        have x10 : v1.cell? ⟨x0.heap.size, 0, none⟩ = some (.int .i64 8) := by rw [hb1.cell (by simp)]; simp [World.cell?_alloc_new]
        have x11 : v1.cell? ⟨x0.heap.size, 1, none⟩ = some (.string p) := by rw [hb1.cell (by simp)]; simp [World.cell?_alloc_new]
        have x12 : v1.cell? ⟨x0.heap.size, 2, none⟩ = some (.slice va n vc) := by rw [hb1.cell (by simp)]; simp [World.cell?_alloc_new]
        have x13 : v1.cell? ⟨x0.heap.size, 3, none⟩ = some (.slice ka m kc) := by rw [hb1.cell (by simp)]; simp [World.cell?_alloc_new]
        have z1' := hb1.size
        simp at z1'
        have HR1 : Hid (Below x0.heap.size x0 v1) := (HWA _).trans (hb1.mono (by simp))
        clear hb1 HWA
        go_wp2_with fail
        refine (l5Leaf_any 8 _).mono ?_
        rintro e v2 ⟨rfl, hb2⟩
        have f2 : v2.cell? ⟨w.heap.size, 0, none⟩ = some (.slice (some ⟨b, off, none⟩) t c) := (hb2.cell (by show w.heap.size < _; omega)).trans f1
        have x20 : v2.cell? ⟨x0.heap.size, 0, none⟩ = some (.int .i64 8) := (hb2.cell (by show x0.heap.size < _; omega)).trans x10
        have x21 : v2.cell? ⟨x0.heap.size, 1, none⟩ = some (.string p) := (hb2.cell (by show x0.heap.size < _; omega)).trans x11
        have x22 : v2.cell? ⟨x0.heap.size, 2, none⟩ = some (.slice va n vc) := (hb2.cell (by show x0.heap.size < _; omega)).trans x12
        have x23 : v2.cell? ⟨x0.heap.size, 3, none⟩ = some (.slice ka m kc) := (hb2.cell (by show x0.heap.size < _; omega)).trans x13
        have z2 := hb2.size
        have HR2 : Hid (Below x0.heap.size x0 v2) := HR1.out.trans (hb2.mono HR1.out.size)
        clear hb2 f1 x10 x11 x12 x13 HR1
        by_cases p0 : p.size = 0
        · have pe : p.toList = [] := (empty_iff p).2 p0
          have HP0 : Hid (p.size = 0) := p0
          clear p0
          go_wp2_with fail
          refine (l5Zero_any va vc n _ HSN.out.1).mono ?_
          rintro e v3 ⟨q, rfl, hq, hb3⟩
          have f3 : v3.cell? ⟨w.heap.size, 0, none⟩ = some (.slice (some ⟨b, off, none⟩) t c) := (hb3.cell (by show w.heap.size < _; omega)).trans f2
          have x30 : v3.cell? ⟨x0.heap.size, 0, none⟩ = some (.int .i64 8) := (hb3.cell (by show x0.heap.size < _; omega)).trans x20
          have x31 : v3.cell? ⟨x0.heap.size, 1, none⟩ = some (.string p) := (hb3.cell (by show x0.heap.size < _; omega)).trans x21
          have x32 : v3.cell? ⟨x0.heap.size, 2, none⟩ = some (.slice va n vc) := (hb3.cell (by show x0.heap.size < _; omega)).trans x22
          have x33 : v3.cell? ⟨x0.heap.size, 3, none⟩ = some (.slice ka m kc) := (hb3.cell (by show x0.heap.size < _; omega)).trans x23
          have z3 := hb3.size
          have HR3 : Hid (Below x0.heap.size x0 v3) := HR2.out.trans (hb3.mono HR2.out.size)
          clear hb3 f2 x20 x21 x22 x23 HR2
          cases q with
          | false =>
            have HN : Hid (¬ GoodF F t) := HBAD.out fun h => by simpa using hq.2 (HIF.out.1 h).2.1
            clear hq
            go_wp2
            go_ret
            exact BoolIs.no HN.out (HNX.out.trans (HR3.out.mono HNX.out.size))
          | true =>
            have HN0 : Hid (n = 0) := hq.1 rfl
            clear hq
            by_cases m1 : m = 1
            · have HF : Hid (FieldsOK ⟨8, p, n, N, m, K⟩) := HIF.out.2 ⟨HP0.out, HN0.out, m1⟩
              subst m1
              have HB3 : Hid (Below w.heap.size w v3) := HNX.out.trans (HR3.out.mono HNX.out.size)
              have HI3 : Hid (IntsAt v3 w1.heap.size t (C 0)) := HI0.out.below HR3.out hz1
              clear HR3 HI0 HI HNX a0 a1 a2 a3 hf
              go_wp2_with fail
              clear x30 x31 x32
              go_loopw [107] (fun i wr2 => ∃ j : Nat, j ≤ 1 ∧ i = .int .i64 (j : Int) ∧ x0.heap.size < wr2.heap.size ∧ wr2.cell? ⟨w.heap.size, 0, none⟩ = some (.slice (some ⟨b, off, none⟩) t c) ∧ wr2.cell? ⟨x0.heap.size, 3, none⟩ = some (.slice ka 1 kc) ∧ Below w.heap.size w wr2 ∧ Hid (IntsAt wr2 w1.heap.size t (C j)) ∧ Hid (∀ i, i < j → (0 ≤ K i ∧ K i < k) ∧ (0 < i → K (i - 1) < K i))) (fun i _ => 1 - (intOf i).toNat)
              case atStart => exact ⟨0, Nat.zero_le _, rfl, by omega, f3, x33, HB3.out, HI3, fun i hi => by omega⟩
              case round =>
                clear f3 x33 HB3 HI3
                obtain ⟨j, hj, rfl, hz2, f3, x33, hnx2, HI, HRJ⟩ := hrel
                by_cases hjm : j < 1
                · rcases HV.out.2 with h0 | ⟨b', off', rfl, hb', hat⟩
                  · omega
                  have d0 := (hnx2.cell hb').trans (hat j hjm)
                  have j0 : (0 : Int) ≤ (j : Int) := by omega
                  have j1 : (j : Int) < (1 : Int) := by omega
                  have HNX2 : Hid (Below w.heap.size w wr) := hnx2
                  have HRN : Hid (∀ i, i < 1 → ¬ ((0 ≤ K i ∧ K i < k) ∧ (0 < i → K (i - 1) < K i)) → ¬ GoodF F t) := fun i hi h => HRIS.out fun r => h (r i hi)
                  by_cases hr : 0 ≤ K j ∧ K j ≤ (k : Int) - 1
                  · obtain ⟨q, hq⟩ : ∃ q : Nat, K j = (q : Int) := ⟨(K j).toNat, by omega⟩
                    have hqt : q < t := by omega
                    have hqk : (q : Int) < k := by omega
                    have hd : (decide (0 ≤ (q : Int)) && decide ((q : Int) ≤ (k : Int) - 1)) = true := by simp; omega
                    obtain ⟨cb0, cb1⟩ := HCB.out j q hj
                    have HCQ : Hid ((fun z => if z = q then C j q + 1 else C j z) = C (j + 1)) := HCS.out j q hq
                    have HPJ : Hid (0 < j → ¬ K (j - 1) < (q : Int) → ¬ GoodF F t) := fun h0 h1 => HRN.out j hjm (fun h => h1 (by have := h.2 h0; omega))
                    have HRJ' : Hid ((0 < j → K (j - 1) < (q : Int)) → ∀ i, i < j + 1 → (0 ≤ K i ∧ K i < k) ∧ (0 < i → K (i - 1) < K i)) := fun h i hi => by
                      by_cases e : i = j
                      · subst e; exact ⟨⟨by omega, by omega⟩, fun h0 => by have := h h0; omega⟩
                      · exact HRJ.out i (by omega)
                    rw [hq] at d0
                    clear hq hr
                    by_cases hp : 0 < j
                    · omega
                    · have hp' : ¬ ((0 : Int) < (j : Int)) := by omega
                      have HRK : Hid (∀ i_1, i_1 < j + 1 → (0 ≤ K i_1 ∧ K i_1 < k) ∧ (0 < i_1 → K (i_1 - 1) < K i_1)) := HRJ'.out (fun h => absurd h hp)
                      clear hp hat hnx2
                      go_wp2_with fail
                      go_fit (l1In_any (q : Int) 0 ((k : Int) - 1) wr)
                      rw [hd]
                      rintro e v4 ⟨rfl, hb4⟩
                      have x43 : v4.cell? ⟨x0.heap.size, 3, none⟩ = some (.slice (some ⟨b', off', none⟩) 1 kc) := (hb4.cell (by show x0.heap.size < _; omega)).trans x33
                      have f4 : v4.cell? ⟨w.heap.size, 0, none⟩ = some (.slice (some ⟨b, off, none⟩) t c) := (hb4.cell (by show w.heap.size < _; omega)).trans f3
                      have HB4 : Hid (Below w.heap.size w v4) := HNX2.out.trans (hb4.mono HNX2.out.size)
                      have z4 := hb4.size
                      have HI4 : Hid (IntsAt v4 w1.heap.size t (C j)) := HI.out.below hb4 (by omega)
                      clear hb4 HI
                      have c0 := (HI4.out q hqt).1
                      have c1 := (HI4.out q hqt).2
                      have HIS : Hid (IntsAt (v4.setCell ⟨w1.heap.size, q, none⟩ (.int .i64 (C (j) q + 1))) w1.heap.size t (C (j + 1))) := by
                        rw [← HCQ.out]
                        exact HI4.out.set hqt (C (j) q + 1)
                      have HBS : Hid (Below w.heap.size w (v4.setCell ⟨w1.heap.size, q, none⟩ (.int .i64 (C (j) q + 1)))) := HB4.out.setCell (p := ⟨w1.heap.size, _, none⟩) (by show w.heap.size ≤ w1.heap.size; omega) _
                      have q0 : (0 : Int) ≤ (q : Int) := by omega
                      have q1 : (q : Int) < (t : Int) := by omega
                      obtain ⟨x, hx⟩ : ∃ x, x = C (j) q := ⟨_, rfl⟩
                      rw [← hx] at c0 cb0 cb1 HIS HBS
                      clear hx HCQ
                      go_wp2
                      go_roundw
                      case rel => exact ⟨j + 1, by omega, by go_num, by simp [World.setCell]; omega, (World.cell?_setCell_other _ _ _ _ (by intro e; injection e with e1 _ _; omega)).trans f4, (World.cell?_setCell_other _ _ _ _ (by intro e; injection e with e1 _ _; omega)).trans x43, HBS.out, HIS, HRK⟩
                      case measure => simp [intOf]; omega
                  · have HN : Hid (¬ GoodF F t) := HRN.out j hjm (fun h => hr ⟨h.1.1, by have := h.1.2; omega⟩)
                    have hd : (decide (0 ≤ K j) && decide (K j ≤ (k : Int) - 1)) = false := by simp; omega
                    obtain ⟨y, hy⟩ : ∃ y, y = K j := ⟨_, rfl⟩
                    rw [← hy] at d0 hd
                    clear hat hnx2 hy hr
                    go_wp2_with fail
                    go_fit (l1In_any y 0 ((k : Int) - 1) wr)
                    rw [hd]
                    rintro e v4 ⟨rfl, hb4⟩
                    have HB4 : Hid (Below w.heap.size w v4) := HNX2.out.trans (hb4.mono HNX2.out.size)
                    clear hb4
                    go_wp2
                    go_ret
                    exact BoolIs.no HN.out HB4.out
                · obtain rfl : j = 1 := by omega
                  have HY' : Hid (∀ j, j < k + 1 → FieldsOK (F j) ∧ RisA (F j).K (F j).m j) := HNEXT.out HF.out HRJ.out
                  have HI' : Hid (IntsAt wr w1.heap.size t (fun z : Nat => tcnt F (k + 1) z)) := by have h := HI.out; rw [HCW.out] at h; exact h
                  go_wp2
                  go_roundw
                  case rel => exact ⟨k + 1, by omega, by go_num, by omega, hnx2, by omega, f3, HI', HY'⟩
                  case measure => simp [intOf]; omega
            · have HN : Hid (¬ GoodF F t) := HBAD.out fun h => m1 (HIF.out.1 h).2.2
              have m2 : ((m : Int) == 1) = false := by simp; omega
              have m3 : ((m : Int) != 1) = true := by simp; omega
              have m4 : ¬ ((m : Int) = 1) := by omega
              go_wp2
              go_ret
              exact BoolIs.no HN.out (HNX.out.trans (HR3.out.mono HNX.out.size))
        · have HN : Hid (¬ GoodF F t) := HBAD.out fun h => p0 (HIF.out.1 h).1
          have pe : ¬ p.toList = [] := fun h => p0 ((empty_iff p).1 h)
          clear p0
          go_wp2
          go_ret
          exact BoolIs.no HN.out (HNX.out.trans (HR2.out.mono HNX.out.size))
    · obtain rfl : k = t := by omega
      have HNX : Hid (Below w.heap.size w x0) := hnx
      clear hnx
      go_wp2_with fail
      go_loopw [144] (fun i wr2 => ∃ j : Nat, j ≤ k - 1 ∧ i = .int .i64 (j : Int) ∧ wr2 = x0 ∧ Hid (∀ z : Nat, z < j → tcnt F k z = 1)) (fun i _ => k - (intOf i).toNat)
      case atStart => exact ⟨0, Nat.zero_le _, rfl, rfl, fun z hz => by omega⟩
      case round =>
        obtain ⟨j, hj, rfl, rfl, HE⟩ := hrel
        by_cases hjm : j < k - 1
        · have e0 := (HI.out j (by omega)).1
          dsimp only at e0
          have j0 : (0 : Int) ≤ (j : Int) := by omega
          have j1 : (j : Int) < ((k - 1 : Nat) : Int) := by omega
          have HE' : Hid (tcnt F k j = 1 → ∀ z : Nat, z < j + 1 → tcnt F k z = 1) := fun h z hz => by
            by_cases e : z = j
            · subst e; exact h
            · exact HE.out z (by omega)
          by_cases h1 : tcnt F k j = 1
          · have HY := HE'.out h1
            rw [h1] at e0
            have HY' : Hid (∀ z : Nat, z < j + 1 → tcnt F k z = 1) := HY
            clear HY h1
            go_wp2
            go_roundw
            case rel => exact ⟨j + 1, by omega, by go_num, by first | trivial | rfl, HY'⟩
            case measure => simp [intOf]; omega
          · have HN : Hid (¬ GoodF F k) := fun h => h1 (h.2.2 j hjm)
            obtain ⟨x, hx⟩ : ∃ x, x = tcnt F k j := ⟨_, rfl⟩
            rw [← hx] at e0 h1
            clear hx
            go_wp2
            go_ret
            exact BoolIs.no HN.out HNX.out
        · obtain rfl : j = k - 1 := by omega
          have HY : Hid (GoodF F k) := ⟨⟨by omega, by omega⟩, HJ.out, HE.out⟩
          go_wp2
          go_ret
          exact BoolIs.yes HY.out HNX.out

end Go.Proofs.YtjohocnfcnjciaaGreatDoor
namespace Go.Proofs.YtjohocnfcnjciaaGreatDoor
open Go.RowKit
set_option linter.unusedVariables false

theorem l5Match_every (w0 : World) (a : Option Addr) (c t : Nat) (F : Nat → Tm) (N : Nat → Nd) (n : Nat) (hg : GoodV N n) (hF : FArg w0 a t F) (hGF : GoodF F t) (hS : SmallF t F) : ∀ k, k < t → MsSaid w0 a c t F (tree N n 0) k := by
  have ht : t ≤ 2 ^ 20 := by have := hGF.1; omega
  have hA := good_ahead hGF hS
  intro k
  induction k using Nat.strongRecOn with
  | ind k ih =>
    intro hk
    have ih' : ∀ p, p < k → MsSaid w0 a c t F (tree N n 0) p := fun p hp => ih p hp (by omega)
    by_cases h8 : (F k).kind = 8
    · exact l5Match_not w0 a c t F _ hF hA ht k hk h8 ih'
    · by_cases h6 : (F k).kind = 6
      · exact l5Match_all w0 a c t F _ hF hA ht k hk h6 ih'
      · by_cases h7 : (F k).kind = 7
        · exact l5Match_any w0 a c t F _ hF hA ht k hk h7 ih'
        · exact l5Match_leaf w0 a c t F N n hg hF ht k hk (leaf_of hGF hk h6 h7 h8) (hS.2 k hk).1

/-- WHAT MatchFilter ANSWERS. -/
def MfTold (F : Nat → Tm) (t : Nat) (N : Nat → Nd) (n : Nat) (x q : Bool) : Prop := (q = true ∧ (GoodF F t ∧ GoodV N n) ∧ x = (clF F t (t - 1)).hits (tree N n 0)) ∨ (q = false ∧ ¬ (GoodF F t ∧ GoodV N n) ∧ x = false)
theorem MfTold.same {F : Nat → Tm} {t : Nat} {N : Nat → Nd} {n : Nat} {x q x' q' : Bool} (h : MfTold F t N n x q) (k : MfTold F t N n x' q') : x = x' ∧ q = q' := by
  rcases h with ⟨rfl, h1, rfl⟩ | ⟨rfl, h1, rfl⟩ <;> rcases k with ⟨rfl, h2, rfl⟩ | ⟨rfl, h2, rfl⟩
  · exact ⟨rfl, rfl⟩
  · exact absurd h1 h2
  · exact absurd h2 h1
  · exact ⟨rfl, rfl⟩
def MfIs (F : Nat → Tm) (t : Nat) (N : Nat → Nd) (n : Nat) (w : World) (e : Ending) (w' : World) : Prop := ∃ x q, e = .returned (.tuple #[.bool x, .bool q]) ∧ MfTold F t N n x q ∧ Below w.heap.size w w'

set_option maxRecDepth 100000 in
set_option maxHeartbeats 2000000 in
theorem l5Fits_any (w0 : World) (a : Option Addr) (c t : Nat) (F : Nat → Tm) (N : Nat → Nd) (n : Nat) (hg : GoodV N n) (hF : FArg w0 a t F) (hGF : GoodF F t) (hS : SmallF t F) (w : World) (v : Value) (hw : Below w0.heap.size w0 w) (hv : Tree w (tree N n 0) v) :
    Calls Tryz.prog 31 #[.agg #[.slice a t c], v] w fun e w' => e = .returned (.bool ((clF F t (t - 1)).hits (tree N n 0))) ∧ Below w.heap.size w w' := by
  have t20 := hGF.1
  obtain ⟨an, cn, ak, ck, rfl⟩ := hv.head
  obtain ⟨kk, hkk⟩ : ∃ kk, kk = (tree N n 0).kind := ⟨_, rfl⟩
  obtain ⟨nn, hnn⟩ : ∃ nn, nn = (tree N n 0).num := ⟨_, rfl⟩
  obtain ⟨tx, htx⟩ : ∃ tx, tx = (tree N n 0).text := ⟨_, rfl⟩
  obtain ⟨ln, hln⟩ : ∃ ln, ln = (tree N n 0).names.length := ⟨_, rfl⟩
  obtain ⟨lk, hlk⟩ : ∃ lk, lk = (tree N n 0).kids.length := ⟨_, rfl⟩
  rw [← hkk, ← hnn, ← htx, ← hln, ← hlk] at hv ⊢
  obtain ⟨q, hq⟩ : ∃ q, q = (clF F t (t - 1)).hits (tree N n 0) := ⟨_, rfl⟩
  have HC : Hid (∀ W, Below w.heap.size w W → Calls Tryz.prog 55 #[.agg #[.slice a t c], .int .i64 ((t : Int) - 1), .agg #[.int .i64 kk, .int .i64 nn, .string tx, .slice an ln cn, .slice ak lk ck]] W fun e w' => e = .returned (.bool q) ∧ Below W.heap.size W w') := fun W hW => by
    have h := l5Match_every w0 a c t F N n hg hF hGF hS (t - 1) (by omega) q W _ (by rw [hq, show t - 1 + 1 = t by omega]) (hw.trans (hW.mono hw.size)) (hv.below hW)
    rw [show (((t - 1 : Nat)) : Int) = (t : Int) - 1 by omega] at h
    exact h
  rw [← hq]
  have hal : ∀ o o', Below w.heap.size w ((w.alloc o).alloc o') := fun o o' => ((Below.refl _ _).alloc (Nat.le_refl _) o).alloc (by simp) o'
  clear hg hF hGF hS hw hv hkk hnn htx hln hlk hq
  go_enter Tryz.func31, Tryz.ntmps31
  go_wp2_with fail
  refine (HC.out _ (hal _ _)).mono ?_
  rintro e w1 ⟨rfl, hb⟩
  have HB : Hid (Below w.heap.size w w1) := (hal _ _).trans (hb.mono (by simp; omega))
  clear hb hal
  go_wp2
  go_ret
  exact ⟨rfl, HB.out⟩

set_option maxRecDepth 100000 in
set_option maxHeartbeats 4000000 in
theorem specMatch_any (a : Option Addr) (c t : Nat) (F : Nat → Tm) (va : Option Addr) (vc n : Nat) (N : Nat → Nd) (w : World) (hF : FArg w a t F) (hs : SmallF t F) (hv : ArgIs w va n N) (hsm : SmallN n N) :
    Calls Tryz.prog 8 #[.agg #[.slice a t c], .agg #[.slice va n vc]] w (MfIs F t N n w) := by
  have H : Hid (FArg w a t F) := hF
  have HS : Hid (SmallF t F) := hs
  have HV : Hid (ArgIs w va n N) := hv
  have HSM : Hid (SmallN n N) := hsm
  have t20 := hs.1
  clear hF hs hv hsm
  go_enter Tryz.func8, Tryz.ntmps8
  go_wp2_with fail
  obtain ⟨W, hW⟩ : ∃ W, W = (w.alloc (.cells #[.slice a t c] 34)).alloc (.cells #[.slice va n vc] 38) := ⟨_, rfl⟩
  have bW : Below w.heap.size w W := by rw [hW]; exact ((Below.refl _ _).alloc (Nat.le_refl _) _).alloc (by simp) _
  have zW : w.heap.size + 1 < W.heap.size := by rw [hW]; simp
  have zW' : w.heap.size < W.heap.size := by omega
  have f0 : W.cell? ⟨w.heap.size, 0, none⟩ = some (.slice a t c) := by rw [hW]; simp [go_sem]
  have g0 : W.cell? ⟨w.heap.size + 1, 0, none⟩ = some (.slice va n vc) := by rw [hW]; simp [go_sem]
  have HBW : Hid (Below w.heap.size w W) := bW
  rw [← hW]
  clear hW
  refine (specGoodF_any a c t F W (H.out.below bW) HS.out).mono ?_
  rintro e w1 ⟨q, rfl, hq, hb1⟩
  have z1 := hb1.size
  replace f0 := (hb1.cell zW').trans f0
  replace g0 := (hb1.cell zW).trans g0
  have HB1 : Hid (Below w.heap.size w w1) := HBW.out.trans (hb1.mono HBW.out.size)
  clear hb1 bW
  cases q with
  | false =>
    have HN : Hid (¬ (GoodF F t ∧ GoodV N n)) := fun h => by simpa using hq.2 h.1
    clear hq
    go_wp2
    exact bodyPost_ret (v := .tuple #[.bool false, .bool false]) (by simp [results, Tryz.results8, go_sem]) rfl ⟨false, false, rfl, .inr ⟨rfl, HN.out, rfl⟩, HB1.out⟩
  | true =>
    have HGF : Hid (GoodF F t) := hq.1 rfl
    clear hq
    go_wp2_with fail
    refine (specGood_arg va vc n N w1 (HV.out.below HB1.out) HSM.out).mono ?_
    rintro e w2 ⟨q, rfl, hq, hb2⟩
    have z2 := hb2.size
    have l1 : w.heap.size + 1 < w1.heap.size := by omega
    have l0 : w.heap.size < w1.heap.size := by omega
    replace f0 := (hb2.cell l0).trans f0
    replace g0 := (hb2.cell l1).trans g0
    have HB2 : Hid (Below w.heap.size w w2) := HB1.out.trans (hb2.mono HB1.out.size)
    clear hb2
    cases q with
    | false =>
      have HN : Hid (¬ (GoodF F t ∧ GoodV N n)) := fun h => by simpa using hq.2 h.2
      clear hq
      go_wp2
      exact bodyPost_ret (v := .tuple #[.bool false, .bool false]) (by simp [results, Tryz.results8, go_sem]) rfl ⟨false, false, rfl, .inr ⟨rfl, HN.out, rfl⟩, HB2.out⟩
    | true =>
      have hgv := hq.1 rfl
      have HGV : Hid (GoodV N n) := hgv
      have n0 : 0 < n := hgv.1.1
      have n80 : n ≤ 80 := hgv.1.2.1
      clear hq hgv
      have m1 : w.heap.size + 1 < w2.heap.size := by omega
      have m0 : w.heap.size < w2.heap.size := by omega
      obtain ⟨q, hq⟩ : ∃ q, q = (clF F t (t - 1)).hits (tree N n 0) := ⟨_, rfl⟩
      have HQ : Hid (q = (clF F t (t - 1)).hits (tree N n 0)) := hq
      have HL : Hid (∀ (W : World) (v : Value), Below w.heap.size w W → Tree W (tree N n 0) v → Calls Tryz.prog 31 #[.agg #[.slice a t c], v] W fun e w' => e = .returned (.bool q) ∧ Below W.heap.size W w') := fun W v hW hv => by rw [hq]; exact l5Fits_any w a c t F N n HGV.out H.out HGF.out HS.out W v hW hv
      clear hq
      go_wp2_with fail
      have K2 : w2.cell? ⟨w.heap.size, 0, none⟩ = some (.slice a t c) ∧ w2.cell? ⟨w.heap.size + 1, 0, none⟩ = some (.slice va n vc) := ⟨f0, g0⟩
      go_region_held3 (fun w' => w'.cell? ⟨w.heap.size, 0, none⟩ = some (.slice a t c) ∧ w'.cell? ⟨w.heap.size + 1, 0, none⟩ = some (.slice va n vc)) (first | exact K2 | exact K3 | exact K4 | go_keep | fail) (first | (go_at_call 32; refine (l1Tree_any N n n80 n 0 (by omega) n0 va vc w2.drew (HV.out.below HB2.out.drew)).mono ?_; rintro e w3 ⟨ya, yc, ym, yka, ykc, ykm, rfl, hyt, hb3⟩; have hb23 : Below w2.heap.size w2 w3 := ((Below.refl _ w2).drew).trans hb3; have z3 := hb23.size; have K3 : w3.cell? ⟨w.heap.size, 0, none⟩ = some (.slice a t c) ∧ w3.cell? ⟨w.heap.size + 1, 0, none⟩ = some (.slice va n vc) := ⟨(hb23.cell m0).trans f0, (hb23.cell m1).trans g0⟩) | (go_at_call 31; refine (HL.out w3 _ (HB2.out.trans (hb23.mono HB2.out.size)) hyt.any).mono ?_; rintro e w4 ⟨rfl, hb4⟩; have K4 : w4.cell? ⟨w.heap.size, 0, none⟩ = some (.slice a t c) ∧ w4.cell? ⟨w.heap.size + 1, 0, none⟩ = some (.slice va n vc) := ⟨(hb4.cell (Nat.lt_of_lt_of_le m0 z3)).trans K3.1, (hb4.cell (Nat.lt_of_lt_of_le m1 z3)).trans K3.2⟩))
      all_goals
        have HB4 : Hid (Below w.heap.size w w4) := (HB2.out.trans (hb23.mono HB2.out.size)).trans (hb4.mono (Nat.le_trans HB2.out.size z3))
        clear hb4 hb23 hb3 K2 K3 K4 f0 g0 hyt
        go_wp2
        exact bodyPost_ret (v := .tuple #[.bool q, .bool true]) (by simp [results, Tryz.results8, go_sem]) rfl ⟨q, true, rfl, .inl ⟨rfl, ⟨HGF.out, HGV.out⟩, HQ.out⟩, HB4.out⟩

set_option maxRecDepth 100000 in
set_option maxHeartbeats 4000000 in
theorem implMatch_any (a : Option Addr) (c t : Nat) (F : Nat → Tm) (va : Option Addr) (vc n vb : Nat) (N : Nat → Nd) (w : World) (hF : FArg w a t F) (hCF : CapF w a t) (hs : SmallF t F) (hv : OwnAt w vb (.slice va n vc) n N) (hcap : n ≤ vc) (hsm : SmallN n N) (htab : Tab w.heap.size w) (hml : ML w) :
    Calls Tryz.prog 11 #[.agg #[.slice a t c], .agg #[.slice va n vc]] w (MfIs F t N n w) := by
  have H : Hid (FArg w a t F) := hF
  have HCF : Hid (CapF w a t) := hCF
  have HS : Hid (SmallF t F) := hs
  have HV : Hid (OwnAt w vb (.slice va n vc) n N) := hv
  have HSM : Hid (SmallN n N) := hsm
  have HTB : Hid (Tab w.heap.size w) := htab
  have HML : Hid (ML w) := hml
  have t20 := hs.1
  clear hF hs hv hsm hCF htab hml
  go_enter Tryz.func11, Tryz.ntmps11
  go_wp2_with fail
  obtain ⟨W, hW⟩ : ∃ W, W = (w.alloc (.cells #[.slice a t c] 34)).alloc (.cells #[.slice va n vc] 38) := ⟨_, rfl⟩
  have bW : Below w.heap.size w W := by rw [hW]; exact ((Below.refl _ _).alloc (Nat.le_refl _) _).alloc (by simp) _
  have zW : w.heap.size + 1 < W.heap.size := by rw [hW]; simp
  have zW' : w.heap.size < W.heap.size := by omega
  have f0 : W.cell? ⟨w.heap.size, 0, none⟩ = some (.slice a t c) := by rw [hW]; simp [go_sem]
  have g0 : W.cell? ⟨w.heap.size + 1, 0, none⟩ = some (.slice va n vc) := by rw [hW]; simp [go_sem]
  have HBW : Hid (Below w.heap.size w W) := bW
  rw [← hW]
  clear hW
  refine (implGoodF_any a c t F W (H.out.below bW) HS.out (HTB.out.up bW) (HML.out.below bW)).mono ?_
  rintro e w1 ⟨q, rfl, hq, hb1⟩
  have z1 := hb1.size
  replace f0 := (hb1.cell zW').trans f0
  replace g0 := (hb1.cell zW).trans g0
  have HB1 : Hid (Below w.heap.size w w1) := HBW.out.trans (hb1.mono HBW.out.size)
  clear hb1 bW
  cases q with
  | false =>
    have HN : Hid (¬ (GoodF F t ∧ GoodV N n)) := fun h => by simpa using hq.2 h.1
    clear hq
    go_wp2
    exact bodyPost_ret (v := .tuple #[.bool false, .bool false]) (by simp [results, Tryz.results11, go_sem]) rfl ⟨false, false, rfl, .inr ⟨rfl, HN.out, rfl⟩, HB1.out⟩
  | true =>
    have HGF : Hid (GoodF F t) := hq.1 rfl
    clear hq
    go_wp2_with fail
    refine (implGood_arg va vc n N w1 (HV.out.argOf.2.below HB1.out) HSM.out (HTB.out.up HB1.out)).mono ?_
    rintro e w2 ⟨q, rfl, hq, hb2⟩
    have z2 := hb2.size
    have l1 : w.heap.size + 1 < w1.heap.size := by omega
    have l0 : w.heap.size < w1.heap.size := by omega
    replace f0 := (hb2.cell l0).trans f0
    replace g0 := (hb2.cell l1).trans g0
    have HB2 : Hid (Below w.heap.size w w2) := HB1.out.trans (hb2.mono HB1.out.size)
    clear hb2
    cases q with
    | false =>
      have HN : Hid (¬ (GoodF F t ∧ GoodV N n)) := fun h => by simpa using hq.2 h.2
      clear hq
      go_wp2
      exact bodyPost_ret (v := .tuple #[.bool false, .bool false]) (by simp [results, Tryz.results11, go_sem]) rfl ⟨false, false, rfl, .inr ⟨rfl, HN.out, rfl⟩, HB2.out⟩
    | true =>
      have HGV : Hid (GoodV N n) := hq.1 rfl
      clear hq
      have m1 : w.heap.size + 1 < w2.heap.size := by omega
      have m0 : w.heap.size < w2.heap.size := by omega
      have hpos := HGF.out.1
      obtain ⟨C, hC⟩ : ∃ C, C = clF F t (t - 1) := ⟨_, rfl⟩
      have HPC := plC_facts HGF.out
      rw [← hC] at HPC
      obtain ⟨q, hq⟩ : ∃ q, q = C.hits (tree N n 0) := ⟨_, rfl⟩
      have HQ : Hid (q = (clF F t (t - 1)).hits (tree N n 0)) := by rw [← hC]; exact hq
      have HM : Hid (∀ (W : World) (S : Nat → Prop) (T : TypeId) (y : Value), Below w.heap.size w W → ClIs w W S C (.iface T y) → Calls Tryz.prog (mfn C) #[y, .agg #[.slice va n vc]] W fun e w' => e = .returned (.bool q) ∧ Below W.heap.size W w') := fun W S T y hW hcl => match_any' w vb n va vc N ⟨HV.out, HGV.out, hcap, HTB.out, HML.out⟩ C HPC.1 (by have := HPC.2.1; omega) q W S T y hq hW hcl
      have HCO : Hid (Calls Tryz.prog 37 #[.agg #[.slice a t c]] w2.drew fun e w' => ∃ T y, e = .returned (.iface T y) ∧ ClIs w w' (fun b => w2.heap.size ≤ b) C (.iface T y) ∧ Below w2.heap.size w2 w') := by
        rw [hC]
        refine (clauseOf_any w a c t F H.out HCF.out (good_ahead HGF.out HS.out) (by omega) (by omega) w2.drew HB2.out.drew).mono ?_
        rintro e w' ⟨T, y, h1, h2, h3⟩
        exact ⟨T, y, h1, h2, ((Below.refl _ w2).drew).trans h3⟩
      have K2 : w2.cell? ⟨w.heap.size, 0, none⟩ = some (.slice a t c) ∧ w2.cell? ⟨w.heap.size + 1, 0, none⟩ = some (.slice va n vc) := ⟨f0, g0⟩
      clear hC hq HPC
      cases C with
      | leaf x =>
        have HCO' : Hid (Calls Tryz.prog 37 #[.agg #[.slice a t c]] w2.drew fun e w' => ∃ cc : Tc, e = .returned (.iface 112 (.agg #[.int .i64 cc.kind, .string cc.path, .slice cc.va cc.vn cc.vc, .slice cc.ka cc.km cc.kc])) ∧ ClIs w w' (fun b => w2.heap.size ≤ b) (.leaf x) (.iface 112 (.agg #[.int .i64 cc.kind, .string cc.path, .slice cc.va cc.vn cc.vc, .slice cc.ka cc.km cc.kc])) ∧ Below w2.heap.size w2 w') := by
          refine (HCO.out).mono ?_
          rintro e w' ⟨T, y, rfl, hcl, hbl⟩
          have hcl' := hcl
          rw [ClIs] at hcl'
          obtain ⟨cc, eu, _⟩ := hcl'
          injection eu with e1 e2
          subst e1 e2
          exact ⟨cc, rfl, hcl, hbl⟩
        have HM' : Hid (∀ (W : World) (S : Nat → Prop) (y : Value), Below w.heap.size w W → ClIs w W S (.leaf x) (.iface 112 y) → Calls Tryz.prog 164 #[y, .agg #[.slice va n vc]] W fun e w' => e = .returned (.bool q) ∧ Below W.heap.size W w') := fun W S y hW hcl => HM.out W S _ y hW hcl
        clear HCO HM
        go_wp2_with fail
        go_region_held3 (fun w' => w'.cell? ⟨w.heap.size, 0, none⟩ = some (.slice a t c) ∧ w'.cell? ⟨w.heap.size + 1, 0, none⟩ = some (.slice va n vc)) (first | exact K2 | exact K3 | exact K4 | go_keep | fail) (first | (go_at_call 37; refine (HCO'.out).mono ?_; rintro e w3 ⟨cc, rfl, hcl, hb3⟩; have z3 := hb3.size; have K3 : w3.cell? ⟨w.heap.size, 0, none⟩ = some (.slice a t c) ∧ w3.cell? ⟨w.heap.size + 1, 0, none⟩ = some (.slice va n vc) := ⟨(hb3.cell m0).trans f0, (hb3.cell m1).trans g0⟩) | (go_at_call 164; refine (HM'.out w3 _ _ (HB2.out.trans (hb3.mono HB2.out.size)) hcl).mono ?_; rintro e w4 ⟨rfl, hb4⟩; have K4 : w4.cell? ⟨w.heap.size, 0, none⟩ = some (.slice a t c) ∧ w4.cell? ⟨w.heap.size + 1, 0, none⟩ = some (.slice va n vc) := ⟨(hb4.cell (Nat.lt_of_lt_of_le m0 z3)).trans K3.1, (hb4.cell (Nat.lt_of_lt_of_le m1 z3)).trans K3.2⟩))
        all_goals
          have HB4 : Hid (Below w.heap.size w w4) := (HB2.out.trans (hb3.mono HB2.out.size)).trans (hb4.mono (Nat.le_trans HB2.out.size z3))
          clear hb4 hb3 K2 K3 K4 f0 g0 hcl
          go_wp2
          exact bodyPost_ret (v := .tuple #[.bool q, .bool true]) (by simp [results, Tryz.results11, go_sem]) rfl ⟨q, true, rfl, .inl ⟨rfl, ⟨HGF.out, HGV.out⟩, HQ.out⟩, HB4.out⟩
      | all l =>
        have HCO' : Hid (Calls Tryz.prog 37 #[.agg #[.slice a t c]] w2.drew fun e w' => ∃ (ka : Option Addr) (kl kc : Nat), e = .returned (.iface 116 (.agg #[.slice ka kl kc])) ∧ ClIs w w' (fun b => w2.heap.size ≤ b) (.all l) (.iface 116 (.agg #[.slice ka kl kc])) ∧ Below w2.heap.size w2 w') := by
          refine (HCO.out).mono ?_
          rintro e w' ⟨T, y, rfl, hcl, hbl⟩
          have hcl' := hcl
          rw [ClIs] at hcl'
          obtain ⟨ka, kc, eu, _⟩ := hcl'
          injection eu with e1 e2
          subst e1 e2
          exact ⟨ka, _, kc, rfl, hcl, hbl⟩
        have HM' : Hid (∀ (W : World) (S : Nat → Prop) (y : Value), Below w.heap.size w W → ClIs w W S (.all l) (.iface 116 y) → Calls Tryz.prog 190 #[y, .agg #[.slice va n vc]] W fun e w' => e = .returned (.bool q) ∧ Below W.heap.size W w') := fun W S y hW hcl => HM.out W S _ y hW hcl
        clear HCO HM
        go_wp2_with fail
        go_region_held3 (fun w' => w'.cell? ⟨w.heap.size, 0, none⟩ = some (.slice a t c) ∧ w'.cell? ⟨w.heap.size + 1, 0, none⟩ = some (.slice va n vc)) (first | exact K2 | exact K3 | exact K4 | go_keep | fail) (first | (go_at_call 37; refine (HCO'.out).mono ?_; rintro e w3 ⟨ka, kl, kc, rfl, hcl, hb3⟩; have z3 := hb3.size; have K3 : w3.cell? ⟨w.heap.size, 0, none⟩ = some (.slice a t c) ∧ w3.cell? ⟨w.heap.size + 1, 0, none⟩ = some (.slice va n vc) := ⟨(hb3.cell m0).trans f0, (hb3.cell m1).trans g0⟩) | (go_at_call 190; refine (HM'.out w3 _ _ (HB2.out.trans (hb3.mono HB2.out.size)) hcl).mono ?_; rintro e w4 ⟨rfl, hb4⟩; have K4 : w4.cell? ⟨w.heap.size, 0, none⟩ = some (.slice a t c) ∧ w4.cell? ⟨w.heap.size + 1, 0, none⟩ = some (.slice va n vc) := ⟨(hb4.cell (Nat.lt_of_lt_of_le m0 z3)).trans K3.1, (hb4.cell (Nat.lt_of_lt_of_le m1 z3)).trans K3.2⟩))
        all_goals
          have HB4 : Hid (Below w.heap.size w w4) := (HB2.out.trans (hb3.mono HB2.out.size)).trans (hb4.mono (Nat.le_trans HB2.out.size z3))
          clear hb4 hb3 K2 K3 K4 f0 g0 hcl
          go_wp2
          exact bodyPost_ret (v := .tuple #[.bool q, .bool true]) (by simp [results, Tryz.results11, go_sem]) rfl ⟨q, true, rfl, .inl ⟨rfl, ⟨HGF.out, HGV.out⟩, HQ.out⟩, HB4.out⟩
      | any l =>
        have HCO' : Hid (Calls Tryz.prog 37 #[.agg #[.slice a t c]] w2.drew fun e w' => ∃ (ka : Option Addr) (kl kc : Nat), e = .returned (.iface 118 (.agg #[.slice ka kl kc])) ∧ ClIs w w' (fun b => w2.heap.size ≤ b) (.any l) (.iface 118 (.agg #[.slice ka kl kc])) ∧ Below w2.heap.size w2 w') := by
          refine (HCO.out).mono ?_
          rintro e w' ⟨T, y, rfl, hcl, hbl⟩
          have hcl' := hcl
          rw [ClIs] at hcl'
          obtain ⟨ka, kc, eu, _⟩ := hcl'
          injection eu with e1 e2
          subst e1 e2
          exact ⟨ka, _, kc, rfl, hcl, hbl⟩
        have HM' : Hid (∀ (W : World) (S : Nat → Prop) (y : Value), Below w.heap.size w W → ClIs w W S (.any l) (.iface 118 y) → Calls Tryz.prog 191 #[y, .agg #[.slice va n vc]] W fun e w' => e = .returned (.bool q) ∧ Below W.heap.size W w') := fun W S y hW hcl => HM.out W S _ y hW hcl
        clear HCO HM
        go_wp2_with fail
        go_region_held3 (fun w' => w'.cell? ⟨w.heap.size, 0, none⟩ = some (.slice a t c) ∧ w'.cell? ⟨w.heap.size + 1, 0, none⟩ = some (.slice va n vc)) (first | exact K2 | exact K3 | exact K4 | go_keep | fail) (first | (go_at_call 37; refine (HCO'.out).mono ?_; rintro e w3 ⟨ka, kl, kc, rfl, hcl, hb3⟩; have z3 := hb3.size; have K3 : w3.cell? ⟨w.heap.size, 0, none⟩ = some (.slice a t c) ∧ w3.cell? ⟨w.heap.size + 1, 0, none⟩ = some (.slice va n vc) := ⟨(hb3.cell m0).trans f0, (hb3.cell m1).trans g0⟩) | (go_at_call 191; refine (HM'.out w3 _ _ (HB2.out.trans (hb3.mono HB2.out.size)) hcl).mono ?_; rintro e w4 ⟨rfl, hb4⟩; have K4 : w4.cell? ⟨w.heap.size, 0, none⟩ = some (.slice a t c) ∧ w4.cell? ⟨w.heap.size + 1, 0, none⟩ = some (.slice va n vc) := ⟨(hb4.cell (Nat.lt_of_lt_of_le m0 z3)).trans K3.1, (hb4.cell (Nat.lt_of_lt_of_le m1 z3)).trans K3.2⟩))
        all_goals
          have HB4 : Hid (Below w.heap.size w w4) := (HB2.out.trans (hb3.mono HB2.out.size)).trans (hb4.mono (Nat.le_trans HB2.out.size z3))
          clear hb4 hb3 K2 K3 K4 f0 g0 hcl
          go_wp2
          exact bodyPost_ret (v := .tuple #[.bool q, .bool true]) (by simp [results, Tryz.results11, go_sem]) rfl ⟨q, true, rfl, .inl ⟨rfl, ⟨HGF.out, HGV.out⟩, HQ.out⟩, HB4.out⟩
      | neg d =>
        have HCO' : Hid (Calls Tryz.prog 37 #[.agg #[.slice a t c]] w2.drew fun e w' => ∃ (T0 : TypeId) (y0 : Value), e = .returned (.iface 120 (.agg #[.iface T0 y0])) ∧ ClIs w w' (fun b => w2.heap.size ≤ b) (.neg d) (.iface 120 (.agg #[.iface T0 y0])) ∧ Below w2.heap.size w2 w') := by
          refine (HCO.out).mono ?_
          rintro e w' ⟨T, y, rfl, hcl, hbl⟩
          have hcl' := hcl
          rw [ClIs] at hcl'
          obtain ⟨u, eu, hu⟩ := hcl'
          injection eu with e1 e2
          subst e1 e2
          obtain ⟨T0, y0, rfl⟩ := hu.form
          exact ⟨T0, y0, rfl, hcl, hbl⟩
        have HM' : Hid (∀ (W : World) (S : Nat → Prop) (y : Value), Below w.heap.size w W → ClIs w W S (.neg d) (.iface 120 y) → Calls Tryz.prog 192 #[y, .agg #[.slice va n vc]] W fun e w' => e = .returned (.bool q) ∧ Below W.heap.size W w') := fun W S y hW hcl => HM.out W S _ y hW hcl
        clear HCO HM
        go_wp2_with fail
        go_region_held3 (fun w' => w'.cell? ⟨w.heap.size, 0, none⟩ = some (.slice a t c) ∧ w'.cell? ⟨w.heap.size + 1, 0, none⟩ = some (.slice va n vc)) (first | exact K2 | exact K3 | exact K4 | go_keep | fail) (first | (go_at_call 37; refine (HCO'.out).mono ?_; rintro e w3 ⟨T0, y0, rfl, hcl, hb3⟩; have z3 := hb3.size; have K3 : w3.cell? ⟨w.heap.size, 0, none⟩ = some (.slice a t c) ∧ w3.cell? ⟨w.heap.size + 1, 0, none⟩ = some (.slice va n vc) := ⟨(hb3.cell m0).trans f0, (hb3.cell m1).trans g0⟩) | (go_at_call 192; refine (HM'.out w3 _ _ (HB2.out.trans (hb3.mono HB2.out.size)) hcl).mono ?_; rintro e w4 ⟨rfl, hb4⟩; have K4 : w4.cell? ⟨w.heap.size, 0, none⟩ = some (.slice a t c) ∧ w4.cell? ⟨w.heap.size + 1, 0, none⟩ = some (.slice va n vc) := ⟨(hb4.cell (Nat.lt_of_lt_of_le m0 z3)).trans K3.1, (hb4.cell (Nat.lt_of_lt_of_le m1 z3)).trans K3.2⟩))
        all_goals
          have HB4 : Hid (Below w.heap.size w w4) := (HB2.out.trans (hb3.mono HB2.out.size)).trans (hb4.mono (Nat.le_trans HB2.out.size z3))
          clear hb4 hb3 K2 K3 K4 f0 g0 hcl
          go_wp2
          exact bodyPost_ret (v := .tuple #[.bool q, .bool true]) (by simp [results, Tryz.results11, go_sem]) rfl ⟨q, true, rfl, .inl ⟨rfl, ⟨HGF.out, HGV.out⟩, HQ.out⟩, HB4.out⟩

end Go.Proofs.YtjohocnfcnjciaaGreatDoor
namespace Go.Proofs.YtjohocnfcnjciaaGreatDoor
open Go.RowKit
set_option linter.unusedVariables false

/-- The slice value v is n whole numbers f, at the head of block g, which may be written. -/
def OwnI (w : World) (g : Nat) (v : Value) (n : Nat) (f : Nat → Int) : Prop :=
  ∃ a c, v = .slice a n c ∧ n ≤ 2 ^ 30 ∧ (n = 0 ∨ (a = some ⟨g, 0, none⟩ ∧ g < w.heap.size ∧ IntsAt w g n f))

theorem OwnI.below {w w' : World} {g : Nat} {v : Value} {n : Nat} {f : Nat → Int} (h : OwnI w g v n f) (hb : Below w.heap.size w w') : OwnI w' g v n f := by
  obtain ⟨a, c, rfl, hn, h0 | ⟨rfl, hlt, hat⟩⟩ := h
  · exact ⟨a, c, rfl, hn, .inl h0⟩
  · exact ⟨_, c, rfl, hn, .inr ⟨rfl, Nat.lt_of_lt_of_le hlt hb.size, hat.below hb hlt⟩⟩
theorem OwnI.but {w w' : World} {b g : Nat} {v : Value} {n : Nat} {f : Nat → Int} (h : OwnI w g v n f) (hb : BelowBut w.heap.size b w w') (hne : g ≠ b) : OwnI w' g v n f := by
  obtain ⟨a, c, rfl, hn, h0 | ⟨rfl, hlt, hat⟩⟩ := h
  · exact ⟨a, c, rfl, hn, .inl h0⟩
  · exact ⟨_, c, rfl, hn, .inr ⟨rfl, Nat.lt_of_lt_of_le hlt hb.size, fun i hi => ⟨(hb.cell hlt hne).trans (hat i hi).1, (hb.frozen hlt hne).trans (hat i hi).2⟩⟩⟩

theorem own_row {w : World} {B : Nat} {v : Value} {l : List Nat} (h : w.ownsRow B 3 1 v l.length (intCells l)) (hl : l.length ≤ 2 ^ 30) : ∃ g, B ≤ g ∧ OwnI w g v l.length (fun j => (l.getD j 0 : Nat)) := by
  have hlt := h.lt
  have hcells := @World.ownsRow.cells _ _ _ _ _ _ _ h
  obtain ⟨_, h0 | ⟨g, cap, cur, hv, hg, hh, _⟩⟩ := h
  · obtain ⟨hv, hx⟩ := h0
    refine ⟨B, Nat.le_refl _, none, 0, by rw [hx]; exact hv, hl, .inl hx⟩
  · refine ⟨g, hg, _, _, hv, hl, .inr ⟨rfl, (hlt g (by rw [hv]; rfl)).2, fun j hj => ⟨?_, ?_⟩⟩⟩
    · have := hcells (g := g) (by rw [hv]; rfl) j (.int .i64 (l.getD j 0 : Nat)) (by simp [intCells, List.getElem?_eq_getElem hj, List.getD_eq_getElem?_getD])
      rw [show ((⟨g, 0, none⟩ : Addr).add j) = ⟨g, j, none⟩ by unfold Addr.add; split <;> simp_all] at this
      exact this
    · simp [World.frozen?, hh]

set_option maxHeartbeats 400000 in
theorem eqIntS_some (g1 c1 g2 c2 n : Nat) (f : Nat → Int) (w : World) (hn : n ≤ 2 ^ 40) (hb1 : g1 < w.heap.size) (hb2 : g2 < w.heap.size) (h1 : IntsAt w g1 n f) (h2 : IntsAt w g2 n f) :
    Calls Tryz.prog 22 #[.slice (some ⟨g1, 0, none⟩) n c1, .slice (some ⟨g2, 0, none⟩) n c2] w fun e w' => e = .returned (.bool true) ∧ Below w.heap.size w w' := by
  have H1 : Hid (IntsAt w g1 n f) := h1
  have H2 : Hid (IntsAt w g2 n f) := h2
  clear h1 h2
  go_enter Tryz.func22, Tryz.ntmps22
  go_wp2_with fail
  go_loopw [5] (fun i wr => ∃ k : Nat, k ≤ n ∧ i = .int .i64 k ∧ Below w.heap.size w wr) (fun i _ => n - (intOf i).toNat)
  case atStart => exact ⟨0, Nat.zero_le _, rfl, Below.refl _ _⟩
  case round =>
    obtain ⟨k, hk, rfl, hnx⟩ := hrel
    by_cases hlt : k < n
    · have a0 := ((H1.out.below hnx hb1) k hlt).1
      have d0 := ((H2.out.below hnx hb2) k hlt).1
      have i0 : (0 : Int) ≤ (k : Int) := by omega
      have i1 : (k : Int) < (n : Int) := by omega
      go_wp2_with fail
      go_region_held3 (fun w' => w'.cell? ⟨g1, k, none⟩ = some (.int .i64 (f k)) ∧ w'.cell? ⟨g2, k, none⟩ = some (.int .i64 (f k))) (exact ⟨a0, d0⟩) (fail)
      go_wp2
      go_roundw
      case rel => exact ⟨k + 1, by omega, by go_num, hnx.drew⟩
      case measure => simp [intOf]; omega
    · go_wp2
      go_ret
      exact ⟨rfl, hnx⟩

set_option maxHeartbeats 400000 in
theorem eqIntS_none (a1 a2 : Option Addr) (c1 c2 : Nat) (w : World) :
    Calls Tryz.prog 22 #[.slice a1 0 c1, .slice a2 0 c2] w fun e w' => e = .returned (.bool true) ∧ Below w.heap.size w w' := by
  go_enter Tryz.func22, Tryz.ntmps22
  go_wp2
  go_rounds 1
  go_ret
  exact ⟨rfl, by go_grown⟩

theorem eqIntS_any (v1 v2 : Value) (g1 g2 n : Nat) (f : Nat → Int) (w : World) (h1 : OwnI w g1 v1 n f) (h2 : OwnI w g2 v2 n f) :
    Calls Tryz.prog 22 #[v1, v2] w fun e w' => e = .returned (.bool true) ∧ Below w.heap.size w w' := by
  obtain ⟨a1, c1, rfl, hn, h1⟩ := h1
  obtain ⟨a2, c2, rfl, _, h2⟩ := h2
  rcases h1 with rfl | ⟨rfl, q1, h1⟩
  · exact eqIntS_none a1 a2 c1 c2 w
  · rcases h2 with rfl | ⟨rfl, q2, h2⟩
    · exact eqIntS_none _ a2 c1 c2 w
    · exact eqIntS_some g1 c1 g2 c2 n f w (by omega) q1 q2 h1 h2

set_option maxHeartbeats 400000 in
theorem markIntS_some (g c n : Nat) (f : Nat → Int) (k0 : Int) (w : World) (hn : n ≤ 2 ^ 30) (hk0 : 0 < k0) (hk1 : k0 ≤ 2 ^ 30) (h : IntsAt w g n f) :
    Calls Tryz.prog 25 #[.slice (some ⟨g, 0, none⟩) n c, .int .i64 k0] w fun e w' => e = .returned (.int .i64 (k0 + n)) ∧ BelowBut w.heap.size g w w' ∧ IntsAt w' g n (fun i => k0 + i) := by
  have H : Hid (IntsAt w g n f) := h
  clear h
  go_enter Tryz.func25, Tryz.ntmps25
  go_wp2_with fail
  go_loopw [1, 5] (fun q i wr => ∃ k : Nat, k ≤ n ∧ i = .int .i64 k ∧ q = .int .i64 (k0 + k) ∧ BelowBut w.heap.size g w wr ∧ Hid (IntsAt wr g n (fun j => if j < k then k0 + j else f j))) (fun _ i _ => n - (intOf i).toNat)
  case atStart => exact ⟨0, Nat.zero_le _, rfl, by simp, BelowBut.refl _ _ _, by show IntsAt _ _ _ _; simpa using H.out⟩
  case round =>
    obtain ⟨k, hk, rfl, rfl, hnx, HI⟩ := hrel
    by_cases hlt : k < n
    · have l0 := (HI.out k hlt).1
      have l1 := (HI.out k hlt).2
      simp only [Nat.lt_irrefl, if_false] at l0
      have i0 : (0 : Int) ≤ (k : Int) := by omega
      have i1 : (k : Int) < (n : Int) := by omega
      go_wp2
      have r1 := (HI.out).set hlt (k0 + k)
      go_roundw
      case rel =>
        refine ⟨k + 1, by omega, by go_num, by go_num, hnx.trans (BelowBut.setCell _ _ _), r1.congr fun i hi => ?_⟩
        by_cases e : i = k
        · subst e; simp
        · by_cases e2 : i < k
          · simp [e, e2, Nat.lt_succ_of_lt e2]
          · have e3 : ¬ i < k + 1 := by omega
            simp [e, e2, e3]
      case measure => simp [intOf]; omega
    · go_wp2
      go_ret
      obtain rfl : k = n := by omega
      exact ⟨rfl, hnx, HI.out.congr fun i hi => by rw [if_pos hi]⟩

set_option maxHeartbeats 400000 in
theorem markIntS_none (a : Option Addr) (c : Nat) (k0 : Int) (w : World) :
    Calls Tryz.prog 25 #[.slice a 0 c, .int .i64 k0] w fun e w' => e = .returned (.int .i64 k0) ∧ w' = w := by
  go_enter Tryz.func25, Tryz.ntmps25
  go_wp2
  go_rounds 1
  go_ret
  exact ⟨rfl, rfl⟩

theorem markIntS_any (v : Value) (g n : Nat) (f : Nat → Int) (w : World) (h : OwnI w g v n f) :
    Calls Tryz.prog 25 #[v, .int .i64 1] w fun e w' => e = .returned (.int .i64 (1 + n)) ∧ BelowBut w.heap.size g w w' ∧ OwnI w' g v n (fun i => 1 + i) := by
  obtain ⟨a, c, rfl, hn, rfl | ⟨rfl, hlt, hat⟩⟩ := h
  · refine (markIntS_none a c 1 w).mono ?_
    rintro e w1 ⟨rfl, rfl⟩
    exact ⟨by simp, BelowBut.refl _ _ _, a, c, rfl, hn, .inl rfl⟩
  · refine (markIntS_some g c n f 1 w hn (by omega) (by omega) hat).mono ?_
    rintro e w1 ⟨rfl, hb, hi⟩
    exact ⟨rfl, hb, _, c, rfl, hn, .inr ⟨rfl, Nat.lt_of_lt_of_le hlt hb.size, hi⟩⟩

set_option maxHeartbeats 400000 in
theorem heldIntS_some (g c n : Nat) (k0 : Int) (w : World) (hn : n ≤ 2 ^ 30) (hk0 : 0 < k0) (hk1 : k0 ≤ 2 ^ 30) (h : IntsAt w g n (fun i => k0 + i)) :
    Calls Tryz.prog 26 #[.slice (some ⟨g, 0, none⟩) n c, .int .i64 k0] w fun e w' => e = .returned (.int .i64 (k0 + n)) ∧ Below w.heap.size w w' := by
  have H : Hid (IntsAt w g n (fun i => k0 + i)) := h
  clear h
  go_enter Tryz.func26, Tryz.ntmps26
  go_wp2_with fail
  go_loopw [1, 5] (fun q i wr => ∃ k : Nat, k ≤ n ∧ i = .int .i64 k ∧ q = .int .i64 (k0 + k) ∧ Hid (IntsAt wr g n (fun i => k0 + i)) ∧ Below w.heap.size w wr) (fun _ i _ => n - (intOf i).toNat)
  case atStart => exact ⟨0, Nat.zero_le _, rfl, by simp, H, Below.refl _ _⟩
  case round =>
    obtain ⟨k, hk, rfl, rfl, HI, hnx⟩ := hrel
    by_cases hlt : k < n
    · have l0 := (HI.out k hlt).1
      have i0 : (0 : Int) ≤ (k : Int) := by omega
      have i1 : (k : Int) < (n : Int) := by omega
      go_wp2
      go_roundw
      case rel => exact ⟨k + 1, by omega, by go_num, by go_num, HI, hnx⟩
      case measure => simp [intOf]; omega
    · go_wp2
      go_ret
      obtain rfl : k = n := by omega
      exact ⟨rfl, hnx⟩

set_option maxHeartbeats 400000 in
theorem heldIntS_none (a : Option Addr) (c : Nat) (k0 : Int) (w : World) :
    Calls Tryz.prog 26 #[.slice a 0 c, .int .i64 k0] w fun e w' => e = .returned (.int .i64 k0) ∧ w' = w := by
  go_enter Tryz.func26, Tryz.ntmps26
  go_wp2
  go_rounds 1
  go_ret
  exact ⟨rfl, rfl⟩

theorem heldIntS_any (v : Value) (g n : Nat) (w : World) (h : OwnI w g v n (fun i => 1 + i)) :
    Calls Tryz.prog 26 #[v, .int .i64 1] w fun e w' => e = .returned (.int .i64 (1 + n)) ∧ Below w.heap.size w w' := by
  obtain ⟨a, c, rfl, hn, rfl | ⟨rfl, hlt, hat⟩⟩ := h
  · refine (heldIntS_none a c 1 w).mono ?_
    rintro e w1 ⟨rfl, rfl⟩
    exact ⟨by simp, Below.refl _ _⟩
  · exact heldIntS_some g c n 1 w hn (by omega) (by omega) hat

end Go.Proofs.YtjohocnfcnjciaaGreatDoor
namespace Go.Proofs.YtjohocnfcnjciaaGreatDoor
open Go.RowKit
set_option linter.unusedVariables false

set_option maxHeartbeats 400000 in
theorem szIntS_left (a : Option Addr) (c m : Nat) (left : Int) (hl0 : 0 ≤ left) (hl1 : left ≤ 2 ^ 20) (w : World) (hm : m ≤ maxLen) :
    Calls Tryz.prog 76 #[.slice a m c, .int .i64 left] w fun e w' => ∃ r : Int, e = .returned (.int .i64 r) ∧ (r = -1 ∨ (0 ≤ r ∧ r ≤ 2 ^ 20 ∧ m ≤ 2 ^ 20)) ∧ Below w.heap.size w w' := by
  unfold maxLen at hm
  by_cases c0 : left - (m : Int) < 0
  · go_enter Tryz.func76, Tryz.ntmps76
    go_wp2
    go_ret
    exact ⟨-1, rfl, .inl rfl, by go_grown⟩
  · go_enter Tryz.func76, Tryz.ntmps76
    go_wp2
    go_ret
    exact ⟨_, rfl, .inr ⟨by omega, by omega, by omega⟩, by go_grown⟩

set_option maxHeartbeats 1000000 in
theorem szTerm_any (y : Tm) (va ka : Option Addr) (vc kc : Nat) (left : Int) (hl0 : 0 ≤ left) (hl1 : left ≤ 2 ^ 20) (w : World) (hz : BigT y) (hv : ArgIs w va y.n y.N) :
    Calls Tryz.prog 47 #[.agg #[.int .i64 y.kind, .string y.path, .slice va y.n vc, .slice ka y.m kc], .int .i64 left] w fun e w' => ∃ r : Int, e = .returned (.int .i64 r) ∧ (r = -1 ∨ (0 ≤ r ∧ r ≤ 2 ^ 20 ∧ SmallT y)) ∧ Below w.heap.size w w' := by
  obtain ⟨k, p, n, N, m, K⟩ := y
  dsimp only at hv ⊢
  obtain ⟨z1, z2, z3, z4⟩ := hz
  dsimp only at z1 z2 z3 z4
  have HV : Hid (ArgIs w va n N) := hv
  have HZ : Hid (∀ i, i < n → (N i).text.size ≤ maxLen ∧ (N i).name.size ≤ maxLen) := z3
  have HN : Hid (n ≤ maxLen) := z2
  have HM : Hid (m ≤ maxLen) := z4
  clear hv z3 z2 z4
  unfold maxLen at z1
  by_cases c0 : left - (p.size : Int) < 0
  · go_enter Tryz.func47, Tryz.ntmps47
    go_wp2
    go_ret
    exact ⟨-1, rfl, .inl rfl, by go_grown⟩
  · have HP : Hid (p.size ≤ 2 ^ 20) := by show p.size ≤ 2 ^ 20; omega
    have hl2 : 0 ≤ left - (p.size : Int) := by omega
    have hl3 : left - (p.size : Int) ≤ 2 ^ 20 := by omega
    go_enter Tryz.func47, Tryz.ntmps47
    go_wp2_with fail
    have hbl : ∀ o, Below w.heap.size w (w.alloc o) := fun o => (Below.refl _ _).alloc (Nat.le_refl _) o
    refine (szValue_left va vc n N _ hl2 hl3 _ HN.out (HV.out.below (hbl _)) HZ.out).mono ?_
    rintro e w1 ⟨r, rfl, hr, hb⟩
    have x1 : w1.cell? ⟨w.heap.size, 3, none⟩ = some (.slice ka m kc) := by rw [hb.cell (by simp)]; simp [go_sem]
    have HB : Hid (Below w.heap.size w w1) := (hbl _).trans (hb.mono (by simp))
    clear hb hbl
    rcases hr with rfl | ⟨r0, r20, hs⟩
    · go_wp2
      go_ret
      exact ⟨-1, rfl, .inl rfl, HB.out⟩
    · have HS : Hid (SmallN n N) := hs
      clear hs
      have r1 : ¬ r < 0 := by omega
      go_wp2_with fail
      refine (szIntS_left ka kc m r r0 r20 _ HM.out).mono ?_
      rintro e w2 ⟨q, rfl, hq, hb2⟩
      have HB2 : Hid (Below w.heap.size w w2) := HB.out.trans (hb2.mono HB.out.size)
      clear hb2
      rcases hq with rfl | ⟨q0, q20, hm⟩
      · go_wp2
        go_ret
        exact ⟨-1, rfl, .inl rfl, HB2.out⟩
      · have q1 : ¬ q < 0 := by omega
        go_wp2
        go_ret
        exact ⟨q, rfl, .inr ⟨q0, q20, HP.out, HS.out, hm⟩, HB2.out⟩

set_option maxHeartbeats 1000000 in
theorem szTermS_left (a : Option Addr) (c t : Nat) (F : Nat → Tm) (left : Int) (hl0 : 0 ≤ left) (hl1 : left ≤ 2 ^ 20) (w : World) (ht : t ≤ maxLen) (h : FArg w a t F) (hz : ∀ i, i < t → BigT (F i)) :
    Calls Tryz.prog 27 #[.slice a t c, .int .i64 left] w fun e w' => ∃ r : Int, e = .returned (.int .i64 r) ∧ (r = -1 ∨ (0 ≤ r ∧ r ≤ 2 ^ 20 ∧ SmallF t F)) ∧ Below w.heap.size w w' := by
  have HZ : Hid (∀ i, i < t → BigT (F i)) := hz
  have H : Hid (FArg w a t F) := h
  clear hz h
  unfold maxLen at ht
  by_cases c0 : left - (t : Int) < 0
  · go_enter Tryz.func27, Tryz.ntmps27
    go_wp2
    go_ret
    exact ⟨-1, rfl, .inl rfl, by go_grown⟩
  · go_enter Tryz.func27, Tryz.ntmps27
    go_wp2_with fail
    go_loopw [1, 5] (fun q i wr => ∃ (k : Nat) (r : Int), k ≤ t ∧ i = .int .i64 k ∧ q = .int .i64 r ∧ 0 ≤ r ∧ r ≤ 2 ^ 20 ∧ Hid (∀ j, j < k → SmallT (F j)) ∧ Below w.heap.size w wr) (fun _ i _ => t - (intOf i).toNat)
    case atStart => exact ⟨0, _, Nat.zero_le _, rfl, rfl, by omega, by omega, fun j hj => by omega, Below.refl _ _⟩
    case round =>
      obtain ⟨k, r, hk, rfl, rfl, hr0, hr1, HJ, hnx⟩ := hrel
      by_cases hlt : k < t
      · obtain ⟨b, off, va, vc, ka, kc, rfl, hb, a0, a1, a2, a3, hv, _⟩ := (H.out.below hnx).at hlt
        have i0 : (0 : Int) ≤ (k : Int) := by omega
        have i1 : (k : Int) < (t : Int) := by omega
        have HV : Hid (ArgIs wr va (F k).n (F k).N) := hv
        clear hv
        go_wp2_with fail
        refine (szTerm_any (F k) va ka vc kc r hr0 hr1 _ (HZ.out k hlt) HV.out).mono ?_
        rintro e w1 ⟨q, rfl, hq, hb1⟩
        have HB : Hid (Below w.heap.size w w1) := hnx.trans (hb1.mono hnx.size)
        clear hb1
        rcases hq with rfl | ⟨q0, q1, q2⟩
        · go_wp2
          go_ret
          exact ⟨-1, rfl, .inl rfl, HB.out⟩
        · have HJ' : Hid (∀ j, j < k + 1 → SmallT (F j)) := fun j hj => by
            by_cases e : j = k
            · subst e; exact q2
            · exact HJ.out j (by omega)
          clear q2
          go_wp2
          go_roundw
          case rel => exact ⟨k + 1, q, by omega, by go_num, rfl, q0, by omega, HJ', HB.out⟩
          case measure => simp [intOf]; omega
      · go_wp2
        go_ret
        obtain rfl : k = t := by omega
        exact ⟨r, rfl, .inr ⟨hr0, hr1, by omega, HJ.out⟩, hnx⟩

set_option maxHeartbeats 400000 in
theorem szFilter_left (a : Option Addr) (c t : Nat) (F : Nat → Tm) (left : Int) (hl0 : 0 ≤ left) (hl1 : left ≤ 2 ^ 20) (w : World) (ht : t ≤ maxLen) (h : FArg w a t F) (hz : ∀ i, i < t → BigT (F i)) :
    Calls Tryz.prog 6 #[.agg #[.slice a t c], .int .i64 left] w fun e w' => ∃ r : Int, e = .returned (.int .i64 r) ∧ (r = -1 ∨ (0 ≤ r ∧ r ≤ 2 ^ 20 ∧ SmallF t F)) ∧ Below w.heap.size w w' := by
  have HZ : Hid (∀ i, i < t → BigT (F i)) := hz
  have H : Hid (FArg w a t F) := h
  clear hz h
  go_enter Tryz.func6, Tryz.ntmps6
  go_wp2_with fail
  refine (szTermS_left a c t F left hl0 hl1 _ ht (H.out.below (by go_grown)) HZ.out).mono ?_
  rintro e w1 ⟨r, rfl, hr, hb⟩
  have HB : Hid (Below w.heap.size w w1) := (show Below w.heap.size w _ by go_grown).trans (hb.mono (by simp))
  clear hb
  rcases hr with rfl | ⟨r0, r20, hs⟩
  · go_wp2
    go_ret
    exact ⟨-1, rfl, .inl rfl, HB.out⟩
  · have HS : Hid (SmallF t F) := hs
    clear hs
    have r1 : ¬ r < 0 := by omega
    go_wp2
    go_ret
    exact ⟨r, rfl, .inr ⟨r0, r20, HS.out⟩, HB.out⟩

end Go.Proofs.YtjohocnfcnjciaaGreatDoor
namespace Go.Proofs.YtjohocnfcnjciaaGreatDoor
open Go.RowKit
set_option linter.unusedVariables false

/-- What a filter weighs. -/
def totF (F : Nat → Tm) : Nat → Nat
  | 0 => 0
  | i + 1 => totF F i + (F i).n + (F i).m

set_option maxHeartbeats 400000 in
theorem szIntS_less (a : Option Addr) (c m : Nat) (left : Int) (hl0 : 0 ≤ left) (hl1 : left ≤ 2 ^ 20) (w : World) (hm : m ≤ maxLen) :
    Calls Tryz.prog 76 #[.slice a m c, .int .i64 left] w fun e w' => ∃ r : Int, e = .returned (.int .i64 r) ∧ (r = -1 ∨ (0 ≤ r ∧ r + m ≤ left)) ∧ Below w.heap.size w w' := by
  unfold maxLen at hm
  by_cases c0 : left - (m : Int) < 0
  · go_enter Tryz.func76, Tryz.ntmps76
    go_wp2
    go_ret
    exact ⟨-1, rfl, .inl rfl, by go_grown⟩
  · go_enter Tryz.func76, Tryz.ntmps76
    go_wp2
    go_ret
    exact ⟨_, rfl, .inr ⟨by omega, by omega⟩, by go_grown⟩
set_option maxHeartbeats 1000000 in
theorem szNodeS_less (a : Option Addr) (c n : Nat) (N : Nat → Nd) (left : Int) (hl0 : 0 ≤ left) (hl1 : left ≤ 2 ^ 20) (w : World) (hn : n ≤ maxLen) (h : ArgIs w a n N) (hz : ∀ i, i < n → (N i).text.size ≤ maxLen ∧ (N i).name.size ≤ maxLen) :
    Calls Tryz.prog 28 #[.slice a n c, .int .i64 left] w fun e w' => ∃ r : Int, e = .returned (.int .i64 r) ∧ (r = -1 ∨ (0 ≤ r ∧ r + n ≤ left ∧ SmallN n N)) ∧ Below w.heap.size w w' := by
  have HZ : Hid (∀ i, i < n → (N i).text.size ≤ maxLen ∧ (N i).name.size ≤ maxLen) := hz
  have H : Hid (ArgIs w a n N) := h
  clear hz h
  unfold maxLen at hn
  by_cases c0 : left - (n : Int) < 0
  · go_enter Tryz.func28, Tryz.ntmps28
    go_wp2
    go_ret
    exact ⟨-1, rfl, .inl rfl, by go_grown⟩
  · go_enter Tryz.func28, Tryz.ntmps28
    go_wp2_with fail
    go_loopw [1, 5] (fun q i wr => ∃ (k : Nat) (r : Int), k ≤ n ∧ i = .int .i64 k ∧ q = .int .i64 r ∧ 0 ≤ r ∧ r + n ≤ left ∧ Hid (∀ j, j < k → (N j).text.size ≤ 2 ^ 20 ∧ (N j).name.size ≤ 2 ^ 20) ∧ Below w.heap.size w wr) (fun _ i _ => n - (intOf i).toNat)
    case atStart => exact ⟨0, _, Nat.zero_le _, rfl, rfl, by omega, by omega, fun j hj => by omega, Below.refl _ _⟩
    case round =>
      obtain ⟨k, r, hk, rfl, rfl, hr0, hr1, HJ, hnx⟩ := hrel
      by_cases hlt : k < n
      · rcases H.out with h0 | ⟨b, off, rfl, hb, hat⟩
        · omega
        obtain ⟨a0, a1, a2, a3, a4⟩ := hat.below hnx hb k hlt
        have i0 : (0 : Int) ≤ (k : Int) := by omega
        have i1 : (k : Int) < (n : Int) := by omega
        obtain ⟨t0, t1⟩ := HZ.out k hlt
        clear hat
        go_wp2_with fail
        refine (szNode_any _ _ _ _ _ _ _ hr0 (by omega) t0 t1).mono ?_
        rintro e w1 ⟨q, rfl, hq, hb1⟩
        have HB : Hid (Below w.heap.size w w1) := hnx.trans (hb1.mono hnx.size)
        clear hb1
        rcases hq with rfl | ⟨q0, q1, q2, q3⟩
        · go_wp2
          go_ret
          exact ⟨-1, rfl, .inl rfl, HB.out⟩
        · have HJ' : Hid (∀ j, j < k + 1 → (N j).text.size ≤ 2 ^ 20 ∧ (N j).name.size ≤ 2 ^ 20) := fun j hj => by
            by_cases e : j = k
            · subst e; exact ⟨q2, q3⟩
            · exact HJ.out j (by omega)
          go_wp2
          go_roundw
          case rel => exact ⟨k + 1, q, by omega, by go_num, rfl, q0, by omega, HJ', HB.out⟩
          case measure => simp [intOf]; omega
      · go_wp2
        go_ret
        obtain rfl : k = n := by omega
        exact ⟨r, rfl, .inr ⟨hr0, hr1, by omega, HJ.out⟩, hnx⟩

set_option maxHeartbeats 400000 in
theorem szValue_less (a : Option Addr) (c n : Nat) (N : Nat → Nd) (left : Int) (hl0 : 0 ≤ left) (hl1 : left ≤ 2 ^ 20) (w : World) (hn : n ≤ maxLen) (h : ArgIs w a n N) (hz : ∀ i, i < n → (N i).text.size ≤ maxLen ∧ (N i).name.size ≤ maxLen) :
    Calls Tryz.prog 7 #[.agg #[.slice a n c], .int .i64 left] w fun e w' => ∃ r : Int, e = .returned (.int .i64 r) ∧ (r = -1 ∨ (0 ≤ r ∧ r + n ≤ left ∧ SmallN n N)) ∧ Below w.heap.size w w' := by
  have HZ : Hid (∀ i, i < n → (N i).text.size ≤ maxLen ∧ (N i).name.size ≤ maxLen) := hz
  have H : Hid (ArgIs w a n N) := h
  clear hz h
  go_enter Tryz.func7, Tryz.ntmps7
  go_wp2_with fail
  refine (szNodeS_less a c n N left hl0 hl1 _ hn (H.out.below (by go_grown)) HZ.out).mono ?_
  rintro e w1 ⟨r, rfl, hr, hb⟩
  have HB : Hid (Below w.heap.size w w1) := (show Below w.heap.size w _ by go_grown).trans (hb.mono (by simp))
  clear hb
  rcases hr with rfl | ⟨r0, r20, hs⟩
  · go_wp2
    go_ret
    exact ⟨-1, rfl, .inl rfl, HB.out⟩
  · have HS : Hid (SmallN n N) := hs
    clear hs
    have r1 : ¬ r < 0 := by omega
    go_wp2
    go_ret
    exact ⟨r, rfl, .inr ⟨r0, r20, HS.out⟩, HB.out⟩

set_option maxHeartbeats 1000000 in
theorem szTerm_less (y : Tm) (va ka : Option Addr) (vc kc : Nat) (left : Int) (hl0 : 0 ≤ left) (hl1 : left ≤ 2 ^ 20) (w : World) (hz : BigT y) (hv : ArgIs w va y.n y.N) :
    Calls Tryz.prog 47 #[.agg #[.int .i64 y.kind, .string y.path, .slice va y.n vc, .slice ka y.m kc], .int .i64 left] w fun e w' => ∃ r : Int, e = .returned (.int .i64 r) ∧ (r = -1 ∨ (0 ≤ r ∧ r + y.n + y.m ≤ left ∧ SmallT y)) ∧ Below w.heap.size w w' := by
  obtain ⟨k, p, n, N, m, K⟩ := y
  dsimp only at hv ⊢
  obtain ⟨z1, z2, z3, z4⟩ := hz
  dsimp only at z1 z2 z3 z4
  have HV : Hid (ArgIs w va n N) := hv
  have HZ : Hid (∀ i, i < n → (N i).text.size ≤ maxLen ∧ (N i).name.size ≤ maxLen) := z3
  have HN : Hid (n ≤ maxLen) := z2
  have HM : Hid (m ≤ maxLen) := z4
  clear hv z3 z2 z4
  unfold maxLen at z1
  by_cases c0 : left - (p.size : Int) < 0
  · go_enter Tryz.func47, Tryz.ntmps47
    go_wp2
    go_ret
    exact ⟨-1, rfl, .inl rfl, by go_grown⟩
  · have HP : Hid (p.size ≤ 2 ^ 20) := by show p.size ≤ 2 ^ 20; omega
    have hl2 : 0 ≤ left - (p.size : Int) := by omega
    have hl3 : left - (p.size : Int) ≤ 2 ^ 20 := by omega
    go_enter Tryz.func47, Tryz.ntmps47
    go_wp2_with fail
    have hbl : ∀ o, Below w.heap.size w (w.alloc o) := fun o => (Below.refl _ _).alloc (Nat.le_refl _) o
    refine (szValue_less va vc n N _ hl2 hl3 _ HN.out (HV.out.below (hbl _)) HZ.out).mono ?_
    rintro e w1 ⟨r, rfl, hr, hb⟩
    have x1 : w1.cell? ⟨w.heap.size, 3, none⟩ = some (.slice ka m kc) := by rw [hb.cell (by simp)]; simp [go_sem]
    have HB : Hid (Below w.heap.size w w1) := (hbl _).trans (hb.mono (by simp))
    clear hb hbl
    rcases hr with rfl | ⟨r0, r20, hs⟩
    · go_wp2
      go_ret
      exact ⟨-1, rfl, .inl rfl, HB.out⟩
    · have HS : Hid (SmallN n N) := hs
      clear hs
      have r1 : ¬ r < 0 := by omega
      go_wp2_with fail
      refine (szIntS_less ka kc m r r0 (by omega) _ HM.out).mono ?_
      rintro e w2 ⟨q, rfl, hq, hb2⟩
      have HB2 : Hid (Below w.heap.size w w2) := HB.out.trans (hb2.mono HB.out.size)
      clear hb2
      rcases hq with rfl | ⟨q0, q20⟩
      · go_wp2
        go_ret
        exact ⟨-1, rfl, .inl rfl, HB2.out⟩
      · have q1 : ¬ q < 0 := by omega
        go_wp2
        go_ret
        exact ⟨q, rfl, .inr ⟨q0, by omega, HP.out, HS.out, by show m ≤ 2 ^ 20; omega⟩, HB2.out⟩

set_option maxHeartbeats 1000000 in
theorem szTermS_less (a : Option Addr) (c t : Nat) (F : Nat → Tm) (left : Int) (hl0 : 0 ≤ left) (hl1 : left ≤ 2 ^ 20) (w : World) (ht : t ≤ maxLen) (h : FArg w a t F) (hz : ∀ i, i < t → BigT (F i)) :
    Calls Tryz.prog 27 #[.slice a t c, .int .i64 left] w fun e w' => ∃ r : Int, e = .returned (.int .i64 r) ∧ (r = -1 ∨ (0 ≤ r ∧ r + totF F t ≤ left ∧ SmallF t F)) ∧ Below w.heap.size w w' := by
  have HZ : Hid (∀ i, i < t → BigT (F i)) := hz
  have H : Hid (FArg w a t F) := h
  clear hz h
  unfold maxLen at ht
  by_cases c0 : left - (t : Int) < 0
  · go_enter Tryz.func27, Tryz.ntmps27
    go_wp2
    go_ret
    exact ⟨-1, rfl, .inl rfl, by go_grown⟩
  · go_enter Tryz.func27, Tryz.ntmps27
    go_wp2_with fail
    go_loopw [1, 5] (fun q i wr => ∃ (k : Nat) (r : Int), k ≤ t ∧ i = .int .i64 k ∧ q = .int .i64 r ∧ 0 ≤ r ∧ r + totF F k ≤ left ∧ Hid (∀ j, j < k → SmallT (F j)) ∧ Below w.heap.size w wr) (fun _ i _ => t - (intOf i).toNat)
    case atStart => exact ⟨0, _, Nat.zero_le _, rfl, rfl, by omega, by simp only [totF]; omega, fun j hj => by omega, Below.refl _ _⟩
    case round =>
      obtain ⟨k, r, hk, rfl, rfl, hr0, hr1, HJ, hnx⟩ := hrel
      by_cases hlt : k < t
      · obtain ⟨b, off, va, vc, ka, kc, rfl, hb, a0, a1, a2, a3, hv, _⟩ := (H.out.below hnx).at hlt
        have i0 : (0 : Int) ≤ (k : Int) := by omega
        have i1 : (k : Int) < (t : Int) := by omega
        have HV : Hid (ArgIs wr va (F k).n (F k).N) := hv
        clear hv
        go_wp2_with fail
        refine (szTerm_less (F k) va ka vc kc r hr0 (by omega) _ (HZ.out k hlt) HV.out).mono ?_
        rintro e w1 ⟨q, rfl, hq, hb1⟩
        have HB : Hid (Below w.heap.size w w1) := hnx.trans (hb1.mono hnx.size)
        clear hb1
        rcases hq with rfl | ⟨q0, q1, q2⟩
        · go_wp2
          go_ret
          exact ⟨-1, rfl, .inl rfl, HB.out⟩
        · have HJ' : Hid (∀ j, j < k + 1 → SmallT (F j)) := fun j hj => by
            by_cases e : j = k
            · subst e; exact q2
            · exact HJ.out j (by omega)
          clear q2
          go_wp2
          go_roundw
          case rel => exact ⟨k + 1, q, by omega, by go_num, rfl, q0, by simp only [totF]; omega, HJ', HB.out⟩
          case measure => simp [intOf]; omega
      · go_wp2
        go_ret
        obtain rfl : k = t := by omega
        exact ⟨r, rfl, .inr ⟨hr0, hr1, by omega, HJ.out⟩, hnx⟩

set_option maxHeartbeats 400000 in
theorem szFilter_less (a : Option Addr) (c t : Nat) (F : Nat → Tm) (left : Int) (hl0 : 0 ≤ left) (hl1 : left ≤ 2 ^ 20) (w : World) (ht : t ≤ maxLen) (h : FArg w a t F) (hz : ∀ i, i < t → BigT (F i)) :
    Calls Tryz.prog 6 #[.agg #[.slice a t c], .int .i64 left] w fun e w' => ∃ r : Int, e = .returned (.int .i64 r) ∧ (r = -1 ∨ (0 ≤ r ∧ r + totF F t ≤ left ∧ SmallF t F)) ∧ Below w.heap.size w w' := by
  have HZ : Hid (∀ i, i < t → BigT (F i)) := hz
  have H : Hid (FArg w a t F) := h
  clear hz h
  go_enter Tryz.func6, Tryz.ntmps6
  go_wp2_with fail
  refine (szTermS_less a c t F left hl0 hl1 _ ht (H.out.below (by go_grown)) HZ.out).mono ?_
  rintro e w1 ⟨r, rfl, hr, hb⟩
  have HB : Hid (Below w.heap.size w w1) := (show Below w.heap.size w _ by go_grown).trans (hb.mono (by simp))
  clear hb
  rcases hr with rfl | ⟨r0, r20, hs⟩
  · go_wp2
    go_ret
    exact ⟨-1, rfl, .inl rfl, HB.out⟩
  · have HS : Hid (SmallF t F) := hs
    clear hs
    have r1 : ¬ r < 0 := by omega
    go_wp2
    go_ret
    exact ⟨r, rfl, .inr ⟨r0, r20, HS.out⟩, HB.out⟩

end Go.Proofs.YtjohocnfcnjciaaGreatDoor
namespace Go.Proofs.YtjohocnfcnjciaaGreatDoor
open Go.RowKit
set_option linter.unusedVariables false

/-- All that lay there is as it was, but for the blocks of S. -/
structure Kept (S : Nat → Prop) (w w' : World) : Prop where
  os : w'.os = w.os
  tape : w'.tape = w.tape
  output : w'.output = w.output
  size : w.heap.size ≤ w'.heap.size
  block : ∀ k, k < w.heap.size → ¬ S k → w'.heap[k]? = w.heap[k]?
theorem Kept.refl (S : Nat → Prop) (w : World) : Kept S w w := ⟨rfl, rfl, rfl, Nat.le_refl _, fun _ _ _ => rfl⟩
theorem Kept.trans {S : Nat → Prop} {a c d : World} (h : Kept S a c) (k : Kept S c d) : Kept S a d :=
  ⟨k.os.trans h.os, k.tape.trans h.tape, k.output.trans h.output, Nat.le_trans h.size k.size, fun i hi hn => (k.block i (Nat.lt_of_lt_of_le hi h.size) hn).trans (h.block i hi hn)⟩
theorem Kept.of {S : Nat → Prop} {w w' : World} (h : Below w.heap.size w w') : Kept S w w' := ⟨h.os, h.tape, h.output, h.size, fun k hk _ => h.block k hk⟩
theorem Kept.but {S : Nat → Prop} {w w' : World} {b : Nat} (h : BelowBut w.heap.size b w w') (hb : S b ∨ w.heap.size ≤ b) : Kept S w w' := ⟨h.os, h.tape, h.output, h.size, fun k hk hn => h.block k hk (by
  rintro rfl
  rcases hb with hb | hb
  · exact hn hb
  · omega)⟩
theorem Kept.mono {S S' : Nat → Prop} {w w' : World} (h : Kept S w w') (hs : ∀ k, S k → S' k) : Kept S' w w' := ⟨h.os, h.tape, h.output, h.size, fun k hk hn => h.block k hk (fun hk' => hn (hs k hk'))⟩
theorem Kept.below {S : Nat → Prop} {B : Nat} {w w' : World} (h : Kept S w w') (hB : B ≤ w.heap.size) (hs : ∀ k, k < B → ¬ S k) : Below B w w' := ⟨h.os, h.tape, h.output, h.size, fun k hk => h.block k (by omega) (hs k hk)⟩
theorem Kept.cell {S : Nat → Prop} {w w' : World} (h : Kept S w w') {g o : Nat} (hg : g < w.heap.size) (hn : ¬ S g) : w'.cell? ⟨g, o, none⟩ = w.cell? ⟨g, o, none⟩ := World.cell?_of_block (w := w) (h.block g hg hn)
theorem Kept.frozen {S : Nat → Prop} {w w' : World} (h : Kept S w w') {g o : Nat} (hg : g < w.heap.size) (hn : ¬ S g) : w'.frozen? ⟨g, o, none⟩ = w.frozen? ⟨g, o, none⟩ := World.frozen?_of_block (w := w) (h.block g hg hn)

theorem OwnAt.kept {S : Nat → Prop} {w w' : World} {g : Nat} {v : Value} {n : Nat} {N : Nat → Nd} (h : OwnAt w g v n N) (hk : Kept S w w') (hn : n ≠ 0 → ¬ S g) : OwnAt w' g v n N := by
  obtain ⟨a, c, off, rfl, hb, h0⟩ := h
  by_cases e : n = 0
  · exact ⟨a, c, off, rfl, hb, .inl e⟩
  rcases h0 with h0 | ⟨rfl, hlt, hat, hf⟩
  · exact absurd h0 e
  · refine ⟨_, c, off, rfl, hb, .inr ⟨rfl, Nat.lt_of_lt_of_le hlt hk.size, fun i hi => ?_, fun o ho => (hk.frozen hlt (hn e)).trans (hf o ho)⟩⟩
    obtain ⟨h0, h1, h2, h3, h4⟩ := hat i hi
    exact ⟨(hk.cell hlt (hn e)).trans h0, (hk.cell hlt (hn e)).trans h1, (hk.cell hlt (hn e)).trans h2, (hk.cell hlt (hn e)).trans h3, (hk.cell hlt (hn e)).trans h4⟩
theorem OwnK.kept {S : Nat → Prop} {w w' : World} {g : Nat} {v : Value} {n : Nat} {K : Nat → Int} (h : OwnK w g v n K) (hk : Kept S w w') (hn : n ≠ 0 → ¬ S g) : OwnK w' g v n K := by
  obtain ⟨a, c, rfl, hb, h0⟩ := h
  by_cases e : n = 0
  · exact ⟨a, c, rfl, hb, .inl e⟩
  rcases h0 with h0 | ⟨rfl, hlt, hat⟩
  · exact absurd h0 e
  · exact ⟨_, c, rfl, hb, .inr ⟨rfl, Nat.lt_of_lt_of_le hlt hk.size, fun i hi => ⟨(hk.cell hlt (hn e)).trans (hat i hi).1, (hk.frozen hlt (hn e)).trans (hat i hi).2⟩⟩⟩
theorem TermOwn.kept {S : Nat → Prop} {w w' : World} {lo hi : Nat} {x : Tc} {y : Tm} (h : TermOwn w lo hi x y) (hk : Kept S w w') (hs : ∀ g, lo ≤ g → g < hi → ¬ S g) : TermOwn w' lo hi x y := by
  obtain ⟨h0, h1, h2, h3, gv, gk, h4, h5, h6, h7, h8⟩ := h
  exact ⟨h0, h1, h2, h3, gv, gk, h4, h5, h6, h7.kept hk (fun h => hs _ (h4 h).1 (h4 h).2), h8.kept hk (fun h => hs _ (h5 h).1 (h5 h).2)⟩
theorem RowAt.kept {S : Nat → Prop} {w w' : World} {b off t : Nat} {R : Nat → Tc} (h : RowAt w b off t R) (hk : Kept S w w') (hB : b < w.heap.size) (hn : ¬ S b) : RowAt w' b off t R := fun i hi => by
  obtain ⟨h0, h1, h2, h3⟩ := h i hi
  exact ⟨(hk.cell hB hn).trans h0, (hk.cell hB hn).trans h1, (hk.cell hB hn).trans h2, (hk.cell hB hn).trans h3⟩
theorem FreeR.kept {S : Nat → Prop} {w w' : World} {b off t : Nat} (h : FreeR w b off t) (hk : Kept S w w') (hB : b < w.heap.size) (hn : ¬ S b) : FreeR w' b off t := fun o ho => (hk.frozen hB hn).trans (h o ho)
theorem FOwn.kept {S : Nat → Prop} {w w' : World} {b : Nat} {a : Option Addr} {t : Nat} {F : Nat → Tm} {P Q : Nat → Nat} (h : FOwn w b a t F P Q) (hk : Kept S w w') (hne : t ≠ 0 → ¬ S b) (hi : ∀ i, i < t → ∀ g, P i ≤ g → g < Q i → ¬ S g) : FOwn w' b a t F P Q := by
  obtain ⟨h1, h2, h3, h4⟩ := h
  refine ⟨h1, ?_, fun i hi => ⟨(h3 i hi).1, Nat.le_trans (h3 i hi).2 hk.size⟩, h4⟩
  by_cases e : t = 0
  · exact .inl e
  rcases h2 with h0 | ⟨e', hlt, R, h5, h6, h7⟩
  · exact .inl h0
  · exact .inr ⟨e', Nat.lt_of_lt_of_le hlt hk.size, R, h5.kept hk hlt (hne e), h6.kept hk hlt (hne e), fun i hi' => (h7 i hi').kept hk (hi i hi')⟩

/-- The blocks of a filter of one's own. -/
def InF (b t : Nat) (P Q : Nat → Nat) (x : Nat) : Prop := x = b ∨ ∃ i, i < t ∧ P i ≤ x ∧ x < Q i

/-- What marks stand ahead of term i, and what it is then. -/
def kAt (F : Nat → Tm) (k0 : Int) : Nat → Int
  | 0 => k0
  | i + 1 => kAt F k0 i + 1 + 1 + 5 * (F i).n + (F i).m
def mkT (F : Nat → Tm) (k0 : Int) (i : Nat) : Tm := ⟨kAt F k0 i, mtext (kAt F k0 i + 1), (F i).n, fun j => mk (kAt F k0 i + 1 + 1 + 5 * j), (F i).m, fun j => kAt F k0 i + 1 + 1 + 5 * (F i).n + j⟩
theorem kAt_bound (F : Nat → Tm) (k0 : Int) : ∀ i, k0 ≤ kAt F k0 i ∧ kAt F k0 i ≤ k0 + 2 * i + 5 * totF F i := by
  intro i
  induction i with
  | zero => simp [kAt, totF]
  | succ i ih => simp only [kAt, totF]; omega
theorem totF_mono (F : Nat → Tm) {i t : Nat} (h : i ≤ t) : totF F i ≤ totF F t := by
  induction t with
  | zero => obtain rfl : i = 0 := by omega
            exact Nat.le_refl _
  | succ t ih =>
    by_cases e : i = t + 1
    · subst e; exact Nat.le_refl _
    · have := ih (by omega)
      simp only [totF]
      omega

/-- One term of a filter of one's own is changed in its place. -/
theorem FOwn.upd {w w' : World} {b t i : Nat} {F : Nat → Tm} {P Q : Nat → Nat} {R : Nat → Tc} {x : Tc} {y : Tm} (h1 : t ≤ 2 ^ 30) (h3 : ∀ i, i < t → (b < P i ∨ Q i ≤ b) ∧ Q i ≤ w.heap.size) (h4 : ∀ i j, i < j → j < t → Q i ≤ P j ∨ Q j ≤ P i)
    (hR : ∀ j, j < t → TermOwn w (P j) (Q j) (R j) (F j)) (hi : i < t) (hk : Kept (fun g => g = b ∨ (P i ≤ g ∧ g < Q i)) w w') (hlt : b < w'.heap.size) (hrow : RowAt w' b 0 t (fun j => if j = i then x else R j)) (hfree : FreeR w' b 0 t) (hx : TermOwn w' (P i) (Q i) x y) :
    FOwn w' b (some ⟨b, 0, none⟩) t (fun j => if j = i then y else F j) P Q := by
  refine ⟨h1, .inr ⟨rfl, hlt, _, hrow, hfree, fun j hj => ?_⟩, fun j hj => ⟨(h3 j hj).1, Nat.le_trans (h3 j hj).2 hk.size⟩, h4⟩
  by_cases e : j = i
  · subst e
    simp only [if_true]
    exact hx
  · simp only [if_neg e]
    refine (hR j hj).kept hk fun g hg1 hg2 hS => ?_
    have b1 := (h3 j hj).1
    rcases hS with rfl | ⟨h5, h6⟩
    · omega
    · by_cases e2 : j < i
      · have := h4 j i e2 hi; omega
      · have := h4 i j (by omega) hj; omega

end Go.Proofs.YtjohocnfcnjciaaGreatDoor
namespace Go.Proofs.YtjohocnfcnjciaaGreatDoor
open Go.RowKit
set_option linter.unusedVariables false

theorem markNodeS_any (g off' c n : Nat) (a : Option Addr) (N : Nat → Nd) (k0 : Int) (w : World) (hk0 : 0 < k0) (hk1 : k0 ≤ 2 ^ 30) (h : OwnAt w g (.slice a n c) n N) :
    Calls Tryz.prog 46 #[.slice a n c, .int .i64 k0] w fun e w' => e = .returned (.int .i64 (k0 + 5 * n)) ∧ BelowBut w.heap.size g w w' ∧ OwnAt w' g (.slice a n c) n (fun i => mk (k0 + 5 * i)) := by
  obtain ⟨a', c', off, e, hn, h0⟩ := h
  injection e with e1 e2 e3
  subst e1 e3
  rcases h0 with rfl | ⟨rfl, hb, hat, hf⟩
  · refine (markNodeS_none a c k0 w).mono ?_
    rintro e w1 ⟨rfl, rfl⟩
    exact ⟨by simp, BelowBut.refl _ _ _, a, c, 0, rfl, hn, .inl rfl⟩
  · refine (markNodeS_some g off c n N k0 w hn hk0 hk1 hb hat hf).mono ?_
    rintro e w1 ⟨rfl, hb1, hat1, hf1⟩
    exact ⟨rfl, hb1, _, c, off, rfl, hn, .inr ⟨rfl, Nat.lt_of_lt_of_le hb hb1.size, hat1, hf1⟩⟩
theorem heldNodeS_arg (c n : Nat) (a : Option Addr) (k0 : Int) (w : World) (hn : n ≤ 2 ^ 30) (hk0 : 0 < k0) (hk1 : k0 ≤ 2 ^ 30) (h : ArgIs w a n (fun i => mk (k0 + 5 * i))) :
    Calls Tryz.prog 75 #[.slice a n c, .int .i64 k0] w fun e w' => e = .returned (.int .i64 (k0 + 5 * n)) ∧ Below w.heap.size w w' := by
  rcases h with rfl | ⟨b, off, rfl, hb, hat⟩
  · refine (heldNodeS_none a c k0 w).mono ?_
    rintro e w1 ⟨rfl, rfl⟩
    exact ⟨by simp, Below.refl _ _⟩
  · exact heldNodeS_some b off c n k0 w hn hk0 hk1 hb hat
theorem markIntS_own (g c n : Nat) (a : Option Addr) (K : Nat → Int) (k0 : Int) (w : World) (hk0 : 0 < k0) (hk1 : k0 ≤ 2 ^ 30) (h : OwnK w g (.slice a n c) n K) :
    Calls Tryz.prog 25 #[.slice a n c, .int .i64 k0] w fun e w' => e = .returned (.int .i64 (k0 + n)) ∧ BelowBut w.heap.size g w w' ∧ OwnK w' g (.slice a n c) n (fun i => k0 + i) := by
  obtain ⟨a', c', e, hn, h0⟩ := h
  injection e with e1 e2 e3
  subst e1 e3
  rcases h0 with rfl | ⟨rfl, hlt, hat⟩
  · refine (markIntS_none a c k0 w).mono ?_
    rintro e w1 ⟨rfl, rfl⟩
    exact ⟨by simp, BelowBut.refl _ _ _, a, c, rfl, hn, .inl rfl⟩
  · refine (markIntS_some g c n K k0 w hn hk0 hk1 hat).mono ?_
    rintro e w1 ⟨rfl, hb, hi⟩
    exact ⟨rfl, hb, _, c, rfl, hn, .inr ⟨rfl, Nat.lt_of_lt_of_le hlt hb.size, hi⟩⟩
theorem heldIntS_own (g c n : Nat) (a : Option Addr) (k0 : Int) (w : World) (hk0 : 0 < k0) (hk1 : k0 ≤ 2 ^ 30) (h : OwnK w g (.slice a n c) n (fun i => k0 + i)) :
    Calls Tryz.prog 26 #[.slice a n c, .int .i64 k0] w fun e w' => e = .returned (.int .i64 (k0 + n)) ∧ Below w.heap.size w w' := by
  obtain ⟨a', c', e, hn, h0⟩ := h
  injection e with e1 e2 e3
  subst e1 e3
  rcases h0 with rfl | ⟨rfl, hlt, hat⟩
  · refine (heldIntS_none a c k0 w).mono ?_
    rintro e w1 ⟨rfl, rfl⟩
    exact ⟨by simp, Below.refl _ _⟩
  · exact heldIntS_some g c n k0 w hn hk0 hk1 hat

/-- A term is marked in its place. -/
theorem mark_term {wr w2 w3 w4 : World} {b t j gv gk : Nat} {G : Nat → Tm} {P Q : Nat → Nat} {R : Nat → Tc} {x : Int} {s : ByteArray} {N' : Nat → Nd} {K' : Nat → Int}
    (h1 : t ≤ 2 ^ 30) (h3 : ∀ i, i < t → (b < P i ∨ Q i ≤ b) ∧ Q i ≤ wr.heap.size) (h4 : ∀ i j, i < j → j < t → Q i ≤ P j ∨ Q j ≤ P i) (hrow : RowAt wr b 0 t R) (hfree : FreeR wr b 0 t) (hR : ∀ i, i < t → TermOwn wr (P i) (Q i) (R i) (G i)) (hj : j < t) (hb : b < wr.heap.size)
    (B2 : Below (wr.setCell ⟨b, j * 4, none⟩ (.int .i64 x)).heap.size (wr.setCell ⟨b, j * 4, none⟩ (.int .i64 x)) w2)
    (B3 : BelowBut (w2.setCell ⟨b, j * 4 + 1, none⟩ (.string s)).heap.size gv (w2.setCell ⟨b, j * 4 + 1, none⟩ (.string s)) w3) (B4 : BelowBut w3.heap.size gk w3 w4)
    (hgv : (P j ≤ gv ∧ gv < Q j) ∨ w2.heap.size ≤ gv) (hgk : (P j ≤ gk ∧ gk < Q j) ∨ w3.heap.size ≤ gk) (hv : (G j).n ≠ 0 → P j ≤ gv ∧ gv < Q j) (hk : (G j).m ≠ 0 → P j ≤ gk ∧ gk < Q j) (hk0 : (G j).m = 0 → w3.heap.size ≤ gk) (hne : (G j).n ≠ 0 → (G j).m ≠ 0 → gv ≠ gk)
    (ho : OwnAt w3 gv (.slice (R j).va (R j).vn (R j).vc) (G j).n N') (hok : OwnK w4 gk (.slice (R j).ka (R j).km (R j).kc) (G j).m K') :
    FOwn w4 b (some ⟨b, 0, none⟩) t (fun i => if i = j then ⟨x, s, (G j).n, N', (G j).m, K'⟩ else G i) P Q ∧ Kept (fun g => g = b ∨ (P j ≤ g ∧ g < Q j)) wr w4 := by
  have hQ := (h3 j hj).2
  have hbP := (h3 j hj).1
  have z1 : (wr.setCell ⟨b, j * 4, none⟩ (.int .i64 x)).heap.size = wr.heap.size := by simp [World.setCell]
  have z2 := B2.size
  rw [z1] at z2
  have z2' : (w2.setCell ⟨b, j * 4 + 1, none⟩ (.string s)).heap.size = w2.heap.size := by simp [World.setCell]
  have z3 := B3.size
  rw [z2'] at z3
  have z4 := B4.size
  have bv : b ≠ gv := by omega
  have bk : b ≠ gk := by omega
  obtain ⟨a0, a1, a2, a3⟩ := hrow j hj
  simp only [Nat.zero_add] at a0 a1
  have K1 : Kept (fun g => g = b ∨ (P j ≤ g ∧ g < Q j)) wr (wr.setCell ⟨b, j * 4, none⟩ (.int .i64 x)) := Kept.but (b := b) (BelowBut.setCell _ _ _) (.inl (.inl rfl))
  have K2 : Kept (fun g => g = b ∨ (P j ≤ g ∧ g < Q j)) (wr.setCell ⟨b, j * 4, none⟩ (.int .i64 x)) w2 := Kept.of B2
  have K3 : Kept (fun g => g = b ∨ (P j ≤ g ∧ g < Q j)) w2 (w2.setCell ⟨b, j * 4 + 1, none⟩ (.string s)) := Kept.but (b := b) (BelowBut.setCell _ _ _) (.inl (.inl rfl))
  have K4 : Kept (fun g => g = b ∨ (P j ≤ g ∧ g < Q j)) (w2.setCell ⟨b, j * 4 + 1, none⟩ (.string s)) w3 := Kept.but B3 (by rcases hgv with h | h; exact .inl (.inr h); exact .inr (by omega))
  have K5 : Kept (fun g => g = b ∨ (P j ≤ g ∧ g < Q j)) w3 w4 := Kept.but B4 (by rcases hgk with h | h; exact .inl (.inr h); exact .inr h)
  have KK := (((K1.trans K2).trans K3).trans K4).trans K5
  have c2 : ∀ o, w2.cell? ⟨b, o, none⟩ = if o = j * 4 then some (.int .i64 x) else wr.cell? ⟨b, o, none⟩ := fun o => by
    rw [B2.cell (p := ⟨b, o, none⟩) (by rw [z1]; exact hb), cell_set (by rw [a0]; rfl)]
  have c4 : ∀ o, w4.cell? ⟨b, o, none⟩ = if o = j * 4 + 1 then some (.string s) else if o = j * 4 then some (.int .i64 x) else wr.cell? ⟨b, o, none⟩ := fun o => by
    rw [B4.cell (by omega) bk, B3.cell (by omega) bv, cell_set (by rw [c2, if_neg (by omega), a1]; rfl), c2]
  refine ⟨FOwn.upd (R := R) (x := ⟨x, s, (R j).va, (R j).vn, (R j).vc, (R j).ka, (R j).km, (R j).kc⟩) h1 h3 h4 hR hj KK (by omega) (fun i hi => ?_) (fun o ho' => ?_) ?_, KK⟩
  · simp only [c4]
    by_cases e : i = j
    · subst e
      simp only [if_true, Nat.zero_add]
      refine ⟨?_, ?_, ?_, ?_⟩
      · rw [if_neg (by omega)]
      · trivial
      · rw [if_neg (by omega), if_neg (by omega)]; simpa using a2
      · rw [if_neg (by omega), if_neg (by omega)]; simpa using a3
    · obtain ⟨d0, d1, d2, d3⟩ := hrow i hi
      simp only [if_neg e]
      refine ⟨?_, ?_, ?_, ?_⟩
      · rw [if_neg (by omega), if_neg (by omega), d0]
      · rw [if_neg (by omega), if_neg (by omega), d1]
      · rw [if_neg (by omega), if_neg (by omega), d2]
      · rw [if_neg (by omega), if_neg (by omega), d3]
  · rw [B4.frozen (by omega) bk, B3.frozen (by omega) bv, World.frozen?_setCell, B2.frozen (p := ⟨b, _, none⟩) (by rw [z1]; exact hb), World.frozen?_setCell]
    exact hfree o ho'
  · obtain ⟨_, _, q2, q3, gv0, gk0, _, _, _, _, _⟩ := hR j hj
    refine ⟨rfl, rfl, q2, q3, gv, gk, hv, hk, hne, ho.butN B4 (fun hn => ?_), hok⟩
    by_cases m0 : (G j).m = 0
    · have := hk0 m0
      have := hv hn
      omega
    · exact hne hn m0

/-- The first i terms are marked. -/
def mkTo (F : Nat → Tm) (k0 : Int) (i : Nat) (j : Nat) : Tm := if j < i then mkT F k0 j else F j
theorem mkTo_zero (F : Nat → Tm) (k0 : Int) : mkTo F k0 0 = F := by
  funext j
  simp [mkTo]
theorem mkTo_step (F : Nat → Tm) (k0 : Int) (i : Nat) : (fun j => if j = i then mkT F k0 i else mkTo F k0 i j) = mkTo F k0 (i + 1) := by
  funext j
  unfold mkTo
  by_cases e : j = i
  · subst e; simp
  · by_cases h : j < i
    · have : j < i + 1 := by omega
      simp [e, h, this]
    · have : ¬ j < i + 1 := by omega
      simp [e, h, this]

set_option maxRecDepth 100000 in
set_option maxHeartbeats 4000000 in
theorem markTermS_any (b c t : Nat) (a : Option Addr) (F : Nat → Tm) (P Q : Nat → Nat) (k0 : Int) (w : World) (hk0 : 0 < k0) (hk1 : k0 ≤ 2 ^ 24) (ht : t ≤ 2 ^ 20) (htot : totF F t ≤ 2 ^ 22) (h : FOwn w b a t F P Q) :
    Calls Tryz.prog 44 #[.slice a t c, .int .i64 k0] w fun e w' => e = .returned (.int .i64 (kAt F k0 t)) ∧ Kept (InF b t P Q) w w' ∧ FOwn w' b a t (mkTo F k0 t) P Q := by
  have H : Hid (FOwn w b a t F P Q) := h
  clear h
  go_enter Tryz.func44, Tryz.ntmps44
  go_wp2_with fail
  go_loopw [1, 5] (fun k i wr => ∃ j : Nat, j ≤ t ∧ i = .int .i64 (j : Int) ∧ k = .int .i64 (kAt F k0 j) ∧ Kept (InF b t P Q) w wr ∧ Hid (FOwn wr b a t (mkTo F k0 j) P Q)) (fun _ i _ => t - (intOf i).toNat)
  case atStart => exact ⟨0, Nat.zero_le _, rfl, rfl, Kept.refl _ _, by rw [mkTo_zero]; exact H⟩
  case round =>
    obtain ⟨j, hj, rfl, rfl, hkp, HF⟩ := hrel
    by_cases hlt : j < t
    · have hmk : mkTo F k0 j j = F j := by simp [mkTo]
      obtain ⟨h1, h2, h3, h4⟩ := HF.out
      rcases h2 with h0 | ⟨rfl, hbl, R, hrow, hfree, hR⟩
      · omega
      obtain ⟨g0, g1, g2, g3⟩ := hrow j hlt
      have f0 := hfree (j * 4) (by omega)
      have f1 := hfree (j * 4 + 1) (by omega)
      simp only [Nat.zero_add] at g0 g1 g2 g3 f0 f1
      obtain ⟨_, _, _, _, gv, gk, q4, q5, q6, q7, q8⟩ := hR j hlt
      rw [hmk] at q4 q5 q6 q7 q8
      obtain ⟨e1, _⟩ := q7.argOf
      obtain ⟨e2, _⟩ := q8.arg
      have kb := kAt_bound F k0 j
      have tb1 := totF_mono F (show j + 1 ≤ t by omega)
      simp only [totF] at tb1
      have HST : Hid ((fun i => if i = j then mkT F k0 j else mkTo F k0 j i) = mkTo F k0 (j + 1)) := mkTo_step F k0 j
      have HKA : Hid (kAt F k0 (j + 1) = kAt F k0 j + 1 + 1 + 5 * (F j).n + (F j).m) := rfl
      have HMT : Hid (mkT F k0 j = ⟨kAt F k0 j, mtext (kAt F k0 j + 1), (F j).n, fun i => mk (kAt F k0 j + 1 + 1 + 5 * i), (F j).m, fun i => kAt F k0 j + 1 + 1 + 5 * (F j).n + i⟩) := rfl
      have HRW : Hid (RowAt wr b 0 t R ∧ FreeR wr b 0 t ∧ (∀ i, i < t → TermOwn wr (P i) (Q i) (R i) (mkTo F k0 j i)) ∧ (∀ i, i < t → (b < P i ∨ Q i ≤ b) ∧ Q i ≤ wr.heap.size) ∧ t ≤ 2 ^ 30 ∧ ∀ i j, i < j → j < t → Q i ≤ P j ∨ Q j ≤ P i) := ⟨hrow, hfree, hR, h3, h1, h4⟩
      have HQ7 : Hid (OwnAt wr gv (.slice (R j).va (R j).vn (R j).vc) (F j).n (F j).N) := q7
      have HQ8 : Hid (OwnK wr gk (.slice (R j).ka (R j).km (R j).kc) (F j).m (F j).K) := q8
      have HQ4 : Hid ((F j).n ≠ 0 → P j ≤ gv ∧ gv < Q j) := q4
      have HQ5 : Hid ((F j).m ≠ 0 → P j ≤ gk ∧ gk < Q j) := q5
      have HQ6 : Hid ((F j).n ≠ 0 → (F j).m ≠ 0 → gv ≠ gk) := q6
      have HKP : Hid (Kept (InF b t P Q) w wr) := hkp
      have hQ := h3 j hlt
      rw [e1] at g2
      rw [e2] at g3
      obtain ⟨kk, hkk⟩ : ∃ kk, kk = kAt F k0 j := ⟨_, rfl⟩
      rw [← hkk] at kb HKA HMT
      rw [← hkk]
      have i0 : (0 : Int) ≤ (j : Int) := by omega
      have i1 : (j : Int) < (t : Int) := by omega
      clear hrow hfree hR h3 h1 h4 q4 q5 q6 q7 q8 hkp hmk hkk
      go_wp2_with fail
      refine (markText_any (kk + 1) _ (by omega) (by omega)).mono ?_
      rintro e w2 ⟨rfl, hb2⟩
      have z2 : wr.heap.size ≤ w2.heap.size := by have := hb2.size; simpa [World.setCell] using this
      have hbz : b < (wr.setCell ⟨b, j * 4, none⟩ (.int .i64 kk)).heap.size := by simpa [World.setCell] using hbl
      have C2 : ∀ o, w2.cell? ⟨b, o, none⟩ = if o = j * 4 then some (.int .i64 kk) else wr.cell? ⟨b, o, none⟩ := fun o => by rw [hb2.cell (p := ⟨b, o, none⟩) hbz, cell_set (by rw [g0]; rfl)]
      have c1 : w2.cell? ⟨b, j * 4 + 1, none⟩ = some (.string (R j).path) := by rw [C2, if_neg (by omega)]; exact g1
      have c2 : w2.cell? ⟨b, j * 4 + 2, none⟩ = some (.slice (R j).va (F j).n (R j).vc) := by rw [C2, if_neg (by omega)]; exact g2
      have c3 : w2.cell? ⟨b, j * 4 + 3, none⟩ = some (.slice (R j).ka (F j).m (R j).kc) := by rw [C2, if_neg (by omega)]; exact g3
      have f1' : w2.frozen? ⟨b, j * 4 + 1, none⟩ = false := by rw [hb2.frozen (p := ⟨b, _, none⟩) hbz, World.frozen?_setCell]; exact f1
      have HB2 : Hid (Below (wr.setCell ⟨b, j * 4, none⟩ (.int .i64 kk)).heap.size (wr.setCell ⟨b, j * 4, none⟩ (.int .i64 kk)) w2) := hb2
      have hb2w : b < w2.heap.size := by omega
      obtain ⟨S2, hS2⟩ : ∃ S2, S2 = mtext (kk + 1) := ⟨_, rfl⟩
      rw [← hS2] at HMT
      rw [← hS2]
      clear hb2 C2 g0 g1 g2 g3 f0 f1 hS2
      go_wp2_with fail
      obtain ⟨gv', hgv', hv', hn0', ho'⟩ : ∃ g, ((P j ≤ g ∧ g < Q j) ∨ w2.heap.size ≤ g) ∧ ((F j).n ≠ 0 → g = gv) ∧ ((F j).n = 0 → w2.heap.size ≤ g) ∧ OwnAt (w2.setCell ⟨b, j * 4 + 1, none⟩ (.string S2)) g (.slice (R j).va (F j).n (R j).vc) (F j).n (F j).N := by
        by_cases n0 : (F j).n = 0
        · obtain ⟨a', c', off', e, hn', _⟩ := HQ7.out
          injection e with e3 e4 e5
          exact ⟨w2.heap.size, .inr (Nat.le_refl _), fun h => absurd n0 h, fun _ => Nat.le_refl _, (R j).va, (R j).vc, off', rfl, hn', .inl n0⟩
        · have hq := HQ4.out n0
          have h7 := HQ7.out
          rw [e1] at h7
          exact ⟨gv, .inl hq, fun _ => rfl, fun h => absurd h n0, ((h7.but (BelowBut.setCell _ _ _) (by omega)).below HB2.out).but (BelowBut.setCell _ _ _) (by omega)⟩
      refine (markNodeS_any gv' 0 (R j).vc (F j).n (R j).va (F j).N (kk + 1 + 1) _ (by omega) (by omega) ho').mono ?_
      rintro e w3 ⟨rfl, hb3, ho3⟩
      have z3 : w2.heap.size ≤ w3.heap.size := by have := hb3.size; simpa [World.setCell] using this
      have d3 : w3.cell? ⟨b, j * 4 + 3, none⟩ = some (.slice (R j).ka (F j).m (R j).kc) := by
        rw [hb3.cell (by simpa [World.setCell] using hb2w) (by omega), cell_set (by rw [c1]; rfl), if_neg (by omega)]
        exact c3
      have HB3 : Hid (BelowBut (w2.setCell ⟨b, j * 4 + 1, none⟩ (.string S2)).heap.size gv' (w2.setCell ⟨b, j * 4 + 1, none⟩ (.string S2)) w3) := hb3
      have HO3 : Hid (OwnAt w3 gv' (.slice (R j).va (F j).n (R j).vc) (F j).n (fun i => mk (kk + 1 + 1 + 5 * i))) := ho3
      clear hb3 ho3 c1 c2 c3 f1' ho'
      go_wp2_with fail
      obtain ⟨gk', hgk', hk', hk0', hok'⟩ : ∃ g, ((P j ≤ g ∧ g < Q j) ∨ w3.heap.size ≤ g) ∧ ((F j).m ≠ 0 → g = gk) ∧ ((F j).m = 0 → w3.heap.size ≤ g) ∧ OwnK w3 g (.slice (R j).ka (F j).m (R j).kc) (F j).m (F j).K := by
        by_cases m0 : (F j).m = 0
        · obtain ⟨a', c', e, hn', _⟩ := HQ8.out
          exact ⟨w3.heap.size, .inr (Nat.le_refl _), fun h => absurd m0 h, fun _ => Nat.le_refl _, (R j).ka, (R j).kc, rfl, hn', .inl m0⟩
        · have hq := HQ5.out m0
          have h8 := HQ8.out
          rw [e2] at h8
          refine ⟨gk, .inl hq, fun _ => rfl, fun h => absurd h m0, (((h8.but (BelowBut.setCell _ _ _) (fun _ => by omega)).below HB2.out).but (BelowBut.setCell _ _ _) (fun _ => by omega)).but HB3.out (fun _ => ?_)⟩
          by_cases n0 : (F j).n = 0
          · rcases hgv' with h | h
            · have := hn0' n0
              omega
            · omega
          · have := hv' n0
            have := HQ6.out n0 m0
            omega
      refine (markIntS_own gk' (R j).kc (F j).m (R j).ka (F j).K _ _ (by omega) (by omega) hok').mono ?_
      rintro e w4 ⟨rfl, hb4, ho4⟩
      have HB4 : Hid (BelowBut w3.heap.size gk' w3 w4) := hb4
      have HO4 : Hid (OwnK w4 gk' (.slice (R j).ka (F j).m (R j).kc) (F j).m (fun i => kk + 1 + 1 + 5 * (F j).n + i)) := ho4
      clear hb4 ho4 hok' d3
      have hmk : mkTo F k0 j j = F j := by simp [mkTo]
      obtain ⟨m1, m2, m3, m4, m5, m6⟩ := HRW.out
      obtain ⟨r1, r2⟩ := mark_term (G := mkTo F k0 j) (x := kk) (s := S2) (gv := gv') (gk := gk') (N' := fun i => mk (kk + 1 + 1 + 5 * i)) (K' := fun i => kk + 1 + 1 + 5 * (F j).n + i) m5 m4 m6 m1 m2 m3 hlt hbl HB2.out HB3.out HB4.out hgv' hgk' (by rw [hmk]; exact fun h => by rw [hv' h]; exact HQ4.out h) (by rw [hmk]; exact fun h => by rw [hk' h]; exact HQ5.out h) (by rw [hmk]; exact hk0') (by rw [hmk]; exact fun h1 h2 => by rw [hv' h1, hk' h2]; exact HQ6.out h1 h2) (by rw [hmk, e1]; exact HO3.out) (by rw [hmk, e2]; exact HO4.out)
      rw [hmk] at r1
      have HR1 : Hid (FOwn w4 b (some ⟨b, 0, none⟩) t (mkTo F k0 (j + 1)) P Q) := by
        rw [← HST.out, HMT.out]
        exact r1
      have HR2 : Hid (Kept (InF b t P Q) w w4) := HKP.out.trans (r2.mono fun g hg => by
        rcases hg with h | h
        · exact .inl h
        · exact .inr ⟨j, hlt, h⟩)
      clear r1 r2 m1 m2 m3 m4 m5 m6 hmk
      go_wp2
      go_roundw
      case rel => exact ⟨j + 1, by omega, by go_num, by rw [HKA.out], HR2.out, HR1⟩
      case measure => simp [intOf]; omega
    · obtain rfl : j = t := by omega
      go_wp2
      go_ret
      exact ⟨rfl, hkp, HF.out⟩

end Go.Proofs.YtjohocnfcnjciaaGreatDoor
namespace Go.Proofs.YtjohocnfcnjciaaGreatDoor
open Go.RowKit
set_option linter.unusedVariables false

set_option maxRecDepth 100000 in
set_option maxHeartbeats 4000000 in
theorem heldTermS_any (b c t : Nat) (a : Option Addr) (F : Nat → Tm) (P Q : Nat → Nat) (k0 : Int) (w : World) (hk0 : 0 < k0) (hk1 : k0 ≤ 2 ^ 24) (ht : t ≤ 2 ^ 20) (htot : totF F t ≤ 2 ^ 22) (h : FOwn w b a t (mkTo F k0 t) P Q) :
    Calls Tryz.prog 45 #[.slice a t c, .int .i64 k0] w fun e w' => e = .returned (.int .i64 (kAt F k0 t)) ∧ Below w.heap.size w w' := by
  have H : Hid (FOwn w b a t (mkTo F k0 t) P Q) := h
  clear h
  go_enter Tryz.func45, Tryz.ntmps45
  go_wp2_with fail
  go_loopw [1, 5] (fun k i wr => ∃ j : Nat, j ≤ t ∧ i = .int .i64 (j : Int) ∧ k = .int .i64 (kAt F k0 j) ∧ Below w.heap.size w wr) (fun _ i _ => t - (intOf i).toNat)
  case atStart => exact ⟨0, Nat.zero_le _, rfl, rfl, Below.refl _ _⟩
  case round =>
    obtain ⟨j, hj, rfl, rfl, hnx⟩ := hrel
    by_cases hlt : j < t
    · have hmk : mkTo F k0 t j = mkT F k0 j := by simp [mkTo, hlt]
      obtain ⟨h1, h2, h3, h4⟩ := H.out.below hnx
      rcases h2 with h0 | ⟨rfl, hbl, R, hrow, hfree, hR⟩
      · omega
      obtain ⟨g0, g1, g2, g3⟩ := hrow j hlt
      simp only [Nat.zero_add] at g0 g1 g2 g3
      have hRj := hR j hlt
      rw [hmk] at hRj
      obtain ⟨e0, e1, _, _, gv, gk, _, _, _, q7, q8⟩ := hRj
      dsimp only [mkT] at e0 e1 q7 q8
      obtain ⟨e2, q7'⟩ := q7.argOf
      obtain ⟨e3, _⟩ := q8.arg
      rw [e0] at g0
      rw [e1] at g1
      rw [e2] at g2
      rw [e3] at g3 q8
      have kb := kAt_bound F k0 j
      have tb1 := totF_mono F (show j + 1 ≤ t by omega)
      simp only [totF] at tb1
      have HKA : Hid (kAt F k0 (j + 1) = kAt F k0 j + 1 + 1 + 5 * (F j).n + (F j).m) := rfl
      have HQ7 : Hid (ArgIs wr (R j).va (F j).n (fun i => mk (kAt F k0 j + 1 + 1 + 5 * i))) := q7'
      have HQ8 : Hid (OwnK wr gk (.slice (R j).ka (F j).m (R j).kc) (F j).m (fun i => kAt F k0 j + 1 + 1 + 5 * (F j).n + i)) := q8
      have HNX : Hid (Below w.heap.size w wr) := hnx
      obtain ⟨kk, hkk⟩ : ∃ kk, kk = kAt F k0 j := ⟨_, rfl⟩
      rw [← hkk] at kb HKA HQ7 HQ8 g0 g1
      rw [← hkk]
      have i0 : (0 : Int) ≤ (j : Int) := by omega
      have i1 : (j : Int) < (t : Int) := by omega
      clear hrow hfree hR h3 h1 h4 q7 q7' q8 hnx hmk hkk e0 e1 e2 e3
      obtain ⟨S2, hS2⟩ : ∃ S2, S2 = mtext (kk + 1) := ⟨_, rfl⟩
      rw [← hS2] at g1
      go_wp2_with fail
      go_region_held3 (fun w' => w'.cell? ⟨b, j * 4 + 1, none⟩ = some (.string S2)) (first | exact g1 | exact (hc1 _ _ hbl).trans g1)
        (first | (go_at_call 74; refine (markText_any (kk + 1) _ (by omega) (by omega)).mono ?_; rw [← hS2]; rintro e w1 ⟨rfl, hb1⟩; obtain ⟨hc1, hf1⟩ := bcell hb1))
      have z1 : wr.heap.size ≤ w1.heap.size := hb1.size
      have B1 : Below wr.heap.size wr w1 := (Below.drew (Below.refl wr.heap.size wr)).trans hb1
      have d2 : w1.cell? ⟨b, j * 4 + 2, none⟩ = some (.slice (R j).va (F j).n (R j).vc) := (hc1 _ _ hbl).trans g2
      have d3 : w1.cell? ⟨b, j * 4 + 3, none⟩ = some (.slice (R j).ka (F j).m (R j).kc) := (hc1 _ _ hbl).trans g3
      have HQ71 : Hid (ArgIs w1 (R j).va (F j).n (fun i => mk (kk + 1 + 1 + 5 * i))) := HQ7.out.below B1
      have HQ81 : Hid (OwnK w1 gk (.slice (R j).ka (F j).m (R j).kc) (F j).m (fun i => kk + 1 + 1 + 5 * (F j).n + i)) := HQ8.out.below B1
      have HB1 : Hid (Below w.heap.size w w1) := HNX.out.trans (B1.mono HNX.out.size)
      clear hb1 hc1 hf1 B1 g0 g1 g2 g3 HQ7 HQ8 hS2
      go_wp2_with fail
      refine (heldNodeS_arg (R j).vc (F j).n (R j).va (kk + 1 + 1) _ (by omega) (by omega) (by omega) HQ71.out).mono ?_
      rintro e w2 ⟨rfl, hb2⟩
      have z2 := hb2.size
      have c3 : w2.cell? ⟨b, j * 4 + 3, none⟩ = some (.slice (R j).ka (F j).m (R j).kc) := (hb2.cell (by show b < _; omega)).trans d3
      have HQ82 : Hid (OwnK w2 gk (.slice (R j).ka (F j).m (R j).kc) (F j).m (fun i => kk + 1 + 1 + 5 * (F j).n + i)) := HQ81.out.below hb2
      have HB2 : Hid (Below w.heap.size w w2) := HB1.out.trans (hb2.mono HB1.out.size)
      have nk : ¬ kk + 1 + 1 + 5 * ((F j).n : Int) < 0 := by omega
      clear hb2 d2 d3 HQ71 HQ81
      go_wp2_with fail
      refine (heldIntS_own gk (R j).kc (F j).m (R j).ka (kk + 1 + 1 + 5 * (F j).n) _ (by omega) (by omega) HQ82.out).mono ?_
      rintro e w3 ⟨rfl, hb3⟩
      have HB3 : Hid (Below w.heap.size w w3) := HB2.out.trans (hb3.mono HB2.out.size)
      have nk2 : ¬ kk + 1 + 1 + 5 * ((F j).n : Int) + ((F j).m : Int) < 0 := by omega
      clear hb3 c3 HQ82
      go_wp2
      go_roundw
      case rel => exact ⟨j + 1, by omega, by go_num, by rw [HKA.out], HB3.out⟩
      case measure => simp [intOf]; omega
    · obtain rfl : j = t := by omega
      go_wp2
      go_ret
      exact ⟨rfl, hnx⟩

set_option maxHeartbeats 1000000 in
theorem markFilter_any (b c t : Nat) (a : Option Addr) (F : Nat → Tm) (P Q : Nat → Nat) (k0 : Int) (w : World) (hk0 : 0 < k0) (hk1 : k0 ≤ 2 ^ 24) (ht : t ≤ 2 ^ 20) (htot : totF F t ≤ 2 ^ 22) (h : FOwn w b a t F P Q) :
    Calls Tryz.prog 16 #[.agg #[.slice a t c], .int .i64 k0] w fun e w' => e = .returned (.int .i64 (kAt F k0 t)) ∧ Kept (InF b t P Q) w w' ∧ FOwn w' b a t (mkTo F k0 t) P Q := by
  have H : Hid (FOwn w b a t F P Q) := h
  clear h
  have hal : ∀ o, Below w.heap.size w (w.alloc o) := fun o => (Below.refl _ _).alloc (Nat.le_refl _) o
  go_enter Tryz.func16, Tryz.ntmps16
  go_wp2_with fail
  refine (markTermS_any b c t a F P Q k0 _ hk0 hk1 ht htot (H.out.below (hal _))).mono ?_
  rintro e w1 ⟨rfl, hk, hF⟩
  have HK : Hid (Kept (InF b t P Q) w w1) := (Kept.of (hal _)).trans hk
  have HF : Hid (FOwn w1 b a t (mkTo F k0 t) P Q) := hF
  clear hk hF hal
  go_wp2
  go_ret
  exact ⟨rfl, HK.out, HF.out⟩

set_option maxHeartbeats 1000000 in
theorem heldFilter_any (b c t : Nat) (a : Option Addr) (F : Nat → Tm) (P Q : Nat → Nat) (k0 : Int) (w : World) (hk0 : 0 < k0) (hk1 : k0 ≤ 2 ^ 24) (ht : t ≤ 2 ^ 20) (htot : totF F t ≤ 2 ^ 22) (h : FOwn w b a t (mkTo F k0 t) P Q) :
    Calls Tryz.prog 17 #[.agg #[.slice a t c], .int .i64 k0] w fun e w' => e = .returned (.int .i64 (kAt F k0 t)) ∧ Below w.heap.size w w' := by
  have H : Hid (FOwn w b a t (mkTo F k0 t) P Q) := h
  clear h
  have hal : ∀ o, Below w.heap.size w (w.alloc o) := fun o => (Below.refl _ _).alloc (Nat.le_refl _) o
  have kb := kAt_bound F k0 t
  have nk : ¬ kAt F k0 t < 0 := by omega
  go_enter Tryz.func17, Tryz.ntmps17
  go_wp2_with fail
  refine (heldTermS_any b c t a F P Q k0 _ hk0 hk1 ht htot (H.out.below (hal _))).mono ?_
  rintro e w1 ⟨rfl, hb⟩
  have HB : Hid (Below w.heap.size w w1) := (hal _).trans (hb.mono (by simp))
  clear hb hal
  go_wp2
  go_ret
  exact ⟨rfl, HB.out⟩

end Go.Proofs.YtjohocnfcnjciaaGreatDoor
namespace Go.Proofs.YtjohocnfcnjciaaGreatDoor
open Go.RowKit
set_option linter.unusedVariables false

set_option maxHeartbeats 400000 in
theorem eqIntS_at (g1 o1 c1 g2 o2 c2 n : Nat) (f : Nat → Int) (w : World) (hn : n ≤ 2 ^ 40) (hb1 : g1 < w.heap.size) (hb2 : g2 < w.heap.size) (h1 : ∀ i, i < n → w.cell? ⟨g1, o1 + i, none⟩ = some (.int .i64 (f i))) (h2 : ∀ i, i < n → w.cell? ⟨g2, o2 + i, none⟩ = some (.int .i64 (f i))) :
    Calls Tryz.prog 22 #[.slice (some ⟨g1, o1, none⟩) n c1, .slice (some ⟨g2, o2, none⟩) n c2] w fun e w' => e = .returned (.bool true) ∧ Below w.heap.size w w' := by
  have H1 : Hid (∀ i, i < n → w.cell? ⟨g1, o1 + i, none⟩ = some (.int .i64 (f i))) := h1
  have H2 : Hid (∀ i, i < n → w.cell? ⟨g2, o2 + i, none⟩ = some (.int .i64 (f i))) := h2
  clear h1 h2
  go_enter Tryz.func22, Tryz.ntmps22
  go_wp2_with fail
  go_loopw [5] (fun i wr => ∃ k : Nat, k ≤ n ∧ i = .int .i64 k ∧ Below w.heap.size w wr) (fun i _ => n - (intOf i).toNat)
  case atStart => exact ⟨0, Nat.zero_le _, rfl, Below.refl _ _⟩
  case round =>
    obtain ⟨k, hk, rfl, hnx⟩ := hrel
    by_cases hlt : k < n
    · have a0 := (hnx.cell hb1).trans (H1.out k hlt)
      have d0 := (hnx.cell hb2).trans (H2.out k hlt)
      have i0 : (0 : Int) ≤ (k : Int) := by omega
      have i1 : (k : Int) < (n : Int) := by omega
      go_wp2_with fail
      go_region_held3 (fun w' => w'.cell? ⟨g1, o1 + k, none⟩ = some (.int .i64 (f k)) ∧ w'.cell? ⟨g2, o2 + k, none⟩ = some (.int .i64 (f k))) (exact ⟨a0, d0⟩) (fail)
      go_wp2
      go_roundw
      case rel => exact ⟨k + 1, by omega, by go_num, hnx.drew⟩
      case measure => simp [intOf]; omega
    · go_wp2
      go_ret
      exact ⟨rfl, hnx⟩

set_option maxHeartbeats 400000 in
theorem eqIntS_zero (a1 a2 : Option Addr) (c1 c2 : Nat) (w : World) :
    Calls Tryz.prog 22 #[.slice a1 0 c1, .slice a2 0 c2] w fun e w' => e = .returned (.bool true) ∧ Below w.heap.size w w' := by
  go_enter Tryz.func22, Tryz.ntmps22
  go_wp2
  go_rounds 1
  go_ret
  exact ⟨rfl, by go_grown⟩

theorem eqIntS_arg (a1 a2 : Option Addr) (c1 c2 n : Nat) (f : Nat → Int) (w : World) (hn : n ≤ 2 ^ 40) (h1 : ArgI w a1 n f) (h2 : ArgI w a2 n f) :
    Calls Tryz.prog 22 #[.slice a1 n c1, .slice a2 n c2] w fun e w' => e = .returned (.bool true) ∧ Below w.heap.size w w' := by
  rcases h1 with rfl | ⟨b1, o1, rfl, q1, h1⟩
  · exact eqIntS_zero a1 a2 c1 c2 w
  · rcases h2 with rfl | ⟨b2, o2, rfl, q2, h2⟩
    · exact eqIntS_zero _ a2 c1 c2 w
    · exact eqIntS_at b1 o1 c1 b2 o2 c2 n f w hn q1 q2 h1 h2


/-- Its lengths are no greater than memory's. -/
def FitT (x : Tm) : Prop := x.n ≤ 2 ^ 40 ∧ x.m ≤ 2 ^ 40
theorem SmallT.fit {x : Tm} (h : SmallT x) : FitT x := ⟨by have := h.2.1.1; omega, by have := h.2.2; omega⟩

set_option maxHeartbeats 1000000 in
theorem eqTerm_same (y : Tm) (va ka va' ka' : Option Addr) (vc kc vc' kc' : Nat) (w : World) (hf : FitT y) (hv : ArgIs w va y.n y.N) (hk : ArgI w ka y.m y.K) (hv' : ArgIs w va' y.n y.N) (hk' : ArgI w ka' y.m y.K) :
    Calls Tryz.prog 67 #[.agg #[.int .i64 y.kind, .string y.path, .slice va y.n vc, .slice ka y.m kc], .agg #[.int .i64 y.kind, .string y.path, .slice va' y.n vc', .slice ka' y.m kc']] w fun e w' => e = .returned (.bool true) ∧ Below w.heap.size w w' := by
  obtain ⟨k, p, n, N, m, K⟩ := y
  obtain ⟨f1, f2⟩ := hf
  dsimp only at hv hk hv' hk' f1 f2 ⊢
  have HV : Hid (ArgIs w va n N) := hv
  have HK : Hid (ArgI w ka m K) := hk
  have HV' : Hid (ArgIs w va' n N) := hv'
  have HK' : Hid (ArgI w ka' m K) := hk'
  have HF : Hid (n ≤ 2 ^ 40 ∧ m ≤ 2 ^ 40) := ⟨f1, f2⟩
  clear hv hk hv' hk' f1 f2
  have hbl0 : ∀ o o', Below w.heap.size w ((w.alloc o).alloc o') := fun o o' => ((Below.refl _ _).alloc (Nat.le_refl _) o).alloc (by simp) o'
  go_enter Tryz.func67, Tryz.ntmps67
  go_wp2_with fail
  refine (eqValue_any _ _ n N _ ((HV.out.below (hbl0 _ _)).slice HF.out.1) ((HV'.out.below (hbl0 _ _)).slice HF.out.1)).mono ?_
  rintro e w1 ⟨rfl, hb⟩
  have x1 : w1.cell? ⟨w.heap.size, 3, none⟩ = some (.slice ka m kc) := by rw [hb.cell (by simp; omega)]; simp [go_sem]
  have y1 : w1.cell? ⟨w.heap.size + 1, 3, none⟩ = some (.slice ka' m kc') := by rw [hb.cell (by simp)]; simp [go_sem]
  have HB : Hid (Below w.heap.size w w1) := (hbl0 _ _).trans (hb.mono (by simp; omega))
  clear hb hbl0
  go_wp2_with fail
  refine (eqIntS_arg ka ka' kc kc' m K _ HF.out.2 (HK.out.below HB.out) (HK'.out.below HB.out)).mono ?_
  rintro e w2 ⟨rfl, hb2⟩
  have HB2 : Hid (Below w.heap.size w w2) := HB.out.trans (hb2.mono HB.out.size)
  clear hb2
  go_wp2
  go_ret
  exact ⟨rfl, HB2.out⟩

set_option maxHeartbeats 2000000 in
theorem eqTermS_same (a1 a2 : Option Addr) (c1 c2 t : Nat) (F : Nat → Tm) (w : World) (ht : t ≤ 2 ^ 40) (hf : ∀ i, i < t → FitT (F i)) (h1 : FArg w a1 t F) (h2 : FArg w a2 t F) :
    Calls Tryz.prog 38 #[.slice a1 t c1, .slice a2 t c2] w fun e w' => e = .returned (.bool true) ∧ Below w.heap.size w w' := by
  have H1 : Hid (FArg w a1 t F) := h1
  have H2 : Hid (FArg w a2 t F) := h2
  have HF : Hid (∀ i, i < t → FitT (F i)) := hf
  clear h1 h2 hf
  go_enter Tryz.func38, Tryz.ntmps38
  go_wp2_with fail
  go_loopw [5] (fun i wr => ∃ k : Nat, k ≤ t ∧ i = .int .i64 k ∧ Below w.heap.size w wr) (fun i _ => t - (intOf i).toNat)
  case atStart => exact ⟨0, Nat.zero_le _, rfl, Below.refl _ _⟩
  case round =>
    obtain ⟨k, hk, rfl, hnx⟩ := hrel
    by_cases hlt : k < t
    · obtain ⟨b, off, va, vc, ka, kc, rfl, hb, a0, a1, a2, a3, hv, hk1⟩ := (H1.out.below hnx).at hlt
      obtain ⟨b', off', va', vc', ka', kc', rfl, hb', d0, d1, d2, d3, hv', hk2⟩ := (H2.out.below hnx).at hlt
      have i0 : (0 : Int) ≤ (k : Int) := by omega
      have i1 : (k : Int) < (t : Int) := by omega
      have HV : Hid (ArgIs wr va (F k).n (F k).N ∧ ArgI wr ka (F k).m (F k).K ∧ ArgIs wr va' (F k).n (F k).N ∧ ArgI wr ka' (F k).m (F k).K) := ⟨hv, hk1, hv', hk2⟩
      have HD : Hid (Below wr.heap.size wr wr.drew) := (Below.refl _ _).drew
      have HS1 : Hid (wr.cell? ⟨b, off + k * 4, none⟩ = some (.int .i64 (F k).kind) ∧ wr.cell? ⟨b, off + k * 4 + 1, none⟩ = some (.string (F k).path) ∧ wr.cell? ⟨b, off + k * 4 + 2, none⟩ = some (.slice va (F k).n vc) ∧ wr.cell? ⟨b, off + k * 4 + 3, none⟩ = some (.slice ka (F k).m kc) ∧
        wr.cell? ⟨b', off' + k * 4, none⟩ = some (.int .i64 (F k).kind) ∧ wr.cell? ⟨b', off' + k * 4 + 1, none⟩ = some (.string (F k).path) ∧ wr.cell? ⟨b', off' + k * 4 + 2, none⟩ = some (.slice va' (F k).n vc') ∧ wr.cell? ⟨b', off' + k * 4 + 3, none⟩ = some (.slice ka' (F k).m kc')) := ⟨a0, a1, a2, a3, d0, d1, d2, d3⟩
      have HSK : Hid (∀ w', Below wr.heap.size wr w' → w'.cell? ⟨b, off + k * 4, none⟩ = some (.int .i64 (F k).kind) ∧ w'.cell? ⟨b, off + k * 4 + 1, none⟩ = some (.string (F k).path) ∧ w'.cell? ⟨b, off + k * 4 + 2, none⟩ = some (.slice va (F k).n vc) ∧ w'.cell? ⟨b, off + k * 4 + 3, none⟩ = some (.slice ka (F k).m kc) ∧
        w'.cell? ⟨b', off' + k * 4, none⟩ = some (.int .i64 (F k).kind) ∧ w'.cell? ⟨b', off' + k * 4 + 1, none⟩ = some (.string (F k).path) ∧ w'.cell? ⟨b', off' + k * 4 + 2, none⟩ = some (.slice va' (F k).n vc') ∧ w'.cell? ⟨b', off' + k * 4 + 3, none⟩ = some (.slice ka' (F k).m kc')) := fun w' h =>
          ⟨(h.cell hb).trans a0, (h.cell hb).trans a1, (h.cell hb).trans a2, (h.cell hb).trans a3, (h.cell hb').trans d0, (h.cell hb').trans d1, (h.cell hb').trans d2, (h.cell hb').trans d3⟩
      clear hv hk1 hv' hk2
      go_wp2_with fail
      go_region_held3 (fun w' => w'.cell? ⟨b, off + k * 4, none⟩ = some (.int .i64 (F k).kind) ∧ w'.cell? ⟨b, off + k * 4 + 1, none⟩ = some (.string (F k).path) ∧ w'.cell? ⟨b, off + k * 4 + 2, none⟩ = some (.slice va (F k).n vc) ∧ w'.cell? ⟨b, off + k * 4 + 3, none⟩ = some (.slice ka (F k).m kc) ∧
        w'.cell? ⟨b', off' + k * 4, none⟩ = some (.int .i64 (F k).kind) ∧ w'.cell? ⟨b', off' + k * 4 + 1, none⟩ = some (.string (F k).path) ∧ w'.cell? ⟨b', off' + k * 4 + 2, none⟩ = some (.slice va' (F k).n vc') ∧ w'.cell? ⟨b', off' + k * 4 + 3, none⟩ = some (.slice ka' (F k).m kc')) (first | exact HS1.out | exact HSK.out _ HD.out | exact HSK.out _ hB1)
        (first | (go_at_call 67; go_fit (eqTerm_same (F k) va ka va' ka' vc kc vc' kc' wr.drew (HF.out k hlt) (HV.out.1.below HD.out) (HV.out.2.1.below HD.out) (HV.out.2.2.1.below HD.out) (HV.out.2.2.2.below HD.out)); rintro e w1 ⟨rfl, hb1⟩; have hB1 : Below wr.heap.size wr w1 := HD.out.trans hb1))
      go_wp2
      go_roundw
      case rel => exact ⟨k + 1, by omega, by go_num, hnx.trans (hB1.mono hnx.size)⟩
      case measure => simp [intOf]; omega
    · go_wp2
      go_ret
      exact ⟨rfl, hnx⟩

set_option maxHeartbeats 400000 in
theorem eqFilter_same (a1 a2 : Option Addr) (c1 c2 t : Nat) (F : Nat → Tm) (w : World) (ht : t ≤ 2 ^ 40) (hf : ∀ i, i < t → FitT (F i)) (h1 : FArg w a1 t F) (h2 : FArg w a2 t F) :
    Calls Tryz.prog 12 #[.agg #[.slice a1 t c1], .agg #[.slice a2 t c2]] w fun e w' => e = .returned (.bool true) ∧ Below w.heap.size w w' := by
  have H1 : Hid (FArg w a1 t F) := h1
  have H2 : Hid (FArg w a2 t F) := h2
  have HF : Hid (∀ i, i < t → FitT (F i)) := hf
  clear h1 h2 hf
  go_enter Tryz.func12, Tryz.ntmps12
  go_wp2_with fail
  refine (eqTermS_same a1 a2 c1 c2 t F _ ht HF.out (H1.out.below (by go_grown)) (H2.out.below (by go_grown))).mono ?_
  rintro e w1 ⟨rfl, hb⟩
  go_wp2
  go_ret
  exact ⟨rfl, (show Below w.heap.size w _ by go_grown).trans (hb.mono (by simp; omega))⟩

end Go.Proofs.YtjohocnfcnjciaaGreatDoor
namespace Go.Proofs.YtjohocnfcnjciaaGreatDoor
open Go.RowKit

theorem TermsTo.arg {t : Nat} {F : Nat → Tm} {w w' : World} {a : Option Addr} {c : Nat} (h : TermsTo t F w a c w') : FArg w' a t F := by
  obtain ⟨_, b, P, Q, _, _, _, hF⟩ := h
  exact hF.arg

end Go.Proofs.YtjohocnfcnjciaaGreatDoor
namespace Go.Proofs.YtjohocnfcnjciaaGreatDoor
open Go.RowKit
set_option linter.unusedVariables false

/-- A filter whose blocks lie elsewhere stays as it was. -/
theorem FOwn.away {S : Nat → Prop} {w w' : World} {b : Nat} {a : Option Addr} {t : Nat} {F : Nat → Tm} {P Q : Nat → Nat} (h : FOwn w b a t F P Q) (hk : Kept S w w') (lo hi : Nat) (h1 : t ≠ 0 → lo ≤ b ∧ b < hi) (h2 : ∀ i, i < t → lo ≤ P i ∧ Q i ≤ hi) (hs : ∀ x, S x → x < lo ∨ hi ≤ x) : FOwn w' b a t F P Q :=
  h.kept hk (fun h0 hS => by have := h1 h0; have := hs _ hS; omega) (fun i hi g hg1 hg2 hS => by have := h2 i hi; have := hs _ hS; omega)
theorem InF.in {b t : Nat} {P Q : Nat → Nat} {lo hi : Nat} (h1 : lo ≤ b ∧ b < hi) (h2 : ∀ i, i < t → lo ≤ P i ∧ Q i ≤ hi) {x : Nat} (h : InF b t P Q x) : lo ≤ x ∧ x < hi := by
  rcases h with rfl | ⟨i, hi, h3, h4⟩
  · exact h1
  · have := h2 i hi; omega
theorem totF_same {F G : Nat → Tm} : ∀ t, (∀ i, i < t → (F i).n = (G i).n ∧ (F i).m = (G i).m) → totF F t = totF G t := by
  intro t
  induction t with
  | zero => intro _; rfl
  | succ t ih => intro h; rw [totF, totF, ih (fun i hi => h i (by omega)), (h t (by omega)).1, (h t (by omega)).2]

end Go.Proofs.YtjohocnfcnjciaaGreatDoor
