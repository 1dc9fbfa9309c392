/- The frame of a law over a value: what came in, opened; the library's table of powers of ten. The program's CleanOf. The sentinel of nulls in maps and the type of errors, out of the row's list; a world that holds them. What marking and holding do to a value of the call's own; numbers and texts as values. No condition. The specification's CleanOf. A value made anew: its row is as long as its room allows. FnExactCleanOf answers true at every value: CleanOf answers as the specification, writes into nothing, and its answer is its own. FnExactCleanOf: for every value the law answers true and its argument reads as it did; the library's table of powers of ten, the type of errors and the sentinel of nulls in maps are tied to the text by the card. No other condition. -/
import Derived.Test.YtbjifclgifkjmaaDoorCards
import Derived.Test.YtbjifclgifkjmaaDoorTie
import Derived.Test.YtbjifclgifkjmaaDoorGoodI
import Derived.ProofKit
import Derived.OpenShut
import Derived.Deep.DeepHandedRow
import Derived.Deep.Slices
import Derived.Lib.LaidTab
import Derived.Stop.LaidErr
import Derived.Lib.SmallJoins
import Derived.Test.YtbjifclgifkjmaaDoorQCoM
import Derived.Test.YtbjifclgifkjmaaDoorL3CutM0
import Derived.OpenVars
import Derived.LaidLaws
import Derived.LaidHandle
import Derived.Stop.Joined
import Derived.Test.YtbjifclgifkjmaaDoorVals0
import Derived.Test.YtbjifclgifkjmaaDoorCleanS0
import Derived.Test.YtbjifclgifkjmaaDoorTreeM
import Derived.Test.YtbjifclgifkjmaaDoorTo
import Derived.Test.YtbjifclgifkjmaaDoorCleanS
namespace Go.Proofs.YtbjifclgifkjmaaDoor
open Go.ChangeShapes Go.WideShapes Go.ChangeAt Go.RowKit Go.Deep Go.Joins
set_option linter.unusedVariables false

theorem own : ownKnob Tryd.prog.godebug = none := by kernel_rfl
theorem laidOut : laidOutB Tryd.prog = true := by kernel_rfl
theorem gPow : Tryd.prog.globalNamed "internal/strconv.uint64pow10" = some 2 := by kernel_rfl
theorem gPowType : (Tryd.prog.globals[2]?).map (·.type) = some 124 := by kernel_rfl
theorem cellsPow : Tryd.prog.cellsOf 124 = 20 := by kernel_rfl
theorem cellsU64 : Tryd.prog.cellsOf 115 = 1 := by kernel_rfl
theorem cellsLNode : Tryd.prog.cellsOf 59 = 5 := by kernel_rfl
theorem cellsLValue : Tryd.prog.cellsOf 24 = 1 := by kernel_rfl

theorem powData {H : Type} : (Rows.laid_internal_strconv_uint64pow10 : DataW H) = Lib.tabData .u64 Lib.pow10Tab := by kernel_rfl

/-- WHAT THE ROWS' LIST GIVES: the powers of ten. -/
theorem table {W : World} {x y : String × DataW Unit} {rest : List (String × DataW Unit)} (h : laidMet Tryd.prog (x :: y :: ("internal/strconv.uint64pow10", Rows.laid_internal_strconv_uint64pow10) :: rest) W) : Tab W.heap.size W := by
  refine Lib.tabBelow_of_tabIs ?_
  have h2 := laidMet.tail (laidMet.tail h)
  exact Lib.tabIs_of_head (rest := rest) gPow gPowType Tryd.underlying124 Tryd.underlying115 cellsU64 cellsPow h2

def tabCells (k : IntKind) (zs : List Int) : Array Value := (zs.map fun z => Value.int k z).toArray
def bits32 : List Int := [0, 1, 28, 2, 29, 14, 24, 3, 30, 22, 20, 15, 25, 17, 4, 8, 31, 27, 13, 23, 21, 19, 16, 7, 26, 12, 18, 6, 11, 5, 10, 9]
def bits64 : List Int := [0, 1, 56, 2, 57, 49, 28, 3, 61, 58, 42, 50, 38, 29, 17, 4, 62, 47, 59, 36, 45, 43, 51, 22, 53, 39, 33, 30, 24, 18, 12, 5, 63, 55, 48, 27, 60, 41, 37, 16, 46, 35, 44, 21, 52, 32, 23, 11, 54, 26, 40, 15, 34, 20, 31, 10, 25, 14, 19, 9, 13, 8, 7, 6]

def layTab (k : IntKind) (zs : List Int) : Obj → Obj
  | .cells _ t frozen => .cells (tabCells k zs) t frozen
  | o => o
/-- A WORLD FOR THE WITNESS: the tables hold what their initialisers lay. -/
def layTabs (w : World) : World := { w with heap := ((w.heap.modify 2 (layTab .u64 Lib.pow10Tab)).modify 3 (layTab .u8 bits32)).modify 4 (layTab .u8 bits64) }

section
variable {H : Type} {enc : TypeId × Value → H} {W : World}

set_option maxRecDepth 100000 in
/-- A NODE THAT CAME IN, OPENED. -/
theorem open_node {held : Bool} {n : Nat} {cs : List Value} {x : DataW H × List MemPlace} (h : DataW.trod enc Tryd.prog W 0 (fun _ => true) held n 59 cs = some x) :
    ∃ y : Nd, cs = [.int .i64 y.kind, .int .i64 y.num, .string y.text, .string y.name, .int .i64 y.up] ∧ y.text.size ≤ maxLen ∧ y.name.size ≤ maxLen := by
  obtain ⟨xs, m, _, _, hl, hlen, hf⟩ := DataW.trod_struct Tryd.underlying59 h
  rw [cellsLNode] at hl
  match cs, hl with
  | [c0, c1, c2, c3, c4], _ =>
    match xs, hlen with
    | [y0, y1, y2, y3, y4], _ =>
      have e0 : DataW.trod enc Tryd.prog W 0 (fun _ => true) held m 3 [c0] = some y0 := hf 0 _ rfl
      have e1 : DataW.trod enc Tryd.prog W 0 (fun _ => true) held m 3 [c1] = some y1 := hf 1 _ rfl
      have e2 : DataW.trod enc Tryd.prog W 0 (fun _ => true) held m 9 [c2] = some y2 := hf 2 _ rfl
      have e3 : DataW.trod enc Tryd.prog W 0 (fun _ => true) held m 9 [c3] = some y3 := hf 3 _ rfl
      have e4 : DataW.trod enc Tryd.prog W 0 (fun _ => true) held m 3 [c4] = some y4 := hf 4 _ rfl
      obtain ⟨k, r0, _, _⟩ := DataW.trod_int Tryd.underlying3 e0
      obtain ⟨u, r1, _, _⟩ := DataW.trod_int Tryd.underlying3 e1
      obtain ⟨t, r2, _, z2⟩ := DataW.trod_string Tryd.underlying9 e2
      obtain ⟨m', r3, _, z3⟩ := DataW.trod_string Tryd.underlying9 e3
      obtain ⟨p, r4, _, _⟩ := DataW.trod_int Tryd.underlying3 e4
      simp only [List.cons.injEq, and_true] at r0 r1 r2 r3 r4
      subst r0 r1 r2 r3 r4
      exact ⟨⟨k, u, t, m', p⟩, rfl, z2, z3⟩

set_option maxRecDepth 100000 in
/-- A VALUE THAT CAME IN, OPENED. -/
theorem open_value {held : Bool} {base : Nat} {v : Value} {d : DataW H} {p : List MemPlace} (hv : Value.okWide Tryd.prog W .any base 24 v) (h : DataW.Trod enc Tryd.prog W 0 (fun _ => true) held 24 v d p) :
    ∃ (a : Option Addr) (n c : Nat) (N : Nat → Nd), v = .agg #[.slice a n c] ∧ n ≤ maxLen ∧ ArgIs W a n N ∧ ∀ i, i < n → (N i).text.size ≤ maxLen ∧ (N i).name.size ≤ maxLen := by
  obtain ⟨cs, rfl, hcs⟩ := okWide_struct Tryd.underlying24 hv
  rw [cellsLValue] at hcs
  obtain ⟨c0, rfl⟩ : ∃ c0, cs = #[c0] := by
    rcases cs with ⟨l⟩
    match l, hcs with
    | [c0], _ => exact ⟨c0, rfl⟩
  obtain ⟨fuel, hf⟩ := h
  obtain ⟨y0, m, _, _, h1⟩ := trod_struct1 Tryd.underlying24 hf
  have h2 : DataW.trod enc Tryd.prog W 0 (fun _ => true) held m 22 [c0] = some y0 := h1
  rcases open_slice Tryd.underlying22 h2 with ⟨e, _⟩ | ⟨a, len, cap, m', f', D, Pl, e, _, hl, hm, hmm, _, hx⟩
  · simp only [List.cons.injEq, and_true] at e
    subst e
    exact ⟨none, 0, 0, fun _ => zeroNd, rfl, by unfold maxLen; omega, .inl rfl, fun i hi => by omega⟩
  · simp only [List.cons.injEq, and_true] at e
    subst e
    have hmc : m' = cap := by rw [hmm]; rfl
    subst hmc
    rw [cellsLNode] at hx
    obtain ⟨N, hN⟩ := @choose_lt Nd ⟨zeroNd⟩ len (fun i y => (∀ j u, [Value.int .i64 y.kind, .int .i64 y.num, .string y.text, .string y.name, .int .i64 y.up][j]? = some u → W.cell? ((a.add (i * 5)).add j) = some u) ∧ y.text.size ≤ maxLen ∧ y.name.size ≤ maxLen) (fun i hi => by
      obtain ⟨cs', h3, h4⟩ := hx i (by omega)
      obtain ⟨y, rfl, z2, z3⟩ := open_node h4
      obtain ⟨_, _, hcell⟩ := World.cells?_some h3
      refine ⟨y, fun j u hj => ?_, z2, z3⟩
      rw [hcell j (by
        have := (List.getElem?_eq_some_iff.1 hj).1
        simpa using this), hj])
    refine ⟨some a, len, m', N, rfl, by omega, ?_, fun i hi => (hN i hi).2⟩
    by_cases h0 : len = 0
    · exact .inl h0
    · have c00 := (hN 0 (by omega)).1 0 _ rfl
      obtain ⟨b, off, spot⟩ := a
      have hsp : spot = none := by
        have := World.cell?_spot c00
        simpa [Addr.add] using this
      subst hsp
      refine .inr ⟨b, off, rfl, ?_, fun i hi => ?_⟩
      · have := World.block_lt_of_cell? _ _ c00
        simpa [Addr.add] using this
      · have hc := (hN i hi).1
        have q0 := hc 0 _ rfl
        have q1 := hc 1 _ rfl
        have q2 := hc 2 _ rfl
        have q3 := hc 3 _ rfl
        have q4 := hc 4 _ rfl
        rw [add_plain, add_plain] at q0 q1 q2 q3 q4
        exact ⟨q0, q1, q2, q3, q4⟩
end

end Go.Proofs.YtbjifclgifkjmaaDoor
namespace Go.Proofs.YtbjifclgifkjmaaDoor
open Go.RowKit
set_option linter.unusedVariables false

/-- The library's variable and the program's sentinel, as they are laid. -/
def ErrsAt (w : World) : Prop := ErrTy w ∧ 0 < w.heap.size ∧ 1 < w.heap.size ∧ ∃ e, w.cell? ⟨1, 0, none⟩ = some (.iface 132 (.pointer (some e)))

theorem OwnAt.congr {w : World} {b n : Nat} {v : Value} {N M : Nat → Nd} (h : OwnAt w b v n N) (e : ∀ i, i < n → M i = N i) : OwnAt w b v n M := by
  obtain ⟨a, c, off, rfl, hn, h0 | ⟨rfl, hb, hat, hf⟩⟩ := h
  · exact ⟨a, c, off, rfl, hn, .inl h0⟩
  · exact ⟨_, c, off, rfl, hn, .inr ⟨rfl, hb, fun i hi => by rw [e i hi]; exact hat i hi, hf⟩⟩
def lenS : Value → Nat
  | .slice _ l _ => l
  | _ => 0
/-- The nodes that are left, in a row of their own. -/
def CoSt (N : Nat → Nd) (n : Nat) (B F : Nat) (v : Value) (wr : World) : Prop :=
  ∃ (m : Nat) (M : Nat → Nd) (g off cap : Nat), v = .slice (some ⟨g, off, none⟩) m cap ∧ m ≤ cap ∧ ClnTo N n M m ∧ OwnAt wr g v m M ∧ NodesAt wr g off m M ∧ g < wr.heap.size ∧ g ≠ F ∧ B ≤ g
theorem co_row {N : Nat → Nd} {n B B' F m : Nat} {M : Nat → Nd} {v : Value} {wr : World} (h : OwnsN wr B v ((List.range m).map M)) (hm : 0 < m) (hm2 : m ≤ 80) (hc : ClnTo N n M m) (hF : (∀ g, B ≤ g → g < wr.heap.size → g ≠ F)) (hB : B' ≤ B) : CoSt N n B' F v wr := by
  obtain ⟨b, h1, h2⟩ := h.own (by simp; omega)
  have hne : (List.range m).map M ≠ [] := fun e => by have := congrArg List.length e; simp at this; omega
  obtain ⟨h3, h4⟩ := h1 hne
  have h5 : OwnAt wr b v m M := by
    have := h2
    rw [List.length_map, List.length_range] at this
    exact this.congr (fun i hi => by rw [List.getD_eq_getElem?_getD, List.getElem?_map, List.getElem?_range hi]; rfl)
  have h6 := h5
  obtain ⟨a, c, off, rfl, hn, h0 | ⟨rfl, hb, hat, hf⟩⟩ := h5
  · omega
  · have hcap : m ≤ c := by
      have h7 : wr.ownsRow B 47 5 (.slice (some ⟨b, off, none⟩) m c) m (ndCells ((List.range m).map M)) := by
        have h8 := h
        unfold OwnsN at h8
        rwa [List.length_map, List.length_range] at h8
      exact own_cap h7
    exact ⟨m, M, b, off, c, rfl, hcap, hc, h6, hat, h4, hF b h3 h4, by omega⟩

set_option maxRecDepth 100000 in
set_option maxHeartbeats 4000000 in
theorem implClean_own (b n : Nat) (a : Option Addr) (c : Nat) (N : Nat → Nd) (w : World) (h : OwnAt w b (.slice a n c) n N) (hc : n ≤ c) (hsm : SmallN n N) (htab : Tab w.heap.size w) (her : ErrsAt w) :
    Calls Tryd.prog 7 #[.agg #[.slice a n c]] w (CoIs N n w) := by
  have HO : Hid (OwnAt w b (.slice a n c) n N) := h
  have HSM : Hid (SmallN n N) := hsm
  have HTB : Hid (Tab w.heap.size w) := htab
  have n20 : n ≤ 2 ^ 20 := hsm.1
  obtain ⟨her1, her2, her3, ea, her4⟩ := her
  have HER : Hid (ErrTy w ∧ w.cell? ⟨1, 0, none⟩ = some (.iface 132 (.pointer (some ea)))) := ⟨her1, her4⟩
  have hbl : ∀ o o', Below w.heap.size w ((w.alloc o).alloc o') := fun o o' => ((Below.refl _ _).alloc (Nat.le_refl _) o).alloc (by simp) o'
  clear h hsm htab her1 her4
  go_enter Tryd.func7, Tryd.ntmps7
  go_wp2_with fail
  refine (implGood_own b n a c N _ (HO.out.below (hbl _ _)) HSM.out (HTB.out.up (hbl _ _))).mono ?_
  rintro e w1 ⟨q, rfl, hq, hb1⟩
  have x1 : w1.cell? ⟨w.heap.size, 0, none⟩ = some (.slice a n c) := by rw [hb1.cell (by simp; omega)]; simp [go_sem]
  have r1 : w1.cell? ⟨w.heap.size + 1, 0, none⟩ = some (.slice none 0 0) := by rw [hb1.cell (by simp)]; simp [go_sem]
  have f1 : w1.frozen? ⟨w.heap.size + 1, 0, none⟩ = false := by rw [hb1.frozen (by simp)]; simp [go_sem]
  have HB1 : Hid (Below w.heap.size w w1) := (hbl _ _).trans (hb1.mono (by simp; omega))
  have z1 : w.heap.size + 1 < w1.heap.size := by have := hb1.size; simp at this; omega
  clear hb1 hbl
  cases q with
  | false =>
    have HN : Hid (¬ GoodV N n) := fun h => by have := hq.2 h; simp at this
    clear hq
    go_wp2_with fail
    exact bodyPost_ret (v := .tuple #[.agg #[.slice none 0 0], .bool false]) (by simp [results, Tryd.results7, go_sem, r1]) rfl (CoIs.no HN.out (Below.setR HB1.out (by omega)))
  | true =>
    have hg : GoodV N n := hq.1 rfl
    have HG : Hid (GoodV N n) := hg
    have n0 : 0 < n := hg.1.1
    have n80 : n ≤ 80 := hg.1.2.1
    clear hq hg
    obtain ⟨b', off, rfl, hb', hat⟩ : ∃ b off, a = some ⟨b, off, none⟩ ∧ b < w.heap.size ∧ NodesAt w b off n N := by
      rcases own_arg HO.out with h0 | h0
      · omega
      · exact h0
    have HAT : Hid (NodesAt w1 b' off n N) := hat.below HB1.out hb'
    have hb1' : b' < w1.heap.size := by omega
    clear hat
    go_wp2_with fail
    refine (cloneN_any b' off c n N _ hb1' (by omega) n0 HAT.out).mono ?_
    rintro e w2 ⟨g2, cap2, rfl, ho2, hb2⟩
    have z2 := hb2.size
    have r2 : w2.cell? ⟨w.heap.size + 1, 0, none⟩ = some (.slice none 0 0) := (hb2.cell z1).trans r1
    have f2 : w2.frozen? ⟨w.heap.size + 1, 0, none⟩ = false := (hb2.frozen z1).trans f1
    have HB2 : Hid (Below w.heap.size w w2) := HB1.out.trans (hb2.mono HB1.out.size)
    have HO2 : Hid (OwnsN w2 (w.heap.size + 2) (.slice (some ⟨g2, 0, none⟩) n cap2) ((List.range n).map N)) := OwnsN.low ho2 (by omega)
    have HST : Hid (∀ o, CoSt N n (w.heap.size + 2) w2.heap.size (.slice (some ⟨g2, 0, none⟩) n cap2) (w2.alloc o)) := fun o => by
      have ho3 : OwnsN (w2.alloc o) (w.heap.size + 2) (.slice (some ⟨g2, 0, none⟩) n cap2) ((List.range n).map N) := World.ownsRow.alloc HO2.out o
      have hlt := @World.ownsRow.lt _ _ _ _ _ _ _ HO2.out
      obtain ⟨m, M, g, off, cap, e, r⟩ := co_row (B' := w.heap.size + 2) (F := (w2.alloc o).heap.size) ho3 n0 n80 (ClnTo.start HG.out) (fun g _ h => by omega) (Nat.le_refl _)
      have e' := e
      injection e with e1 e2 e3
      injection e1 with e1
      injection e1 with e4 e5
      refine ⟨m, M, g, off, cap, e', r.1, r.2.1, r.2.2.1, r.2.2.2.1, r.2.2.2.2.1, ?_, r.2.2.2.2.2.2⟩
      have := (hlt g2 rfl).2
      omega
    clear hb2 ho2 x1 r1 f1
    have HER2 : Hid (∀ wr, Below w.heap.size w wr → ErrTy wr ∧ wr.cell? ⟨1, 0, none⟩ = some (.iface 132 (.pointer (some ea)))) := fun wr hB => ⟨(hB.cell her2).trans HER.out.1, (hB.cell her3).trans HER.out.2⟩
    go_wp2_with fail
    go_loopw [4] (fun v wr => Hid (CoSt N n (w.heap.size + 2) w2.heap.size v wr) ∧ Below w.heap.size w wr ∧ w2.heap.size < wr.heap.size ∧ (wr.cell? ⟨w.heap.size + 1, 0, none⟩ = some (.slice none 0 0) ∧ wr.frozen? ⟨w.heap.size + 1, 0, none⟩ = false) ∧ ∃ o1 o2, wr.cell? ⟨w2.heap.size, 0, none⟩ = some o1 ∧ wr.cell? ⟨w2.heap.size, 1, none⟩ = some o2 ∧ wr.frozen? ⟨w2.heap.size, 0, none⟩ = false ∧ wr.frozen? ⟨w2.heap.size, 1, none⟩ = false) (fun v _ => lenS v)
    case atStart => exact ⟨HST.out _, HB2.out.trans (((Below.refl _ _).alloc (Nat.le_refl _) _).mono HB2.out.size), by simp, ⟨by rw [World.cell?_alloc_lt _ _ _ (by show w.heap.size + 1 < _; omega)]; exact r2, by rw [World.frozen?_alloc_old _ _ _ (by show w.heap.size + 1 ≠ _; omega)]; exact f2⟩, .int .i64 0, .nilIface, by simp [go_sem], by simp [go_sem], by simp [go_sem], by simp [go_sem]⟩
    case round =>
      obtain ⟨HS, hnx, hz, ⟨hr, hrf⟩, o1, o2, hF1, hF2, hF3, hF4⟩ := hrel
      obtain ⟨m, M, g, off, cap, rfl, hcap, hct, how, hat, hgl, hgF, hgB⟩ := HS.out
      have HNX : Hid (Below w.heap.size w wr) := hnx
      have HCT : Hid (ClnTo N n M m) := hct
      have HOW : Hid (OwnAt wr g (.slice (some ⟨g, off, none⟩) m cap) m M) := how
      have HAT : Hid (NodesAt wr g off m M) := hat
      have HUP : Hid (∀ i, i < m → -1 ≤ (M i).up ∧ (M i).up < (i : Int)) := fun i hi => ⟨hct.1.up0 i hi, hct.1.up i hi⟩
      have m80 : m ≤ 80 := by have := hct.2.1; omega
      have m0 : 0 < m := hct.1.pos
      have HFF : Hid (wr.cell? ⟨w2.heap.size, 0, none⟩ = some o1 ∧ wr.cell? ⟨w2.heap.size, 1, none⟩ = some o2 ∧ wr.frozen? ⟨w2.heap.size, 0, none⟩ = false ∧ wr.frozen? ⟨w2.heap.size, 1, none⟩ = false) := ⟨hF1, hF2, hF3, hF4⟩
      clear hct how hat hnx HS hF1 hF2 hF3 hF4
      go_wp2_with fail
      refine (nullFault_any g off cap m M ea wr hgl (by omega) HUP.out HAT.out (by have := HNX.out.size; omega) (HER2.out wr HNX.out).2).mono ?_
      rintro e w3 ⟨o, rfl, ho, hb3⟩
      have z3 := hb3.size
      have HB3 : Hid (Below w.heap.size w w3) := HNX.out.trans (hb3.mono HNX.out.size)
      have hr3 : w3.cell? ⟨w.heap.size + 1, 0, none⟩ = some (.slice none 0 0) := (hb3.cell (by show w.heap.size + 1 < _; omega)).trans hr
      have hrf3 : w3.frozen? ⟨w.heap.size + 1, 0, none⟩ = false := (hb3.frozen (by show w.heap.size + 1 < _; omega)).trans hrf
      have HOW3 : Hid (OwnAt w3 g (.slice (some ⟨g, off, none⟩) m cap) m M) := HOW.out.below hb3
      have HAT3 : Hid (NodesAt w3 g off m M) := HAT.out.below hb3 hgl
      obtain ⟨q1, q2, q3, q4⟩ := HFF.out
      have HF3 : Hid (w3.cell? ⟨w2.heap.size, 0, none⟩ = some o1 ∧ w3.cell? ⟨w2.heap.size, 1, none⟩ = some o2 ∧ w3.frozen? ⟨w2.heap.size, 0, none⟩ = false ∧ w3.frozen? ⟨w2.heap.size, 1, none⟩ = false) := ⟨(hb3.cell hz).trans q1, (hb3.cell hz).trans q2, (hb3.frozen hz).trans q3, (hb3.frozen hz).trans q4⟩
      clear hb3 q1 q2 q3 q4 HOW HAT HFF hr hrf
      cases o with
      | none =>
        have HL : Hid ((tree N n 0).cln.flat ByteArray.empty (-1) 0 = (List.range m).map M) := HCT.out.done ho
        clear ho
        go_wp2_with fail
        refine (as_nil _ w3).mono ?_
        rintro e w4 ⟨rfl, rfl⟩
        go_wp2_with fail
        refine bodyPost_ret (v := .tuple #[.agg #[.slice (some ⟨g, off, none⟩) m cap], .bool true]) (by simp [results, Tryd.results7, go_sem, hr3]) rfl ?_
        refine ⟨_, true, g, (List.range m).map M, rfl, .inl ⟨rfl, HG.out, HL.out.symm⟩, by simp; omega, fun _ => ⟨by omega, ?_⟩, ?_, ?_⟩
        · have : g < w4.heap.size := by omega
          simpa [World.setCell] using this
        · rw [List.length_map, List.length_range]
          refine OwnAt.congr (N := M) ?_ (fun i hi => by rw [List.getD_eq_getElem?_getD, List.getElem?_map, List.getElem?_range hi]; rfl)
          exact HOW3.out.but (BelowBut.setCell _ _ _) (by omega)
        · exact Below.setR HB3.out (by omega)
      | some p =>
        have HBD : Hid (BadN M m p) := ho.1
        have hp0 : 0 < p := ho.1.1
        have hpm : p < m := ho.1.2.1
        clear ho
        go_wp2_with fail
        refine (as_hit (.int .i64 (p : Int)) (.iface 132 (.pointer (some ea))) o1 o2 w2.heap.size w3 (HER2.out w3 HB3.out).1 rfl rfl HF3.out.1 HF3.out.2.1 HF3.out.2.2.1 HF3.out.2.2.2).mono ?_
        rintro e w4 ⟨rfl, c0, c1, d0, d1, hb4⟩
        have z4 := hb4.size
        have HB4 : Hid (Below w.heap.size w w4) := HB3.out.trans (hb4.below HB3.out.size (by have := HB2.out.size; omega))
        have hr4 : w4.cell? ⟨w.heap.size + 1, 0, none⟩ = some (.slice none 0 0) := (hb4.cell (by omega) (by omega)).trans hr3
        have hrf4 : w4.frozen? ⟨w.heap.size + 1, 0, none⟩ = false := (hb4.frozen (by omega) (by omega)).trans hrf3
        have HAT4 : Hid (NodesAt w4 g off m M) := fun i hi => by
          obtain ⟨a0, a1, a2, a3, a4⟩ := HAT3.out i hi
          have hl : g < w3.heap.size := by omega
          exact ⟨(hb4.cell hl hgF).trans a0, (hb4.cell hl hgF).trans a1, (hb4.cell hl hgF).trans a2, (hb4.cell hl hgF).trans a3, (hb4.cell hl hgF).trans a4⟩
        have HC4 : Hid (w4.cell? ⟨w2.heap.size, 1, none⟩ = some (.iface 132 (.pointer (some ea))) ∧ w4.frozen? ⟨w2.heap.size, 0, none⟩ = false ∧ w4.frozen? ⟨w2.heap.size, 1, none⟩ = false) := ⟨c1, d0, d1⟩
        clear hb4 hr3 hrf3 HOW3 HAT3 HF3 c1 d0 d1
        go_wp2_with fail
        refine (putBetween_any g off cap m p (p + 1) M none 0 [] w4 hp0 (by omega) (by omega) (by omega) hcap (by simp) (by omega) HAT4.out (fun i hi => ⟨(HUP.out i hi).1, by have := (HUP.out i hi).2; omega⟩) ⟨by simp [ndCells], by simp [ndCells], .inl ⟨rfl, rfl, rfl⟩⟩).mono ?_
        rintro e w5 ⟨v5, rfl, ho5, hb5⟩
        rw [putL_cut1 M m p hpm] at ho5
        have z5 := hb5.size
        have HB5 : Hid (Below w.heap.size w w5) := HB4.out.trans (hb5.mono HB4.out.size)
        have hct5 := HCT.out.next HBD.out
        have HS5 : Hid (CoSt N n (w.heap.size + 2) w2.heap.size v5 w5) := co_row ho5 hct5.1.pos (by omega) hct5 (fun g h _ => by omega) (by omega)
        have HR5 : Hid ((w5.cell? ⟨w.heap.size + 1, 0, none⟩ = some (.slice none 0 0) ∧ w5.frozen? ⟨w.heap.size + 1, 0, none⟩ = false) ∧ w5.cell? ⟨w2.heap.size, 0, none⟩ = some (.int .i64 (p : Int)) ∧ w5.cell? ⟨w2.heap.size, 1, none⟩ = some (.iface 132 (.pointer (some ea))) ∧ w5.frozen? ⟨w2.heap.size, 0, none⟩ = false ∧ w5.frozen? ⟨w2.heap.size, 1, none⟩ = false) := ⟨⟨(hb5.cell (by show w.heap.size + 1 < _; omega)).trans hr4, (hb5.frozen (by show w.heap.size + 1 < _; omega)).trans hrf4⟩, (hb5.cell (by show w2.heap.size < _; omega)).trans c0, (hb5.cell (by show w2.heap.size < _; omega)).trans HC4.out.1, (hb5.frozen (by show w2.heap.size < _; omega)).trans HC4.out.2.1, (hb5.frozen (by show w2.heap.size < _; omega)).trans HC4.out.2.2⟩
        have HLS : Hid (lenS v5 < m) := by
          obtain ⟨a5, c5, e5⟩ := row_form ho5
          show lenS v5 < m
          rw [e5]
          show List.length _ < m
          simp
          omega
        clear ho5 hb5 hct5
        go_wp2_with fail
        go_roundw
        case rel => exact ⟨HS5, HB5.out, by omega, HR5.out.1, _, _, HR5.out.2.1, HR5.out.2.2.1, HR5.out.2.2.2.1, HR5.out.2.2.2.2⟩
        case measure => exact HLS.out

end Go.Proofs.YtbjifclgifkjmaaDoor
namespace Go.Proofs.YtbjifclgifkjmaaDoor
open Go.ChangeShapes Go.WideShapes Go.ChangeAt Go.RowKit
set_option linter.unusedVariables false

theorem gErr : Tryd.prog.globalNamed "loop.example/g00274/impl.errNull" = some 1 := by kernel_rfl
theorem gErrType : (Tryd.prog.globals[1]?).map (·.type) = some 49 := by kernel_rfl
theorem cellsES : Tryd.prog.cellsOf 153 = 1 := by kernel_rfl
theorem cellsStr : Tryd.prog.cellsOf 9 = 1 := by kernel_rfl
theorem star : "*" ++ "errors.errorString" = "*errors.errorString" := by decide
theorem rowES (u : TypeId) (h : Tryd.prog.typeName? 3 u = some "*errors.errorString") : u = 132 :=
  typeName_ptr_named (nm := "errors.errorString") (by rw [star]; kernel_rfl) (by kernel_rfl) (by decide) u (by rw [star]; exact h)

/-- WHAT THE ROW's LIST GIVES: the sentinel. -/
theorem err_of {W : World} {x y z : String × DataW Unit} {rest : List (String × DataW Unit)} (h : laidMet Tryd.prog (x :: y :: z :: ("loop.example/g00274/impl.errNull", Rows.laid_loop_example_g00274_impl_errNull) :: rest) W) : 1 < W.heap.size ∧ ∃ e, W.cell? ⟨1, 0, none⟩ = some (.iface 132 (.pointer (some e))) := by
  obtain ⟨a, s, hv, _, _, _⟩ := laid_sentinel (laidMet.tail (laidMet.tail (laidMet.tail h))) gErr gErrType Tryd.underlying49 rowES Tryd.underlying132 Tryd.underlying153 rfl rfl Tryd.underlying9 cellsES cellsStr
  have hc : W.cell? ⟨1, 0, none⟩ = some (.iface 132 (.pointer (some a))) := by simpa using World.var?_cell gErr hv 0
  exact ⟨World.block_lt_of_cell? _ _ hc, a, hc⟩

theorem gTy : Tryd.prog.globalNamed "errors.errorType" = some 0 := by kernel_rfl
theorem rtTy : (Tryd.prog.cutTypes.find? (·.1 == "internal/reflectlite.rtype")).map (·.2) = some 95 := by kernel_rfl
theorem sizeTy : Tryd.prog.types.size = 165 := by kernel_rfl
theorem oneTy : ((List.range 165).filter fun t => Tryd.prog.rowNamed t [101, 114, 114, 111, 114]) = [49] := by kernel_rfl
/-- WHAT THE ROW's LIST GIVES: the type of errors. -/
theorem ty_of {W : World} (h : handlesMet Tryd.prog [("errors.errorType", Rows.laid_errors_errorType)] W) : ErrTy W := by
  obtain ⟨name, u, ty, e1, e2, e3, e4, e5⟩ := h _ (List.mem_singleton.2 rfl)
  have en : name = [101, 114, 114, 111, 114] := (Option.some.inj e1).symm
  subst en
  obtain rfl := Option.some.inj (rtTy.symm.trans e2)
  have hm : ty ∈ (List.range 165).filter fun t => Tryd.prog.rowNamed t [101, 114, 114, 111, 114] := List.mem_filter.2 ⟨List.mem_range.2 (by rw [← sizeTy]; exact e3), e4⟩
  rw [oneTy] at hm
  obtain rfl := List.mem_singleton.1 hm
  have hh : typeHandle Tryd.prog 49 = .pointer (some ⟨5, 49, none⟩) := by kernel_rfl
  rw [hh] at e5
  simpa [ErrTy] using World.var?_cell gTy e5 0

noncomputable def low : Nat := (World.holding Tryd.prog default ⟨#[], #[], []⟩).heap.size
noncomputable def layErr : Obj → Obj
  | .cells _ t frozen => .cells #[.iface 132 (.pointer (some ⟨low, 0, none⟩))] t frozen
  | o => o
noncomputable def layTy : Obj → Obj
  | .cells _ t frozen => .cells #[.iface 95 (.agg #[.pointer (some ⟨5, 49, none⟩)])] t frozen
  | o => o
/-- A WORLD FOR THE WITNESS: the tables and the sentinel as their initialisers lay them. -/
noncomputable def layClean (os : Os) : World :=
  let w0 := layTabs (World.holding Tryd.prog os ⟨#[.cells #[.string ⟨#[97, 32, 109, 97, 112, 32, 104, 97, 115, 32, 97, 32, 110, 117, 108, 108]⟩] 153], #[], []⟩)
  { w0 with heap := (w0.heap.modify 1 layErr).modify 0 layTy }

end Go.Proofs.YtbjifclgifkjmaaDoor
namespace Go.Proofs.YtbjifclgifkjmaaDoor
open Go.RowKit

set_option maxHeartbeats 400000 in
theorem markValue_any (v : Value) (b n : Nat) (N : Nat → Nd) (k0 : Int) (w : World) (hk0 : 0 < k0) (hk1 : k0 ≤ 2 ^ 30) (h : OwnAt w b v n N) :
    Calls Tryd.prog 9 #[.agg #[v], .int .i64 k0] w fun e w' => e = .returned (.int .i64 (k0 + 5 * n)) ∧ BelowBut w.heap.size b w w' ∧ OwnAt w' b v n (fun i => mk (k0 + 5 * i)) := by
  obtain ⟨a, c, off, rfl, hn, h⟩ := h
  have HH : Hid (n = 0 ∨ (a = some ⟨b, off, none⟩ ∧ b < w.heap.size ∧ NodesAt w b off n N ∧ FreeAt w b off n)) := h
  clear h
  go_enter Tryd.func9, Tryd.ntmps9
  go_wp2_with fail
  rcases HH.out with h0 | ⟨rfl, hb, hat, hf⟩
  · obtain rfl := h0
    refine (markNodeS_none a c k0 _).mono ?_
    rintro e w1 ⟨rfl, rfl⟩
    go_wp2
    go_ret
    refine ⟨by simp, BelowBut.of (by go_grown), ⟨a, c, off, rfl, by omega, .inl rfl⟩⟩
  · have hbl : Below w.heap.size w (w.alloc (.cells #[.slice (some ⟨b, off, none⟩) n c] 28)) := by go_grown
    refine (markNodeS_some b off c n N k0 _ hn hk0 hk1 (by simp; omega) (hat.below hbl hb) (hf.below hbl hb)).mono ?_
    rintro e w1 ⟨rfl, hb1, hat1, hf1⟩
    have HB : Hid (BelowBut _ b _ w1) := hb1
    have HA : Hid (NodesAt w1 b off n fun i => mk (k0 + 5 * i)) := hat1
    have HF : Hid (FreeAt w1 b off n) := hf1
    clear hb1 hat1 hf1 hat hf hbl HH
    go_wp2
    go_ret
    have hsz := HB.out.size
    simp at hsz
    exact ⟨rfl, (BelowBut.of (by go_grown)).trans (HB.out.mono (by simp)), ⟨_, c, off, rfl, hn, .inr ⟨rfl, by omega, HA.out, HF.out⟩⟩⟩

set_option maxHeartbeats 400000 in
theorem heldValue_any (v : Value) (b n : Nat) (k0 : Int) (w : World) (hk0 : 0 < k0) (hk1 : k0 ≤ 2 ^ 30) (h : OwnAt w b v n (fun i => mk (k0 + 5 * i))) :
    Calls Tryd.prog 10 #[.agg #[v], .int .i64 k0] w fun e w' => e = .returned (.int .i64 (k0 + 5 * n)) ∧ Below w.heap.size w w' := by
  obtain ⟨a, c, off, rfl, hn, h⟩ := h
  have HH : Hid (n = 0 ∨ (a = some ⟨b, off, none⟩ ∧ b < w.heap.size ∧ NodesAt w b off n (fun i => mk (k0 + 5 * i)) ∧ FreeAt w b off n)) := h
  clear h
  go_enter Tryd.func10, Tryd.ntmps10
  go_wp2_with fail
  rcases HH.out with h0 | ⟨rfl, hb, hat, hf⟩
  · obtain rfl := h0
    refine (heldNodeS_none a c k0 _).mono ?_
    rintro e w1 ⟨rfl, rfl⟩
    go_wp2
    go_ret
    exact ⟨by simp, by go_grown⟩
  · have hbl : Below w.heap.size w (w.alloc (.cells #[.slice (some ⟨b, off, none⟩) n c] 28)) := by go_grown
    refine (heldNodeS_some b off c n k0 _ hn hk0 hk1 (by simp; omega) (hat.below hbl hb)).mono ?_
    rintro e w1 ⟨rfl, hb1⟩
    have HB : Hid (Below _ _ w1) := hb1
    clear hb1 hat hf hbl HH
    go_wp2
    go_ret
    exact ⟨rfl, (show Below w.heap.size w _ by go_grown).trans (HB.out.mono (by simp))⟩

end Go.Proofs.YtbjifclgifkjmaaDoor
namespace Go.Proofs.YtbjifclgifkjmaaDoor
open Go.RowKit
set_option linter.unusedVariables false

theorem clns_cnt (l : List Tr) (h : ∀ x ∈ l, x.cln.cnt ≤ x.cnt) : Tr.cnts (Tr.clns l) ≤ Tr.cnts l := by
  induction l with
  | nil => exact Nat.le_refl _
  | cons x l ih =>
    have h1 := ih (fun y hy => h y (by simp [hy]))
    have h2 := h x (by simp)
    rw [Tr.clns]
    split
    · rw [Tr.cnts]; omega
    · rw [Tr.cnts, Tr.cnts]; omega
theorem cln_cnt (t : Tr) : t.cln.cnt ≤ t.cnt := by
  refine Tr.ind (P := fun t => t.cln.cnt ≤ t.cnt) (fun k n t nm ks ih => ?_) t
  rw [Tr.cln]
  split
  · rw [Tr.cnt, Tr.cnt]
    have := clns_cnt ks ih
    omega
  · exact Nat.le_refl _

set_option maxRecDepth 100000 in
set_option maxHeartbeats 4000000 in
theorem specClean_own (hcl : ∀ t, ClnSaid t) (b n : Nat) (a : Option Addr) (c : Nat) (N : Nat → Nd) (w : World) (h : OwnAt w b (.slice a n c) n N) (hsm : SmallN n N) :
    Calls Tryd.prog 5 #[.agg #[.slice a n c]] w (CoIs N n w) := by
  have HO : Hid (OwnAt w b (.slice a n c) n N) := h
  have HCL : Hid (∀ t, ClnSaid t) := hcl
  have HSM : Hid (SmallN n N) := hsm
  have hbl : ∀ o o', Below w.heap.size w ((w.alloc o).alloc o') := fun o o' => ((Below.refl _ _).alloc (Nat.le_refl _) o).alloc (by simp) o'
  clear h hsm hcl
  go_enter Tryd.func5, Tryd.ntmps5
  go_wp2_with fail
  refine (specGood_own b n a c N _ (HO.out.below (hbl _ _)) HSM.out).mono ?_
  rintro e w1 ⟨q, rfl, hq, hb1⟩
  have x1 : w1.cell? ⟨w.heap.size, 0, none⟩ = some (.slice a n c) := by rw [hb1.cell (by simp; omega)]; simp [go_sem]
  have r1 : w1.cell? ⟨w.heap.size + 1, 0, none⟩ = some (.slice none 0 0) := by rw [hb1.cell (by simp)]; simp [go_sem]
  have f1 : w1.frozen? ⟨w.heap.size + 1, 0, none⟩ = false := by rw [hb1.frozen (by simp)]; simp [go_sem]
  have HB1 : Hid (Below w.heap.size w w1) := (hbl _ _).trans (hb1.mono (by simp; omega))
  have z1 : w.heap.size + 1 < w1.heap.size := by have := hb1.size; simp at this; omega
  clear hb1 hbl
  cases q with
  | false =>
    have HN : Hid (¬ GoodV N n) := fun h => by have := hq.2 h; simp at this
    clear hq
    go_wp2_with fail
    exact bodyPost_ret (v := .tuple #[.agg #[.slice none 0 0], .bool false]) (by simp [results, Tryd.results5, go_sem, r1]) rfl (CoIs.no HN.out (Below.setR HB1.out (by omega)))
  | true =>
    have hg : GoodV N n := hq.1 rfl
    have HG : Hid (GoodV N n) := hg
    have n0 : 0 < n := hg.1.1
    have n80 : n ≤ 80 := hg.1.2.1
    have hcn := tree_cnt_le hg n0
    clear hq hg
    go_wp2_with fail
    refine (l1Tree_any N n n80 n 0 (by omega) n0 a c _ ((own_arg HO.out).below HB1.out)).mono ?_
    rintro e w2 ⟨ya, yc, ym, yka, ykc, ykm, rfl, hyt, hb2⟩
    have z2 := hb2.size
    have HB2 : Hid (Below w.heap.size w w2) := HB1.out.trans (hb2.mono HB1.out.size)
    have r2 : w2.cell? ⟨w.heap.size + 1, 0, none⟩ = some (.slice none 0 0) := (hb2.cell z1).trans r1
    have f2 : w2.frozen? ⟨w.heap.size + 1, 0, none⟩ = false := (hb2.frozen z1).trans f1
    have HT2 : Hid (Tree w2 (tree N n 0) _) := hyt.any
    clear hb2 hyt x1 r1 f1
    go_wp2_with fail
    refine (HCL.out _ _ _ _ HT2.out (by omega) (tree_rises HG.out n 0 (by omega) n0)).mono ?_
    rintro e w3 ⟨k3, n3, t3, an3, mn3, cn3, ak3, mk3, ck3, rfl, ht3, hb3⟩
    have z3 := hb3.size
    have HB3 : Hid (Below w.heap.size w w3) := HB2.out.trans (hb3.mono HB2.out.size)
    have r3 : w3.cell? ⟨w.heap.size + 1, 0, none⟩ = some (.slice none 0 0) := (hb3.cell (by show w.heap.size + 1 < _; omega)).trans r2
    have f3 : w3.frozen? ⟨w.heap.size + 1, 0, none⟩ = false := (hb3.frozen (by show w.heap.size + 1 < _; omega)).trans f2
    have HT3 : Hid (Tree w3 (tree N n 0).cln _) := ht3.any
    have hcc := cln_cnt (tree N n 0)
    clear hb3 ht3 r2 f2
    go_wp2_with fail
    refine (l1Of_any _ _ _ HT3.out (Tr.rises_named _ (tree_rises HG.out n 0 (by omega) n0)).1 (by omega)).mono ?_
    rintro e w4 ⟨lv, rfl, ho4, hb4⟩
    have HB4 : Hid (Below w.heap.size w w4) := HB3.out.trans (hb4.mono HB3.out.size)
    have r4 : w4.cell? ⟨w.heap.size + 1, 0, none⟩ = some (.slice none 0 0) := (hb4.cell (by show w.heap.size + 1 < _; omega)).trans r3
    have f4 : w4.frozen? ⟨w.heap.size + 1, 0, none⟩ = false := (hb4.frozen (by show w.heap.size + 1 < _; omega)).trans f3
    obtain ⟨L, hL⟩ : ∃ L, L = (tree N n 0).cln.flat ⟨#[]⟩ (-1) 0 := ⟨_, rfl⟩
    have hll : L.length ≤ 80 := by rw [hL, Tr.flat_length]; omega
    rw [← hL] at ho4
    have HL : Hid (L = (tree N n 0).cln.flat ByteArray.empty (-1) 0) := hL
    obtain ⟨la, lc, rfl⟩ := row_form ho4
    have HO4 : Hid (OwnsN w4 (w.heap.size + 2) (.slice la L.length lc) L) := OwnsN.low ho4 (by omega)
    clear ho4 hb4 r3 f3 hL
    go_wp2_with fail
    exact bodyPost_ret (v := .tuple #[.agg #[.slice la L.length lc], .bool true]) (by simp [results, Tryd.results5, go_sem, r4]) rfl (CoIs.yes HG.out HL.out hll (by omega) (own_set HO4.out (by omega)) (Below.setR HB4.out (by omega)))

end Go.Proofs.YtbjifclgifkjmaaDoor
namespace Go.Proofs.YtbjifclgifkjmaaDoor
open Go.RowKit
set_option linter.unusedVariables false

set_option maxHeartbeats 1000000 in
theorem toNodeS_cap (a : Option Addr) (c n : Nat) (N : Nat → Nd) (w : World) (hn : n ≤ 2 ^ 20) (h : ArgIs w a n N) :
    Calls Tryd.prog 16 #[.slice a n c] w fun e w' => ∃ a' c', e = .returned (.slice a' n c') ∧ n ≤ c' ∧ OwnAt w' w.heap.size (.slice a' n c') n N ∧ w.heap.size < w'.heap.size ∧ Below w.heap.size w w' := by
  have H : Hid (ArgIs w a n N) := h
  clear h
  have hmk := make_nodes n (by omega)
  obtain ⟨n1, n2⟩ := nodes_made n w 47
  obtain ⟨W, hW⟩ : ∃ W, W = w.alloc (.cells (madeCells zeroCs (n * 5)) 47) := ⟨_, rfl⟩
  have hsz : W.heap.size = w.heap.size + 1 := by rw [hW]; simp
  have hbl : Below w.heap.size w W := by rw [hW]; go_grown
  rw [← hW] at n1 n2
  have hmw := hmk w
  rw [← hW] at hmw
  clear hmk
  have HN : Hid (NodesAt W w.heap.size 0 n (fun _ => zeroNd) ∧ FreeAt W w.heap.size 0 n) := ⟨n1, n2⟩
  clear n1 n2 hW
  go_enter Tryd.func16, Tryd.ntmps16
  go_wp2_with fail
  go_loopw [4] (fun i wr => ∃ k : Nat, k ≤ n ∧ i = .int .i64 k ∧ Below w.heap.size w wr ∧ w.heap.size < wr.heap.size ∧ Hid (∃ M, NodesAt wr w.heap.size 0 n M ∧ FreeAt wr w.heap.size 0 n ∧ ∀ j, j < k → M j = N j)) (fun i _ => n - (intOf i).toNat)
  case atStart => exact ⟨0, Nat.zero_le _, rfl, hbl, by omega, ⟨_, HN.out.1, HN.out.2, fun j hj => by omega⟩⟩
  case round =>
    obtain ⟨k, hk, rfl, hnx, hlt0, HM⟩ := hrel
    by_cases hlt : k < n
    · rcases H.out with h0 | ⟨b, off, rfl, hb, hat⟩
      · omega
      obtain ⟨a0, a1, a2, a3, a4⟩ := hat.below hnx hb k hlt
      have i0 : (0 : Int) ≤ (k : Int) := by omega
      have i1 : (k : Int) < (n : Int) := by omega
      clear hat
      go_wp2_with fail
      refine (toNode_any _ _ _ _ _ _).mono ?_
      rintro e w1 ⟨rfl, hb1⟩
      obtain ⟨M, m1, m2, m3⟩ := HM.out
      have m1' := m1.below hb1 hlt0
      have m2' := m2.below hb1 hlt0
      obtain ⟨g0, g1, g2, g3, g4⟩ := m1' k hlt
      have f0 := m2' (k * 5) (by omega)
      have f1 := m2' (k * 5 + 1) (by omega)
      have f2 := m2' (k * 5 + 2) (by omega)
      have f3 := m2' (k * 5 + 3) (by omega)
      have f4 := m2' (k * 5 + 4) (by omega)
      simp only [Nat.zero_add] at g0 g1 g2 g3 g4 f0 f1 f2 f3 f4
      have z1 := hb1.size
      have HM1 : Hid (NodesAt w1 w.heap.size 0 n M ∧ FreeAt w1 w.heap.size 0 n ∧ (∀ j, j < k → M j = N j)) := ⟨m1', m2', m3⟩
      have HB : Hid (Below w.heap.size w w1) := hnx.trans (hb1.mono hnx.size)
      clear m1 m2 m3 m1' m2' hb1 HM a0 a1 a2 a3 a4
      go_wp2_with fail
      obtain ⟨r1, r2, r3⟩ := store_step (x := (N k).kind) (y := (N k).num) (s := (N k).text) (t := (N k).name) (u := (N k).up) hlt HM1.out.1 HM1.out.2.1 _ rfl
      simp only [Nat.zero_add] at r1 r2 r3
      go_roundw
      case rel =>
        refine ⟨k + 1, by omega, by go_num, HB.out.trans (r3.below HB.out.size (Nat.le_refl _)), by have := r3.size; omega, ⟨_, r1, r2, fun j hj => ?_⟩⟩
        by_cases e : j = k
        · subst e
          rw [if_pos rfl]
        · rw [if_neg e]
          exact HM1.out.2.2 j (by omega)
      case measure => simp [intOf]; omega
    · go_wp2
      go_ret
      obtain rfl : k = n := by omega
      obtain ⟨M, m1, m2, m3⟩ := HM.out
      refine ⟨_, _, rfl, Nat.le_refl _, ⟨_, k, 0, rfl, by omega, .inr ⟨rfl, hlt0, fun i hi => ?_, m2⟩⟩, hlt0, hnx⟩
      rw [← m3 i hi]
      exact m1 i hi

set_option maxHeartbeats 400000 in
theorem toValue_cap (a : Option Addr) (c n : Nat) (N : Nat → Nd) (w : World) (hn : n ≤ 2 ^ 20) (h : ArgIs w a n N) :
    Calls Tryd.prog 6 #[.agg #[.slice a n c]] w fun e w' => ∃ b a' c', e = .returned (.agg #[.slice a' n c']) ∧ n ≤ c' ∧ w.heap.size ≤ b ∧ b < w'.heap.size ∧ OwnAt w' b (.slice a' n c') n N ∧ Below w.heap.size w w' := by
  have H : Hid (ArgIs w a n N) := h
  clear h
  go_enter Tryd.func6, Tryd.ntmps6
  go_wp2_with fail
  refine (toNodeS_cap a c n N _ hn (H.out.below (by go_grown))).mono ?_
  rintro e w1 ⟨a1, c1, rfl, hc1, ho, hlt, hb⟩
  have x1 : w1.cell? ⟨w.heap.size + 1, 0, none⟩ = some (.slice none 0 0) := by rw [hb.cell (by simp)]; simp [go_sem]
  have x2 : w1.cell? ⟨w.heap.size + 1 + 1, 0, none⟩ = some (.slice none 0 0) := by rw [hb.cell (by simp)]; simp [go_sem]
  have f1 : w1.frozen? ⟨w.heap.size + 1, 0, none⟩ = false := by rw [hb.frozen (by simp)]; simp [go_sem]
  have f2 : w1.frozen? ⟨w.heap.size + 1 + 1, 0, none⟩ = false := by rw [hb.frozen (by simp)]; simp [go_sem]
  have z := hb.size
  simp at z hlt ho
  have z1 : w.heap.size + 1 < w1.heap.size := by omega
  have z2 : w.heap.size + 1 + 1 < w1.heap.size := by omega
  have HO : Hid (OwnAt w1 (w.heap.size + 1 + 1 + 1) (.slice a1 n c1) n N) := ho
  have HB : Hid (Below w.heap.size w w1) := (show Below w.heap.size w _ by go_grown).trans (hb.mono (by simp; omega))
  clear ho hb
  go_wp2
  refine bodyPost_ret (v := .agg #[.slice a1 n c1]) (by simp [results, Tryd.results6, go_sem, x1]) rfl ⟨w.heap.size + 1 + 1 + 1, a1, c1, rfl, hc1, by omega, by simp; omega, ?_, ?_⟩
  · exact (HO.out.but (BelowBut.setCell _ _ _) (by omega)).but (BelowBut.setCell _ _ _) (by omega)
  · exact (HB.out.setCell (by simp; omega) _).setCell (by simp) _

end Go.Proofs.YtbjifclgifkjmaaDoor
namespace Go.Proofs.YtbjifclgifkjmaaDoor
open Go.RowKit
set_option linter.unusedVariables false

theorem OwnAt.but2 {w w' : World} {b g : Nat} {v : Value} {n : Nat} {f : Nat → Nd} (h : OwnAt w g v n f) (hb : BelowBut w.heap.size b w w') (hne : n ≠ 0 → g ≠ b) : OwnAt w' g v n f := by
  by_cases h0 : n = 0
  · obtain ⟨a, c, off, rfl, hn, _⟩ := h
    exact ⟨a, c, off, rfl, hn, .inl h0⟩
  · exact h.but hb (hne h0)
/-- What a list of nodes is at i. -/
def ndAt (L : List Nd) (i : Nat) : Nd := L.getD i ⟨0, 0, ⟨#[]⟩, ⟨#[]⟩, 0⟩

set_option maxRecDepth 100000 in
set_option maxHeartbeats 4000000 in
theorem cleanOf_law (a : Option Addr) (c n : Nat) (N : Nat → Nd) (w : World) (hcl : ∀ t, ClnSaid t) (her : ErrsAt w) (hn : n ≤ maxLen) (h : ArgIs w a n N) (hz : ∀ i, i < n → (N i).text.size ≤ maxLen ∧ (N i).name.size ≤ maxLen) (htab : Tab w.heap.size w) :
    Calls Tryd.prog 3 #[.agg #[.slice a n c]] w fun e w' => e = .returned (.bool true) ∧ Below w.heap.size w w' := by
  have HZ : Hid (∀ i, i < n → (N i).text.size ≤ maxLen ∧ (N i).name.size ≤ maxLen) := hz
  have H : Hid (ArgIs w a n N) := h
  have HTB : Hid (Tab w.heap.size w) := htab
  have HCL : Hid (∀ t, ClnSaid t) := hcl
  have HER : Hid (∀ wr, Below w.heap.size w wr → ErrsAt wr) := fun wr hB => ⟨(hB.cell her.2.1).trans her.1, Nat.lt_of_lt_of_le her.2.1 hB.size, Nat.lt_of_lt_of_le her.2.2.1 hB.size, her.2.2.2.imp fun e he => (hB.cell her.2.2.1).trans he⟩
  clear hz h htab hcl her
  go_enter Tryd.func3, Tryd.ntmps3
  go_wp2_with fail
  have hbl0 : ∀ o, Below w.heap.size w (w.alloc o) := fun o => (Below.refl _ _).alloc (Nat.le_refl _) o
  refine (szValue_any a c n N _ hn (H.out.below (hbl0 _)) HZ.out).mono ?_
  rintro e w1 ⟨r, rfl, hr, hb1⟩
  have x1 : w1.cell? ⟨w.heap.size, 0, none⟩ = some (.slice a n c) := by rw [hb1.cell (by simp)]; simp [go_sem]
  have HB1 : Hid (Below w.heap.size w w1) := (hbl0 _).trans (hb1.mono (by simp))
  have z1 : w.heap.size < w1.heap.size := by have := hb1.size; simp at this; omega
  clear hb1 hbl0
  rcases hr with rfl | ⟨r0, hsm⟩
  · go_wp2
    go_ret
    exact ⟨rfl, HB1.out⟩
  have HSM : Hid (SmallN n N) := hsm
  have n20 : n ≤ 2 ^ 20 := hsm.1
  have r1 : ¬ r < 0 := by omega
  clear hsm
  go_wp2_with fail
  refine (toValue_cap a c n N _ n20 (H.out.below HB1.out)).mono ?_
  rintro e w2 ⟨b2, a2, c2, rfl, _, l2, m2, ho2, hb2⟩
  have x2 : w2.cell? ⟨w.heap.size, 0, none⟩ = some (.slice a n c) := (hb2.cell z1).trans x1
  have HB2 : Hid (Below w.heap.size w w2) := HB1.out.trans (hb2.mono HB1.out.size)
  have z2 : w.heap.size < w2.heap.size := by have := hb2.size; omega
  have HO2 : Hid (OwnAt w2 b2 (.slice a2 n c2) n N) := ho2
  have B2 := hb2.size
  clear ho2 hb2 l2 m2
  go_wp2_with fail
  refine (specClean_own HCL.out b2 n a2 c2 N _ HO2.out HSM.out).mono ?_
  rintro e w3 ⟨v3, q, g3, L, rfl, hq, l80, hg3, ho3, hb3⟩
  obtain ⟨a3, c3, rfl⟩ := ho3.form
  have HQ : Hid (CoTold N n q L) := hq
  have x3 : w3.cell? ⟨w.heap.size, 0, none⟩ = some (.slice a n c) := (hb3.cell z2).trans x2
  have HB3 : Hid (Below w.heap.size w w3) := HB2.out.trans (hb3.mono HB2.out.size)
  have z3 : w.heap.size < w3.heap.size := by have := hb3.size; omega
  obtain ⟨m, hm⟩ : ∃ m, m = L.length := ⟨_, rfl⟩
  have hL0 : m ≠ 0 → L ≠ [] := fun h e => h (by rw [hm, e]; rfl)
  rw [← hm] at ho3 ⊢
  have HM : Hid (m = L.length) := hm
  have HL3 : Hid (m ≠ 0 → g3 < w3.heap.size) := fun h => ho3.lt h
  have HK3 : Hid (OwnAt w3 g3 (.slice a3 m c3) m (ndAt L)) := ho3
  clear hb3 hq HO2 ho3 hg3 hm
  go_wp2_with fail
  have al3 : ∀ o, Below w3.heap.size w3 (w3.alloc o) := fun o => (Below.refl _ _).alloc (Nat.le_refl _) o
  refine (toValue_cap a c n N _ n20 (H.out.below (HB3.out.trans ((al3 _).mono HB3.out.size)))).mono ?_
  rintro e w4 ⟨b4, a4, c4, rfl, cc4, l4, m4, ho4, hb4⟩
  have z34 := hb4.size
  simp at z34 l4
  have x4 : w4.cell? ⟨w.heap.size, 0, none⟩ = some (.slice a n c) := by rw [hb4.cell (by simp; omega)]; simp [World.cell?_alloc_past, z3, x3]
  have u4 : w4.cell? ⟨w3.heap.size, 0, none⟩ = some (.slice a3 m c3) := by rw [hb4.cell (by simp)]; simp [World.cell?_alloc_new]
  have hbb4 : Below w3.heap.size w3 w4 := (al3 _).trans (hb4.mono (by simp))
  have HB4 : Hid (Below w.heap.size w w4) := HB3.out.trans (hbb4.mono HB3.out.size)
  have z4 : w.heap.size < w4.heap.size := by omega
  have zu4 : w3.heap.size < w4.heap.size := by omega
  have HO4 : Hid (OwnAt w4 b4 (.slice a4 n c4) n N) := ho4
  have HK4 : Hid (OwnAt w4 g3 (.slice a3 m c3) m (ndAt L)) := HK3.out.below hbb4
  clear ho4 hb4 HK3 hbb4 al3
  go_wp2_with fail
  have hal : ∀ o, Below w4.heap.size w4 (w4.alloc o) := fun o => (Below.refl _ _).alloc (Nat.le_refl _) o
  refine (implClean_own b4 n a4 c4 N _ (HO4.out.below (hal _)) cc4 HSM.out (HTB.out.up (HB4.out.trans ((hal _).mono HB4.out.size))) (HER.out _ (HB4.out.trans ((hal _).mono HB4.out.size)))).mono ?_
  rintro e w5 ⟨v5, g, g5, L5, rfl, hg, _, hg5, ho5, hb5⟩
  obtain ⟨rfl, rfl⟩ : g = q ∧ L5 = L := hg.same HQ.out
  rw [← HM.out] at ho5
  obtain ⟨a5, c5, rfl⟩ := ho5.form
  have x5 : w5.cell? ⟨w.heap.size, 0, none⟩ = some (.slice a n c) := by rw [hb5.cell (by simp; omega)]; simp [World.cell?_alloc_past, z4, x4]
  have u5 : w5.cell? ⟨w3.heap.size, 0, none⟩ = some (.slice a3 m c3) := by rw [hb5.cell (by simp; omega)]; simp [World.cell?_alloc_past, zu4, u4]
  have y5 : w5.cell? ⟨w4.heap.size, 0, none⟩ = some (.slice a4 n c4) := by rw [hb5.cell (by simp)]; simp [World.cell?_alloc_new]
  have hbb : Below w4.heap.size w4 w5 := (hal _).trans (hb5.mono (by simp))
  have HB5 : Hid (Below w.heap.size w w5) := HB4.out.trans (hbb.mono HB4.out.size)
  have z5 : w4.heap.size < w5.heap.size := by have := hb5.size; simp at this; omega
  have z5u : w3.heap.size < w5.heap.size := by omega
  have z5' : w.heap.size < w5.heap.size := by omega
  have HO5 : Hid (OwnAt w5 b4 (.slice a4 n c4) n N) := HO4.out.below hbb
  have HK5 : Hid (OwnAt w5 g3 (.slice a3 m c3) m (ndAt L5)) := HK4.out.below hbb
  have HG5 : Hid (OwnAt w5 g5 (.slice a5 m c5) m (ndAt L5)) := ho5
  have HGL : Hid (m ≠ 0 → w4.heap.size < g5 ∧ g5 < w5.heap.size) := fun h => by have := hg5 (hL0 h); simp at this; omega
  clear hb5 hbb hal hg HO4 HK4 ho5 hg5
  go_wp2_with fail
  have al5 : ∀ o, Below w5.heap.size w5 (w5.alloc o) := fun o => (Below.refl _ _).alloc (Nat.le_refl _) o
  refine (eqValue_any _ _ m (ndAt L5) _ ((HG5.out.below (al5 _)).slice) ((HK5.out.below (al5 _)).slice)).mono ?_
  rintro e w6 ⟨rfl, hb6⟩
  have B56 : Below w5.heap.size w5 w6 := (al5 _).trans (hb6.mono (by simp))
  have x6 : w6.cell? ⟨w.heap.size, 0, none⟩ = some (.slice a n c) := (B56.cell (by show w.heap.size < _; omega)).trans x5
  have u6 : w6.cell? ⟨w3.heap.size, 0, none⟩ = some (.slice a3 m c3) := (B56.cell (by show w3.heap.size < _; omega)).trans u5
  have y6 : w6.cell? ⟨w4.heap.size, 0, none⟩ = some (.slice a4 n c4) := (B56.cell z5).trans y5
  have v6 : w6.cell? ⟨w5.heap.size, 0, none⟩ = some (.slice a5 m c5) := by rw [hb6.cell (by simp)]; simp [World.cell?_alloc_new]
  have z56 := hb6.size
  simp at z56
  have z6 : w4.heap.size < w6.heap.size := by omega
  have z6' : w.heap.size < w6.heap.size := by omega
  have z6u : w3.heap.size < w6.heap.size := by omega
  have z6v : w5.heap.size < w6.heap.size := by omega
  have HB6 : Hid (Below w.heap.size w w6) := HB5.out.trans (B56.mono HB5.out.size)
  have HO6 : Hid (OwnAt w6 b4 (.slice a4 n c4) n N) := HO5.out.below B56
  have HK6 : Hid (OwnAt w6 g3 (.slice a3 m c3) m (ndAt L5)) := HK5.out.below B56
  have HG6 : Hid (OwnAt w6 g5 (.slice a5 m c5) m (ndAt L5)) := HG5.out.below B56
  clear hb6 HO5 HK5 HG5 B56 al5 x5 u5 y5
  go_wp2_with fail
  go_region_held3 (fun w' => w'.cell? ⟨w.heap.size, 0, none⟩ = some (.slice a n c) ∧ w'.cell? ⟨w4.heap.size, 0, none⟩ = some (.slice a4 n c4)) (first | exact ⟨x6, y6⟩ | exact ⟨(hc8 _ _ (Nat.lt_of_lt_of_le z6' zz7)).trans ((hc7 _ _ z6').trans x6), (hc8 _ _ (Nat.lt_of_lt_of_le z6 zz7)).trans ((hc7 _ _ z6).trans y6)⟩ | exact ⟨(hc7 _ _ z6').trans x6, (hc7 _ _ z6).trans y6⟩)
    (first | (go_at_call 6; refine (toValue_any a c n N _ n20 (H.out.below (HB6.out.drew))).mono ?_; rintro e w7 ⟨b7, a7, c7, rfl, l7, m7, ho7, hb7⟩; obtain ⟨hc7, hf7⟩ := bcell hb7; have zz7 := hb7.size) | (go_at_call 8; refine (eqValue_any _ _ n N _ ((HO6.out.below ((Below.drew (Below.refl w6.heap.size w6)).trans (hb7.mono (Nat.le_refl w6.heap.size)))).slice) ho7.slice).mono ?_; rintro e w8 ⟨rfl, hb8⟩; obtain ⟨hc8, hf8⟩ := bcell hb8))
  have B68 : Below w6.heap.size w6 w8 := ((Below.drew (Below.refl w6.heap.size w6)).trans (hb7.mono (Nat.le_refl w6.heap.size))).trans (hb8.mono zz7)
  have x8 : w8.cell? ⟨w.heap.size, 0, none⟩ = some (.slice a n c) := (B68.cell z6').trans x6
  have u8 : w8.cell? ⟨w3.heap.size, 0, none⟩ = some (.slice a3 m c3) := (B68.cell z6u).trans u6
  have y8 : w8.cell? ⟨w4.heap.size, 0, none⟩ = some (.slice a4 n c4) := (B68.cell z6).trans y6
  have v8 : w8.cell? ⟨w5.heap.size, 0, none⟩ = some (.slice a5 m c5) := (B68.cell z6v).trans v6
  have z68 := B68.size
  have HB8 : Hid (Below w.heap.size w w8) := HB6.out.trans (B68.mono HB6.out.size)
  have HO8 : Hid (OwnAt w8 b4 (.slice a4 n c4) n N) := HO6.out.below B68
  have HK8 : Hid (OwnAt w8 g3 (.slice a3 m c3) m (ndAt L5)) := HK6.out.below B68
  have HG8 : Hid (OwnAt w8 g5 (.slice a5 m c5) m (ndAt L5)) := HG6.out.below B68
  clear hb7 hb8 hc7 hf7 hc8 hf8 zz7 B68 ho7 HO6 HK6 HG6 x6 y6 u6 v6 l7 m7
  go_wp2_with fail
  refine (markValue_any _ b4 n N 1 _ (by omega) (by omega) HO8.out).mono ?_
  rintro e w9 ⟨rfl, hb9, ho9⟩
  have z89 := hb9.size
  have x9 : w9.cell? ⟨w.heap.size, 0, none⟩ = some (.slice a n c) := (hb9.cell (by omega) (by omega)).trans x8
  have u9 : w9.cell? ⟨w3.heap.size, 0, none⟩ = some (.slice a3 m c3) := (hb9.cell (by omega) (by omega)).trans u8
  have v9 : w9.cell? ⟨w5.heap.size, 0, none⟩ = some (.slice a5 m c5) := (hb9.cell (by omega) (by omega)).trans v8
  have HB9 : Hid (Below w.heap.size w w9) := HB8.out.trans (hb9.below HB8.out.size (by omega))
  have HK9 : Hid (OwnAt w9 g3 (.slice a3 m c3) m (ndAt L5)) := HK8.out.but2 hb9 (fun h => by have := HL3.out h; omega)
  have HG9 : Hid (OwnAt w9 g5 (.slice a5 m c5) m (ndAt L5)) := HG8.out.but2 hb9 (fun h => by have := HGL.out h; omega)
  clear hb9 ho9 HO8 HK8 HG8 x8 y8 u8 v8
  go_wp2_with fail
  refine (eqValue_any _ _ m (ndAt L5) _ HG9.out.slice HK9.out.slice).mono ?_
  rintro e w10 ⟨rfl, hb10⟩
  have z910 := hb10.size
  have x10 : w10.cell? ⟨w.heap.size, 0, none⟩ = some (.slice a n c) := (hb10.cell (by show w.heap.size < _; omega)).trans x9
  have u10 : w10.cell? ⟨w3.heap.size, 0, none⟩ = some (.slice a3 m c3) := (hb10.cell (by show w3.heap.size < _; omega)).trans u9
  have v10 : w10.cell? ⟨w5.heap.size, 0, none⟩ = some (.slice a5 m c5) := (hb10.cell (by show w5.heap.size < _; omega)).trans v9
  have HB10 : Hid (Below w.heap.size w w10) := HB9.out.trans (hb10.mono HB9.out.size)
  have HK10 : Hid (OwnAt w10 g3 (.slice a3 m c3) m (ndAt L5)) := HK9.out.below hb10
  have HG10 : Hid (OwnAt w10 g5 (.slice a5 m c5) m (ndAt L5)) := HG9.out.below hb10
  clear hb10 HK9 HG9 x9 u9 v9
  go_wp2_with fail
  obtain ⟨g6, hg6, HG10'⟩ : ∃ g6, (w4.heap.size < g6 ∧ g6 ≠ w5.heap.size ∧ (m ≠ 0 → g6 = g5)) ∧ Hid (OwnAt w10 g6 (.slice a5 m c5) m (ndAt L5)) := by
    by_cases hm0 : m = 0
    · refine ⟨w5.heap.size + 1, ⟨by omega, by omega, fun h => absurd hm0 h⟩, ?_⟩
      obtain ⟨a', c', off', e, hn', _⟩ := HG10.out
      exact ⟨a', c', off', e, hn', .inl hm0⟩
    · have := HGL.out hm0
      exact ⟨g5, ⟨by omega, by omega, fun _ => rfl⟩, HG10⟩
  clear HG10
  refine (markValue_any _ g6 m (ndAt L5) 1 _ (by omega) (by omega) HG10'.out).mono ?_
  rintro e w11 ⟨rfl, hb11, ho11⟩
  have z1011 := hb11.size
  have x11 : w11.cell? ⟨w.heap.size, 0, none⟩ = some (.slice a n c) := (hb11.cell (by omega) (by omega)).trans x10
  have u11 : w11.cell? ⟨w3.heap.size, 0, none⟩ = some (.slice a3 m c3) := (hb11.cell (by omega) (by omega)).trans u10
  have v11 : w11.cell? ⟨w5.heap.size, 0, none⟩ = some (.slice a5 m c5) := (hb11.cell (by omega) (by omega)).trans v10
  have HB11 : Hid (Below w.heap.size w w11) := HB10.out.trans (hb11.below HB10.out.size (by omega))
  have HK11 : Hid (OwnAt w11 g3 (.slice a3 m c3) m (ndAt L5)) := HK10.out.but2 hb11 (fun h => by have := HL3.out h; omega)
  have HG11 : Hid (OwnAt w11 g6 (.slice a5 m c5) m (fun i => mk (1 + 5 * i))) := ho11
  clear hb11 ho11 HK10 HG10' x10 u10 v10
  go_wp2_with fail
  refine (heldValue_any _ g6 m 1 _ (by omega) (by omega) HG11.out).mono ?_
  rintro e w12 ⟨rfl, hb12⟩
  have z1112 := hb12.size
  have x12 : w12.cell? ⟨w.heap.size, 0, none⟩ = some (.slice a n c) := (hb12.cell (by show w.heap.size < _; omega)).trans x11
  have u12 : w12.cell? ⟨w3.heap.size, 0, none⟩ = some (.slice a3 m c3) := (hb12.cell (by show w3.heap.size < _; omega)).trans u11
  have v12 : w12.cell? ⟨w5.heap.size, 0, none⟩ = some (.slice a5 m c5) := (hb12.cell (by show w5.heap.size < _; omega)).trans v11
  have HB12 : Hid (Below w.heap.size w w12) := HB11.out.trans (hb12.mono HB11.out.size)
  have HK12 : Hid (OwnAt w12 g3 (.slice a3 m c3) m (ndAt L5)) := HK11.out.below hb12
  have HG12 : Hid (OwnAt w12 g6 (.slice a5 m c5) m (fun i => mk (1 + 5 * i))) := HG11.out.below hb12
  clear hb12 HK11 HG11 x11 u11 v11
  go_wp2_with fail
  refine (toValue_cap a c n N _ n20 (H.out.below HB12.out)).mono ?_
  rintro e w13 ⟨b13, a13, c13, rfl, cc13, l13, m13, ho13, hb13⟩
  have z1213 := hb13.size
  have u13 : w13.cell? ⟨w3.heap.size, 0, none⟩ = some (.slice a3 m c3) := (hb13.cell (by show w3.heap.size < _; omega)).trans u12
  have v13 : w13.cell? ⟨w5.heap.size, 0, none⟩ = some (.slice a5 m c5) := (hb13.cell (by show w5.heap.size < _; omega)).trans v12
  have HB13 : Hid (Below w.heap.size w w13) := HB12.out.trans (hb13.mono HB12.out.size)
  have HO13 : Hid (OwnAt w13 b13 (.slice a13 n c13) n N) := ho13
  have HK13 : Hid (OwnAt w13 g3 (.slice a3 m c3) m (ndAt L5)) := HK12.out.below hb13
  have HG13 : Hid (OwnAt w13 g6 (.slice a5 m c5) m (fun i => mk (1 + 5 * i))) := HG12.out.below hb13
  clear hb13 ho13 HK12 HG12 x12 u12 v12 l13 m13
  go_wp2_with fail
  refine (implClean_own b13 n a13 c13 N _ HO13.out cc13 HSM.out (HTB.out.up HB13.out) (HER.out _ HB13.out)).mono ?_
  rintro e w14 ⟨v14, g', g14, L14, rfl, hg, _, hg14, ho14, hb14⟩
  obtain ⟨rfl, rfl⟩ : g' = g ∧ L14 = L5 := hg.same HQ.out
  rw [← HM.out] at ho14
  obtain ⟨a14, c14, rfl⟩ := ho14.form
  have z1314 := hb14.size
  have u14 : w14.cell? ⟨w3.heap.size, 0, none⟩ = some (.slice a3 m c3) := (hb14.cell (by show w3.heap.size < _; omega)).trans u13
  have v14' : w14.cell? ⟨w5.heap.size, 0, none⟩ = some (.slice a5 m c5) := (hb14.cell (by show w5.heap.size < _; omega)).trans v13
  have z14u : w3.heap.size < w14.heap.size := by omega
  have z14v : w5.heap.size < w14.heap.size := by omega
  have HB14 : Hid (Below w.heap.size w w14) := HB13.out.trans (hb14.mono HB13.out.size)
  have HK14 : Hid (OwnAt w14 g3 (.slice a3 m c3) m (ndAt L14)) := HK13.out.below hb14
  have HG14 : Hid (OwnAt w14 g6 (.slice a5 m c5) m (fun i => mk (1 + 5 * i))) := HG13.out.below hb14
  have HH14 : Hid (OwnAt w14 g14 (.slice a14 m c14) m (ndAt L14)) := ho14
  clear hb14 ho14 HK13 HG13 u13 v13 hg hg14 HO13
  go_wp2_with fail
  have al14 : ∀ o, Below w14.heap.size w14 (w14.alloc o) := fun o => (Below.refl _ _).alloc (Nat.le_refl _) o
  refine (eqValue_any _ _ m (ndAt L14) _ ((HH14.out.below (al14 _)).slice) ((HK14.out.below (al14 _)).slice)).mono ?_
  rintro e w15 ⟨rfl, hb15⟩
  have B45 : Below w14.heap.size w14 w15 := (al14 _).trans (hb15.mono (by simp))
  have v15 : w15.cell? ⟨w5.heap.size, 0, none⟩ = some (.slice a5 m c5) := (B45.cell (by show w5.heap.size < _; omega)).trans v14'
  have z15 := B45.size
  have HB15 : Hid (Below w.heap.size w w15) := HB14.out.trans (B45.mono HB14.out.size)
  have HG15 : Hid (OwnAt w15 g6 (.slice a5 m c5) m (fun i => mk (1 + 5 * i))) := HG14.out.below B45
  clear hb15 HK14 HG14 HH14 al14 B45 v14' u14
  go_wp2_with fail
  refine (heldValue_any _ g6 m 1 _ (by omega) (by omega) HG15.out).mono ?_
  rintro e w16 ⟨rfl, hb16⟩
  have HB16 : Hid (Below w.heap.size w w16) := HB15.out.trans (hb16.mono HB15.out.size)
  clear hb16 HG15
  go_wp2
  go_ret
  exact ⟨rfl, HB16.out⟩

end Go.Proofs.YtbjifclgifkjmaaDoor
namespace Go.Proofs.YtbjifclgifkjmaaDoor
open Go.ChangeShapes Go.WideShapes Go.ChangeAt Go.RowKit
set_option linter.unusedVariables false

set_option maxRecDepth 100000 in
/-- WHAT THE WALK GIVES, for every argument and every world that holds the tables. -/
theorem cleanof_contract (H : Type) (enc : TypeId × Value → H) (W : World) (base : Nat) (args : Array Value) (ds gs : List (DataW H)) (before : List MemPlace)
    (hval : ∀ (j : Nat) t v, Tryd.f3.params[j]? = some t → args[j]? = some v → Value.okWide Tryd.prog W .any base t v)
    (hW : DataW.Whole enc Tryd.prog Tryd.f3.params.toList Rows.fnExactCleanOfSpec.vars false W args.toList ds gs before) (hL : laidMetH Tryd.prog Rows.fnExactCleanOfRow.laid W) :
    Calls Tryd.prog 3 args W fun e W' => ∃ v, e = .returned v ∧ Rows.fnExactCleanOfSpec.post enc Tryd.prog Tryd.f3 false true false false W args v W' := by
  have hW' := hW
  obtain ⟨p, q, hA0, hV, rfl, hfz, hnd⟩ := hW
  have hA : DataW.TrodAll enc Tryd.prog W 0 (fun _ => true) true Tryd.f3.params.toList args.toList ds p := hA0
  rw [Tryd.params3] at hA hval
  obtain ⟨v0, vs0, d0, ds0, p0, q0, hargs, rfl, rfl, h0, r0⟩ := trodAll_cons hA
  obtain ⟨rfl, rfl, rfl⟩ := trodAll_nil r0
  obtain rfl : args = #[v0] := by cases args; simp_all
  obtain ⟨g1, rfl⟩ : ∃ g1, gs = [g1] := by
    cases gs with
    | nil => exact hV.elim
    | cons g gs =>
      cases gs with
      | nil => exact ⟨g, rfl⟩
      | cons g' gs =>
        obtain ⟨_, _, _, _, _, _, _, _, _, _, hs, _⟩ := hV
        exact hs.elim
  have k0 := h0
  have lt0 : ∀ x ∈ p0, x.block < W.heap.size := by obtain ⟨m, hm⟩ := k0; exact DataW.trod_lt m _ _ _ hm
  obtain ⟨a, n, c, N, rfl, hn, harg, hz⟩ := open_value (hval 0 24 v0 rfl rfl) h0
  clear hA0
  have hLL : laidMet Tryd.prog [("math/bits.deBruijn32tab", Rows.laid_math_bits_deBruijn32tab), ("math/bits.deBruijn64tab", Rows.laid_math_bits_deBruijn64tab), ("internal/strconv.uint64pow10", Rows.laid_internal_strconv_uint64pow10), ("loop.example/g00274/impl.errNull", Rows.laid_loop_example_g00274_impl_errNull)] W ∧ handlesMet Tryd.prog [("errors.errorType", Rows.laid_errors_errorType)] W := hL
  have hty := ty_of hLL.2
  have hen := err_of hLL.1
  refine (cleanOf_law a c n N W l4CleanOf_any ⟨hty, World.block_lt_of_cell? _ _ hty, hen⟩ hn harg hz (table hLL.1)).mono fun e W' ⟨he, bel⟩ => ?_
  subst he
  exact ⟨_, rfl, _, _, _, [], _, _, hW', trodAll_mk1 (shut_bool Tryd.underlying4 _), (trodAll_cons_mk (Below.trod laidOut (by kernel_rfl) (of_decide_eq_true (by kernel_rfl)) k0 bel lt0) trodAll_mk0), Below.trodVars laidOut bel (by kernel_rfl) hV, bel.frame _, fun h => by cases h⟩

theorem cleanof_reads (os : Os) {H : Type} (enc : TypeId × Value → H) : ∃ x, DataW.whole enc Tryd.prog ((layClean os).forCall (fun _ _ => 0) ⟨#[], #[.agg #[.slice none 0 0]], []⟩).memory Tryd.f3.params.toList Rows.fnExactCleanOfSpec.vars false #[Value.agg #[.slice none 0 0]].toList 8 = some x :=
  ⟨([.agg [.nil]], [.held (enc (132, .pointer (some ⟨low, 0, none⟩)))], MemPlace.row ⟨1, 0, none⟩ 1), by kernel_rfl⟩
theorem cleanof_laid (os : Os) : laidMetH Tryd.prog Rows.fnExactCleanOfRow.laid ((layClean os).forCall (fun _ _ => 0) ⟨#[], #[.agg #[.slice none 0 0]], []⟩).memory :=
  laidMetH_of_parts (laidMet_of_run' 8 (by kernel_rfl) (by kernel_rfl)) (by kernel_rfl)

set_option maxRecDepth 100000 in
theorem cleanof_lifted (os : Os) (started : os.Started) (H : Type) (enc : TypeId × Value → H) (F : Stop.Interp) :
    ReturnsInHanded {} Tryd.checked os 3 .any ((OpenSpec.ofChange Rows.fnExactCleanOfSpec).preRow enc Tryd.prog Tryd.f3 Rows.fnExactCleanOfRow.domain false Rows.fnExactCleanOfRow.laid) (((OpenSpec.ofChange Rows.fnExactCleanOfSpec).at F).post enc Tryd.prog Tryd.f3 false true false false) := by
  obtain ⟨places, hx⟩ := cleanof_reads os enc
  refine returnsInHanded_of_row (C := Tryd.checked) (s := OpenSpec.ofChange Rows.fnExactCleanOfSpec) own started (by kernel_rfl) Tryd.func3
    (witness_row_at (enc := enc) (C := Tryd.checked) false (layClean os) #[.agg #[.slice none 0 0]] rfl (by kernel_rfl) (by kernel_rfl) (by kernel_rfl)
      (OpenSpec.preRow_of_cond 8 hx (by kernel_rfl) (fun k hk => by cases hk) (by kernel_rfl) (cleanof_laid os))) ?_
  intro W base args ds gs before hval hW _ _ _ hL _ _
  exact cleanof_contract H enc W base args ds gs before hval hW hL

theorem cleanof_said : Rows.FnExactCleanOfSaid :=
  OpenClaim.holds_of_cond 3 Tryd.f3 rfl rfl rfl rfl rfl rfl rfl ⟨rfl, rfl, rfl, rfl, rfl⟩ rfl rfl rfl rfl rfl (by kernel_rfl) Tryd.func3 (by kernel_rfl)
    (of_decide_eq_true (by kernel_rfl)) (by unfold Func.isWrapper; first | (rw [if_pos (by decide +kernel)]; kernel_rfl) | (rw [if_neg (by decide +kernel)]; exact ⟨rfl, rfl⟩))
    (fun os started H enc _ F => by rw [OpenClaim.pre_eq_preRow]; exact cleanof_lifted os started H enc F)

theorem cleanof_plain (f : FuncId) (fn : Func) (hf : Tryd.pinned.checked.prog.funcNamed "loop.example/g00274/laws.FnExactCleanOf" = some f) (hfn : Tryd.pinned.checked.prog.funcs[f]? = some fn) :
    true = Tryd.pinned.checked.prog.looks [] ∧ ∀ (j : Nat) t, fn.params[j]? = some t → Tryd.pinned.checked.prog.wantsStandIn t = false := by
  obtain rfl : f = 3 := Option.some.inj ((show Tryd.prog.funcNamed "loop.example/g00274/laws.FnExactCleanOf" = some 3 by kernel_rfl).symm.trans hf) |>.symm
  obtain rfl : fn = Tryd.f3 := (Option.some.inj (Tryd.func3.symm.trans hfn)).symm
  refine ⟨by kernel_rfl, fun j t ht => ?_⟩
  rw [Tryd.params3] at ht
  obtain rfl : t = 24 := by simpa using Array.mem_of_getElem? ht
  exact (show Tryd.prog.wantsStandIn 24 = false by kernel_rfl)

/-- THE CARD. -/
theorem cleanOf_card : Rows.FnExactCleanOfCardSaid :=
  Claim7.holds_tied_plain_at .later [] _ _ _ _ cleanof_said (fun _ h => by cases h) (by kernel_rfl) (fun _ h => by cases h) fnExactCleanOf_row_tie rfl ⟨rfl, rfl⟩ (by kernel_rfl) rfl cleanof_plain (by kernel_rfl)
#print axioms cleanOf_card

end Go.Proofs.YtbjifclgifkjmaaDoor
