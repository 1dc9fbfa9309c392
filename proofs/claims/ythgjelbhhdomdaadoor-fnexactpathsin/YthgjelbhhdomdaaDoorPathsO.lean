/- The part of a tree that a name leads to: the specification's l3At. The node that names lead to: the program's nodeAt. The part of a tree that names lead to: the specification's l3Get. What names lead to: the same by nodes and by trees. No program in this text. The paths of all nodes: the specification's PathsIn. -/
import Derived.Test.YthgjelbhhdomdaaDoorTreeF
import Derived.Test.YthgjelbhhdomdaaDoorQuote
import Derived.Test.YthgjelbhhdomdaaDoorPathT0
import Derived.Test.YthgjelbhhdomdaaDoorPathsI
import Derived.Test.YthgjelbhhdomdaaDoorSubI
import Derived.Test.YthgjelbhhdomdaaDoorPathsT
namespace Go.Proofs.YthgjelbhhdomdaaDoor
open Go.RowKit
set_option linter.unusedVariables false

/-- Does the name lead to the i-th part? -/
def hitI (k : Int) (nm : List ByteArray) (name : ByteArray) (i : Nat) : Bool := (decide (k = 7) && ((nm.getD i ByteArray.empty).toList == name.toList)) || (decide (k = 6) && ((strL (Lib.decDigits i)).toList == name.toList))
def atI (k : Int) (nm : List ByteArray) (name : ByteArray) (m : Nat) : Option Nat := (List.range m).find? (hitI k nm name)
theorem atI_hit {k : Int} {nm : List ByteArray} {name : ByteArray} {i m : Nat} (hi : i < m) (h : hitI k nm name i = true) (h0 : ∀ j, j < i → hitI k nm name j = false) : atI k nm name m = some i := by
  unfold atI
  obtain ⟨d, rfl⟩ : ∃ d, m = i + (d + 1) := ⟨m - i - 1, by omega⟩
  rw [List.range_add, List.find?_append, List.find?_eq_none.2 (fun x hx => by simp [h0 x (List.mem_range.1 hx)]), List.range_succ_eq_map]
  simp [h]
theorem atI_none {k : Int} {nm : List ByteArray} {name : ByteArray} {m : Nat} (h0 : ∀ j, j < m → hitI k nm name j = false) : atI k nm name m = none := by
  unfold atI
  exact List.find?_eq_none.2 (fun x hx => by simp [h0 x (List.mem_range.1 hx)])
theorem atI_lt {k : Int} {nm : List ByteArray} {name : ByteArray} {m i : Nat} (h : atI k nm name m = some i) : i < m := List.mem_range.1 (List.mem_of_find?_eq_some h)
def atV (o : Option Nat) : Int := match o with
  | some i => (i : Int)
  | none => -1

set_option maxRecDepth 100000 in
set_option maxHeartbeats 4000000 in
theorem l3At_any (k n : Int) (t : ByteArray) (nm : List ByteArray) (ks : List Tr) (v : Value) (name : ByteArray) (w : World) (h : Tree w (.mk k n t nm ks) v) (hnd : k = 7 → nm.length = ks.length) (hc : ks.length ≤ 2 ^ 20) :
    Calls Tryd.prog 95 #[v, .string name] w fun e w' => e = .returned (.int .i64 (atV (atI k nm name ks.length))) ∧ Below w.heap.size w w' := by
  obtain ⟨an, cn, ak, ck, rfl, hnm, hk⟩ := h.open
  have HNM : Hid (NamsAt w (fun _ => True) an nm) := hnm
  have HND : Hid (k = 7 → nm.length = ks.length) := hnd
  clear hnm hk hnd h
  go_enter Tryd.func95, Tryd.ntmps95
  go_wp2_with fail
  go_loopw [9] (fun i wr => ∃ m : Nat, m ≤ ks.length ∧ i = .int .i64 (m : Int) ∧ Hid (∀ j, j < m → hitI k nm name j = false) ∧ Below w.heap.size w wr ∧ w.heap.size < wr.heap.size ∧ wr.cell? ⟨w.heap.size, 0, none⟩ = some (.int .i64 k) ∧ wr.cell? ⟨w.heap.size, 3, none⟩ = some (.slice an nm.length cn)) (fun i _ => ks.length - (intOf i).toNat)
  case atStart => exact ⟨0, Nat.zero_le _, rfl, fun j hj => by omega, by go_grown, by simp, by simp [go_sem], by simp [go_sem]⟩
  case round =>
    obtain ⟨m, hm, rfl, HH, hnx, hzw, u0, u3⟩ := hrel
    by_cases hlt : m < ks.length
    · have j0 : (0 : Int) ≤ (m : Int) := by omega
      have j1 : (m : Int) < (ks.length : Int) := by omega
      by_cases h7 : k = 7
      · have hnl := HND.out h7
        rcases HNM.out with h0 | ⟨gn, rfl, _, hg2, hnc⟩
        · rw [h0] at hnl; simp at hnl; omega
        have hnm2 : wr.cell? ⟨gn, m, none⟩ = some (.string (nm.getD m ByteArray.empty)) := (hnx.cell hg2).trans (hnc m (by omega))
        have j2 : (m : Int) < (nm.length : Int) := by omega
        obtain ⟨nx, hx⟩ : ∃ nx, nx = nm.getD m ByteArray.empty := ⟨_, rfl⟩
        rw [← hx] at hnm2
        have HX : Hid (nx = nm.getD m ByteArray.empty) := hx
        clear hnc hx
        subst h7
        cases heq : (nx.toList == name.toList) with
        | true =>
          have HI : Hid (atI 7 nm name ks.length = some m) := atI_hit hlt (by unfold hitI; rw [← HX.out, heq]; rfl) HH.out
          go_wp2_with fail
          go_ret
          exact ⟨by rw [HI.out]; rfl, hnx⟩
        | false =>
          have HH2 : Hid (∀ j, j < m + 1 → hitI 7 nm name j = false) := fun j hj => by
            by_cases e : j = m
            · subst e; unfold hitI; rw [← HX.out, heq]; rfl
            · exact HH.out j (by omega)
          go_wp2_with fail
          go_roundw
          case rel => exact ⟨m + 1, by omega, by go_num, HH2, hnx, hzw, u0, u3⟩
          case measure => simp [intOf]; omega
      · have e7 : (k == 7) = false := by simpa using h7
        by_cases h6 : k = 6
        · subst h6
          go_wp2_with fail
          refine (l1Num_any _ (m : Int) _ rfl (by omega) (by omega)).mono ?_
          rintro e w1 ⟨rfl, hb1⟩
          have HB : Hid (Below w.heap.size w w1) := hnx.trans (hb1.mono hnx.size)
          have v0 := (hb1.cell (p := ⟨w.heap.size, 0, none⟩) hzw).trans u0
          have v3 := (hb1.cell (p := ⟨w.heap.size, 3, none⟩) hzw).trans u3
          have hz1 : w.heap.size < w1.heap.size := Nat.lt_of_lt_of_le hzw hb1.size
          clear hb1 u0 u3
          rw [show ((m : Int)).toNat = m from rfl]
          cases heq : ((strL (Lib.decDigits m)).toList == name.toList) with
          | true =>
            have HI : Hid (atI 6 nm name ks.length = some m) := atI_hit hlt (by unfold hitI; rw [heq]; simp) HH.out
            go_wp2_with fail
            go_ret
            exact ⟨by rw [HI.out]; rfl, HB.out⟩
          | false =>
            have HH2 : Hid (∀ j, j < m + 1 → hitI 6 nm name j = false) := fun j hj => by
              by_cases e : j = m
              · subst e; unfold hitI; rw [heq]; simp
              · exact HH.out j (by omega)
            go_wp2_with fail
            go_roundw
            case rel => exact ⟨m + 1, by omega, by go_num, HH2, HB.out, hz1, v0, v3⟩
            case measure => simp [intOf]; omega
        · have e6 : (k == 6) = false := by simpa using h6
          have HH2 : Hid (∀ j, j < m + 1 → hitI k nm name j = false) := fun j hj => by unfold hitI; rw [decide_eq_false h7, decide_eq_false h6]; rfl
          go_wp2_with fail
          go_roundw
          case rel => exact ⟨m + 1, by omega, by go_num, HH2, hnx, hzw, u0, u3⟩
          case measure => simp [intOf]; omega
    · obtain rfl : m = ks.length := by omega
      have HI : Hid (atI k nm name ks.length = none) := atI_none HH.out
      go_wp2
      go_ret
      exact ⟨by rw [HI.out]; rfl, hnx⟩

end Go.Proofs.YthgjelbhhdomdaaDoor
namespace Go.Proofs.YthgjelbhhdomdaaDoor
open Go.RowKit
set_option linter.unusedVariables false

/-- The node that names lead to, from k on. -/
def goN (N : Nat → Nd) (len : Nat) : Nat → List ByteArray → Option Nat
  | k, [] => some k
  | k, nm :: r => (findP (partsTo N k len) nm).bind fun p => goN N len p r

theorem parts_mem {N : Nat → Nd} {k j : Nat} {x : ByteArray × Nat} (h : x ∈ partsTo N k j) : x.2 ∈ kidsTo N k j := by
  unfold partsTo at h
  obtain ⟨y, hy, rfl⟩ := List.mem_map.1 h
  exact (List.mem_zipIdx' hy).2 ▸ List.getElem_mem _
theorem findP_kid {N : Nat → Nd} {k len p : Nat} {nm : ByteArray} (h : findP (partsTo N k len) nm = some p) : p ∈ kidsTo N k len := by
  unfold findP at h
  obtain ⟨x, hx, rfl⟩ := Option.map_eq_some_iff.1 h
  exact parts_mem (List.mem_of_find?_eq_some hx)

theorem lst_drop (f : Nat → ByteArray) {m i : Nat} (h : i < m) : (lst f m).drop i = f i :: (lst f m).drop (i + 1) := by
  rw [List.drop_eq_getElem_cons (by rw [lst_length]; exact h)]
  congr 1
  simp [lst]

set_option maxRecDepth 100000 in
set_option maxHeartbeats 2000000 in
theorem nodeAt_any (b off c len : Nat) (N : Nat → Nd) (a : Option Addr) (ca m : Nat) (f : Nat → ByteArray) (w : World) (hlen : len ≤ 80) (h0 : 0 < len) (hpre : ∀ i, i < len → (N i).up < (i : Int)) (hb : b < w.heap.size) (hat : NodesAt w b off len N) (hm : m ≤ 2 ^ 20) (ha : ArgS w a m f) :
    Calls Tryd.prog 62 #[.slice (some ⟨b, off, none⟩) len c, .slice a m ca] w fun e w' => e = .returned (.tuple #[.int .i64 (((goN N len 0 (lst f m)).getD 0 : Nat) : Int), .bool (goN N len 0 (lst f m)).isSome]) ∧ Below w.heap.size w w' := by
  have HAT : Hid (NodesAt w b off len N) := hat
  have HPR : Hid (∀ i, i < len → (N i).up < (i : Int)) := hpre
  have HA : Hid (ArgS w a m f) := ha
  clear hat hpre ha
  go_enter Tryd.func62, Tryd.ntmps62
  go_wp2_with fail
  go_loopw [6, 13] (fun kv iv wr => ∃ (i k : Nat), i ≤ m ∧ iv = .int .i64 (i : Int) ∧ kv = .int .i64 (k : Int) ∧ k < len ∧ Hid (goN N len 0 (lst f m) = goN N len k ((lst f m).drop i)) ∧ Below w.heap.size w wr) (fun _ iv _ => m - (intOf iv).toNat)
  case atStart => exact ⟨0, 0, Nat.zero_le _, rfl, rfl, h0, rfl, Below.refl _ _⟩
  case round =>
    obtain ⟨i, k, hi, rfl, rfl, hk, HG, hnx⟩ := hrel
    by_cases hlt : i < m
    · rcases HA.out with h0' | ⟨ba, oa, rfl, hba, haa⟩
      · omega
      have a0 := (hnx.cell hba).trans (haa i hlt)
      have i0 : (0 : Int) ≤ (i : Int) := by omega
      have i1 : (i : Int) < (m : Int) := by omega
      have HS : Hid (goN N len 0 (lst f m) = (findP (partsTo N k len) (f i)).bind fun p => goN N len p ((lst f m).drop (i + 1))) := by
        show _ = _
        rw [HG.out, lst_drop f hlt, goN]
      have hz := hnx.size
      clear haa
      go_wp2_with fail
      refine ((callsIn_wide (n := 5)).1 (partNamed_in b off c len k N (f i) _ hlen hk (fun j hj hu => by have := HPR.out j hj; omega) (by omega) (HAT.out.below hnx hb))).mono ?_
      rintro e w1 ⟨rfl, hb1⟩
      have HB : Hid (Below w.heap.size w w1) := hnx.trans (hb1.mono hz)
      clear hb1
      cases hf : findP (partsTo N k len) (f i) with
      | none =>
        have HN : Hid (goN N len 0 (lst f m) = none) := by show _ = _; rw [HS.out, hf]; rfl
        dsimp only [Option.getD, Option.isSome]
        go_wp2
        exact bodyPost_ret (v := .tuple #[.int .i64 0, .bool false]) (by simp [results, Tryd.results62, go_sem]) rfl ⟨by rw [HN.out]; rfl, HB.out⟩
      | some p =>
        have HS2 : Hid (goN N len 0 (lst f m) = goN N len p ((lst f m).drop (i + 1))) := by show _ = _; rw [HS.out, hf]; rfl
        have hp : p < len := (kidsTo_mem (findP_kid hf)).2.1
        dsimp only [Option.getD, Option.isSome]
        go_wp2
        go_roundw
        case rel => exact ⟨i + 1, p, by omega, by go_num, rfl, hp, HS2, HB.out⟩
        case measure => simp [intOf]; omega
    · obtain rfl : i = m := by omega
      have HN : Hid (goN N len 0 (lst f i) = some k) := by
        show _ = _
        rw [HG.out, List.drop_of_length_le (by rw [lst_length]; exact Nat.le_refl _), goN]
      go_wp2
      exact bodyPost_ret (v := .tuple #[.int .i64 (k : Int), .bool true]) (by simp [results, Tryd.results62, go_sem]) rfl ⟨by rw [HN.out]; rfl, hnx⟩

end Go.Proofs.YthgjelbhhdomdaaDoor
namespace Go.Proofs.YthgjelbhhdomdaaDoor
open Go.RowKit
set_option linter.unusedVariables false

def getT : Tr → List ByteArray → Option Tr
  | t, [] => some t
  | t, nm :: r => (atI t.kind t.names nm t.kids.length).bind fun i => (t.kids[i]?).bind fun x => getT x r

/-- Five cells at the head of a block that may be written. -/
def FiveAt (w : World) (B : Nat) (x0 x1 x2 x3 x4 : Value) : Prop :=
  (w.cell? ⟨B, 0, none⟩ = some x0 ∧ w.cell? ⟨B, 1, none⟩ = some x1 ∧ w.cell? ⟨B, 2, none⟩ = some x2 ∧ w.cell? ⟨B, 3, none⟩ = some x3 ∧ w.cell? ⟨B, 4, none⟩ = some x4) ∧
  (w.frozen? ⟨B, 0, none⟩ = false ∧ w.frozen? ⟨B, 1, none⟩ = false ∧ w.frozen? ⟨B, 2, none⟩ = false ∧ w.frozen? ⟨B, 3, none⟩ = false ∧ w.frozen? ⟨B, 4, none⟩ = false)
theorem FiveAt.below {w w' : World} {B Z : Nat} {x0 x1 x2 x3 x4 : Value} (h : FiveAt w B x0 x1 x2 x3 x4) (hb : Below Z w w') (hZ : B < Z) : FiveAt w' B x0 x1 x2 x3 x4 := by
  obtain ⟨⟨a0, a1, a2, a3, a4⟩, f0, f1, f2, f3, f4⟩ := h
  exact ⟨⟨(hb.cell hZ).trans a0, (hb.cell hZ).trans a1, (hb.cell hZ).trans a2, (hb.cell hZ).trans a3, (hb.cell hZ).trans a4⟩, (hb.frozen hZ).trans f0, (hb.frozen hZ).trans f1, (hb.frozen hZ).trans f2, (hb.frozen hZ).trans f3, (hb.frozen hZ).trans f4⟩
theorem FiveAt.but {w w' : World} {B C Z : Nat} {x0 x1 x2 x3 x4 : Value} (h : FiveAt w B x0 x1 x2 x3 x4) (hb : BelowBut Z C w w') (hZ : B < Z) (hne : B ≠ C) : FiveAt w' B x0 x1 x2 x3 x4 := by
  obtain ⟨⟨a0, a1, a2, a3, a4⟩, f0, f1, f2, f3, f4⟩ := h
  exact ⟨⟨(hb.cell hZ hne).trans a0, (hb.cell hZ hne).trans a1, (hb.cell hZ hne).trans a2, (hb.cell hZ hne).trans a3, (hb.cell hZ hne).trans a4⟩, (hb.frozen hZ hne).trans f0, (hb.frozen hZ hne).trans f1, (hb.frozen hZ hne).trans f2, (hb.frozen hZ hne).trans f3, (hb.frozen hZ hne).trans f4⟩
theorem FiveAt.set {w : World} {B : Nat} {x0 x1 x2 x3 x4 : Value} (h : FiveAt w B x0 x1 x2 x3 x4) (y0 y1 y2 y3 y4 : Value) :
    FiveAt (((((w.setCell ⟨B, 0, none⟩ y0).setCell ⟨B, 1, none⟩ y1).setCell ⟨B, 2, none⟩ y2).setCell ⟨B, 3, none⟩ y3).setCell ⟨B, 4, none⟩ y4) B y0 y1 y2 y3 y4 ∧ ∀ Z, BelowBut Z B w (((((w.setCell ⟨B, 0, none⟩ y0).setCell ⟨B, 1, none⟩ y1).setCell ⟨B, 2, none⟩ y2).setCell ⟨B, 3, none⟩ y3).setCell ⟨B, 4, none⟩ y4) := by
  obtain ⟨⟨a0, a1, a2, a3, a4⟩, f0, f1, f2, f3, f4⟩ := h
  have p : ∀ o, (((((w.setCell ⟨B, 0, none⟩ y0).setCell ⟨B, 1, none⟩ y1).setCell ⟨B, 2, none⟩ y2).setCell ⟨B, 3, none⟩ y3).setCell ⟨B, 4, none⟩ y4).cell? ⟨B, o, none⟩ =
      if o = 4 then some y4 else if o = 3 then some y3 else if o = 2 then some y2 else if o = 1 then some y1 else if o = 0 then some y0 else w.cell? ⟨B, o, none⟩ := fun o => by
    have e0 : (w.cell? ⟨B, 0, none⟩).isSome = true := by rw [a0]; rfl
    have e1 : ((w.setCell ⟨B, 0, none⟩ y0).cell? ⟨B, 1, none⟩).isSome = true := by rw [cell_set e0, if_neg (by omega), a1]; rfl
    have e2 : (((w.setCell ⟨B, 0, none⟩ y0).setCell ⟨B, 1, none⟩ y1).cell? ⟨B, 2, none⟩).isSome = true := by rw [cell_set e1, if_neg (by omega), cell_set e0, if_neg (by omega), a2]; rfl
    have e3 : ((((w.setCell ⟨B, 0, none⟩ y0).setCell ⟨B, 1, none⟩ y1).setCell ⟨B, 2, none⟩ y2).cell? ⟨B, 3, none⟩).isSome = true := by rw [cell_set e2, if_neg (by omega), cell_set e1, if_neg (by omega), cell_set e0, if_neg (by omega), a3]; rfl
    have e4 : (((((w.setCell ⟨B, 0, none⟩ y0).setCell ⟨B, 1, none⟩ y1).setCell ⟨B, 2, none⟩ y2).setCell ⟨B, 3, none⟩ y3).cell? ⟨B, 4, none⟩).isSome = true := by rw [cell_set e3, if_neg (by omega), cell_set e2, if_neg (by omega), cell_set e1, if_neg (by omega), cell_set e0, if_neg (by omega), a4]; rfl
    rw [cell_set e4, cell_set e3, cell_set e2, cell_set e1, cell_set e0]
  refine ⟨⟨⟨by rw [p]; rfl, by rw [p]; rfl, by rw [p]; rfl, by rw [p]; rfl, by rw [p]; rfl⟩, ?_⟩, fun Z => ?_⟩
  · simp only [World.frozen?_setCell]
    exact ⟨f0, f1, f2, f3, f4⟩
  · exact ((((BelowBut.setCell w _ _).trans (BelowBut.setCell _ _ _)).trans (BelowBut.setCell _ _ _)).trans (BelowBut.setCell _ _ _)).trans (BelowBut.setCell _ _ _)
theorem fiveAt_new (w : World) (x0 x1 x2 x3 x4 : Value) (T : TypeId) : FiveAt (w.alloc (.cells #[x0, x1, x2, x3, x4] T)) w.heap.size x0 x1 x2 x3 x4 :=
  ⟨⟨by rw [World.cell?_alloc_new]; rfl, by rw [World.cell?_alloc_new]; rfl, by rw [World.cell?_alloc_new]; rfl, by rw [World.cell?_alloc_new]; rfl, by rw [World.cell?_alloc_new]; rfl⟩, World.frozen?_alloc_new _ _ _ _, World.frozen?_alloc_new _ _ _ _, World.frozen?_alloc_new _ _ _ _, World.frozen?_alloc_new _ _ _ _, World.frozen?_alloc_new _ _ _ _⟩

theorem Tree.head {w : World} {t : Tr} {v : Value} (h : Tree w t v) : ∃ an cn ak ck, v = .agg #[.int .i64 t.kind, .int .i64 t.num, .string t.text, .slice an t.names.length cn, .slice ak t.kids.length ck] := by
  obtain ⟨k, n, tx, nm, ks⟩ := t
  obtain ⟨an, cn, ak, ck, rfl, _⟩ := h.open
  exact ⟨an, cn, ak, ck, rfl⟩
theorem Tree.kid {w : World} {t x : Tr} {an cn ak ck i : _} (h : Tree w t (.agg #[.int .i64 t.kind, .int .i64 t.num, .string t.text, .slice an t.names.length cn, .slice ak t.kids.length ck])) (hx : t.kids[i]? = some x) :
    ∃ g, ak = some ⟨g, 0, none⟩ ∧ g < w.heap.size ∧ KidAt w (fun _ => True) x g i := by
  obtain ⟨k, n, tx, nm, ks⟩ := t
  obtain ⟨an', cn', ak', ck', e, _, hk⟩ := h.open
  simp only [Value.agg.injEq, Array.mk.injEq, List.cons.injEq, and_true] at e
  obtain ⟨_, _, _, _, e⟩ := e
  obtain ⟨rfl, _, _⟩ : ak = ak' ∧ _ ∧ ck = ck' := by simpa using e
  rcases hk with h0 | ⟨g, rfl, hg, hkid⟩
  · have : ([] : List Tr)[i]? = some x := by rw [← h0]; exact hx
    simp at this
  · exact ⟨g, rfl, hg, hkid i x hx⟩

/-- WHAT l3Get ANSWERS. -/
def GotIs (t : Tr) (l : List ByteArray) (w : World) (e : Ending) (w' : World) : Prop :=
  ∃ (k n : Int) (tx : ByteArray) (an : Option Addr) (mn cn : Nat) (ak : Option Addr) (mk ck : Nat), e = .returned (.tuple #[.agg #[.int .i64 k, .int .i64 n, .string tx, .slice an mn cn, .slice ak mk ck], .bool (getT t l).isSome]) ∧ (∀ x, getT t l = some x → Tree w' x (.agg #[.int .i64 k, .int .i64 n, .string tx, .slice an mn cn, .slice ak mk ck])) ∧ Below w.heap.size w w'

def z5 : Value := .slice none 0 0
set_option maxRecDepth 100000 in
set_option maxHeartbeats 4000000 in
theorem l3Get_any (t : Tr) (v : Value) (a : Option Addr) (ca m : Nat) (f : Nat → ByteArray) (w : World) (h : Tree w t v) (hnd : t.named) (hc : t.cnt ≤ 2 ^ 20) (hm : m ≤ 2 ^ 20) (ha : ArgS w a m f) :
    Calls Tryd.prog 61 #[v, .slice a m ca] w (GotIs t (lst f m) w) := by
  obtain ⟨k, n, tx, nm, ks⟩ := t
  obtain ⟨an, cn, ak, ck, rfl⟩ := h.head
  dsimp only [Tr.kind, Tr.num, Tr.text, Tr.names, Tr.kids] at h ⊢
  have HT : Hid (Tree w (.mk k n tx nm ks) (.agg #[.int .i64 k, .int .i64 n, .string tx, .slice an nm.length cn, .slice ak ks.length ck]) ∧ (Tr.mk k n tx nm ks).named ∧ (Tr.mk k n tx nm ks).cnt ≤ 2 ^ 20) := ⟨h, hnd, hc⟩
  have HA : Hid (ArgS w a m f) := ha
  have hf0 := fiveAt_new w (.int .i64 k) (.int .i64 n) (.string tx) (.slice an nm.length cn) (.slice ak ks.length ck) 59
  have hf1 := fiveAt_new (w.alloc (.cells #[.int .i64 k, .int .i64 n, .string tx, .slice an nm.length cn, .slice ak ks.length ck] 59)) (.int .i64 0) (.int .i64 0) (.string ⟨#[]⟩) (.slice none 0 0) (.slice none 0 0) 59
  rw [World.size_alloc] at hf1
  have HF0 : Hid (FiveAt ((w.alloc (.cells #[.int .i64 k, .int .i64 n, .string tx, .slice an nm.length cn, .slice ak ks.length ck] 59)).alloc (.cells #[.int .i64 0, .int .i64 0, .string ⟨#[]⟩, .slice none 0 0, .slice none 0 0] 59)) w.heap.size (.int .i64 k) (.int .i64 n) (.string tx) (.slice an nm.length cn) (.slice ak ks.length ck)) := hf0.below ((Below.refl _ _).alloc (Nat.le_refl _) _) (by simp)
  have HF1 : Hid (FiveAt ((w.alloc (.cells #[.int .i64 k, .int .i64 n, .string tx, .slice an nm.length cn, .slice ak ks.length ck] 59)).alloc (.cells #[.int .i64 0, .int .i64 0, .string ⟨#[]⟩, .slice none 0 0, .slice none 0 0] 59)) (w.heap.size + 1) (.int .i64 0) (.int .i64 0) (.string ⟨#[]⟩) (.slice none 0 0) (.slice none 0 0)) := hf1
  clear h hnd ha hf0 hf1 hc
  go_enter Tryd.func61, Tryd.ntmps61
  go_wp2_with fail
  go_loopw [11] (fun iv wr => ∃ (i : Nat) (k' n' : Int) (tx' : ByteArray) (nm' : List ByteArray) (ks' : List Tr) (an' : Option Addr) (cn' : Nat) (ak' : Option Addr) (ck' : Nat), i ≤ m ∧ iv = .int .i64 (i : Int) ∧ w.heap.size + 1 < wr.heap.size ∧
      Hid ((Tree w (.mk k' n' tx' nm' ks') (.agg #[.int .i64 k', .int .i64 n', .string tx', .slice an' nm'.length cn', .slice ak' ks'.length ck']) ∧ (Tr.mk k' n' tx' nm' ks').named ∧ (Tr.mk k' n' tx' nm' ks').cnt ≤ 2 ^ 20) ∧ getT (.mk k n tx nm ks) (lst f m) = getT (.mk k' n' tx' nm' ks') ((lst f m).drop i)) ∧
      Hid (Below w.heap.size w wr ∧ FiveAt wr w.heap.size (.int .i64 k') (.int .i64 n') (.string tx') (.slice an' nm'.length cn') (.slice ak' ks'.length ck') ∧ FiveAt wr (w.heap.size + 1) (.int .i64 0) (.int .i64 0) (.string ⟨#[]⟩) (.slice none 0 0) (.slice none 0 0))) (fun iv _ => m - (intOf iv).toNat)
  case atStart => exact ⟨0, k, n, tx, nm, ks, an, cn, ak, ck, Nat.zero_le _, rfl, by simp, ⟨HT.out, rfl⟩, ((Below.refl _ w).alloc (Nat.le_refl _) _).alloc (by simp) _, HF0.out, HF1.out⟩
  case round =>
    obtain ⟨i, k', n', tx', nm', ks', an', cn', ak', ck', hi, rfl, hz, HS, HW⟩ := hrel
    have hz' : w.heap.size < wr.heap.size := by omega
    obtain ⟨hnx, ⟨⟨x0, x1, x2, x3, x4⟩, f0, f1, f2, f3, f4⟩, ⟨y0, y1, y2, y3, y4⟩, g0, g1, g2, g3, g4⟩ := HW.out
    by_cases hlt : i < m
    · rcases HA.out with h0' | ⟨ba, oa, rfl, hba, haa⟩
      · omega
      have a0 := (hnx.cell hba).trans (haa i hlt)
      have i0 : (0 : Int) ≤ (i : Int) := by omega
      have i1 : (i : Int) < (m : Int) := by omega
      have HG : Hid (getT (.mk k n tx nm ks) (lst f m) = (atI k' nm' (f i) ks'.length).bind fun j => (ks'[j]?).bind fun x => getT x ((lst f m).drop (i + 1))) := by
        show _ = _
        rw [HS.out.2, lst_drop f hlt, getT]
        rfl
      have HB : Hid (Below w.heap.size w wr) := hnx
      have hkl : ks'.length ≤ 2 ^ 20 := by
        have h1 := Tr.len_cnts ks'
        have h2 := HS.out.1.2.2
        rw [Tr.cnt] at h2
        omega
      have hnm7 : k' = 7 → nm'.length = ks'.length := by
        have := HS.out.1.2.1
        rw [Tr.named] at this
        exact this.1
      clear haa hnx
      go_wp2_with fail
      refine (l3At_any k' n' tx' nm' ks' _ (f i) _ (HS.out.1.1.below (HB.out)) hnm7 hkl).mono ?_
      rintro e w1 ⟨rfl, hb1⟩
      have hz1 : w.heap.size + 1 < w1.heap.size := Nat.lt_of_lt_of_le hz hb1.size
      have HB1 : Hid (Below w.heap.size w w1) := HB.out.trans (hb1.mono (by omega))
      have hF := HW.out.2.1.below hb1 hz'
      have hR := HW.out.2.2.below hb1 hz
      obtain ⟨⟨u0, u1, u2, u3, u4⟩, p0, p1, p2, p3, p4⟩ := id hF
      obtain ⟨⟨v0, v1, v2, v3, v4⟩, q0, q1, q2, q3, q4⟩ := id hR
      have HF : Hid (FiveAt w1 w.heap.size (.int .i64 k') (.int .i64 n') (.string tx') (.slice an' nm'.length cn') (.slice ak' ks'.length ck')) := hF
      have HR : Hid (FiveAt w1 (w.heap.size + 1) (.int .i64 0) (.int .i64 0) (.string ⟨#[]⟩) (.slice none 0 0) (.slice none 0 0)) := hR
      clear hb1 x0 x1 x2 x3 x4 f0 f1 f2 f3 f4 y0 y1 y2 y3 y4 g0 g1 g2 g3 g4 hF hR
      cases hat : atI k' nm' (f i) ks'.length with
      | none =>
        have HN : Hid (getT (.mk k n tx nm ks) (lst f m) = none) := by show _ = _; rw [HG.out, hat]; rfl
        have hlt0 : (-1 : Int) < 0 := by decide
        rw [show atV none = (-1 : Int) from rfl]
        have HQ := HR.out.set (.int .i64 0) (.int .i64 0) (.string ⟨#[]⟩) (.slice none 0 0) (.slice none 0 0)
        obtain ⟨⟨⟨s0, s1, s2, s3, s4⟩, _⟩, hbb⟩ := id HQ
        have HBF : Hid (Below w.heap.size w (((((w1.setCell ⟨w.heap.size + 1, 0, none⟩ (.int .i64 0)).setCell ⟨w.heap.size + 1, 1, none⟩ (.int .i64 0)).setCell ⟨w.heap.size + 1, 2, none⟩ (.string ⟨#[]⟩)).setCell ⟨w.heap.size + 1, 3, none⟩ (.slice none 0 0)).setCell ⟨w.heap.size + 1, 4, none⟩ (.slice none 0 0))) := HB1.out.trans ((hbb w.heap.size).below (Nat.le_refl _) (by omega))
        clear HQ hbb
        go_wp2_with fail
        exact bodyPost_ret (v := .tuple #[.agg #[.int .i64 0, .int .i64 0, .string ⟨#[]⟩, .slice none 0 0, .slice none 0 0], .bool false]) (by simp [results, Tryd.results61, go_sem, s0, s1, s2, s3, s4]) rfl ⟨_, _, _, _, _, _, _, _, _, by rw [HN.out]; rfl, fun x hx => by rw [HN.out] at hx; simp at hx, HBF.out⟩
      | some j =>
        have hjl : j < ks'.length := atI_lt hat
        obtain ⟨x, hx⟩ : ∃ x, ks'[j]? = some x := ⟨ks'[j], List.getElem?_eq_getElem hjl⟩
        have HN : Hid (getT (.mk k n tx nm ks) (lst f m) = getT x ((lst f m).drop (i + 1))) := by show _ = _; rw [HG.out, hat]; show (ks'[j]?).bind _ = _; rw [hx]; rfl
        obtain ⟨g, rfl, hgl, hkid⟩ := Tree.kid (t := .mk k' n' tx' nm' ks') HS.out.1.1 hx
        obtain ⟨an2, cn2, ak2, ck2, _, _, _, _, _, htr⟩ := hkid.cells
        obtain ⟨c0, c1, c2, c3, c4⟩ : w1.cell? ⟨g, j * 5, none⟩ = some (.int .i64 x.kind) ∧ w1.cell? ⟨g, j * 5 + 1, none⟩ = some (.int .i64 x.num) ∧ w1.cell? ⟨g, j * 5 + 2, none⟩ = some (.string x.text) ∧ w1.cell? ⟨g, j * 5 + 3, none⟩ = some (.slice an2 x.names.length cn2) ∧ w1.cell? ⟨g, j * 5 + 4, none⟩ = some (.slice ak2 x.kids.length ck2) := by
          refine ⟨?_, ?_, ?_, ?_, ?_⟩ <;> rw [HB1.out.cell (by show g < _; omega)] <;> assumption
        have hnj : ¬ ((j : Int) < 0) := by omega
        have j0 : (0 : Int) ≤ (j : Int) := by omega
        have j1 : (j : Int) < (ks'.length : Int) := by omega
        rw [show atV (some j) = (j : Int) from rfl]
        have HQ := HF.out.set (.int .i64 x.kind) (.int .i64 x.num) (.string x.text) (.slice an2 x.names.length cn2) (.slice ak2 x.kids.length ck2)
        have HBF : Hid (Below w.heap.size w (((((w1.setCell ⟨w.heap.size, 0, none⟩ (.int .i64 x.kind)).setCell ⟨w.heap.size, 1, none⟩ (.int .i64 x.num)).setCell ⟨w.heap.size, 2, none⟩ (.string x.text)).setCell ⟨w.heap.size, 3, none⟩ (.slice an2 x.names.length cn2)).setCell ⟨w.heap.size, 4, none⟩ (.slice ak2 x.kids.length ck2))) := HB1.out.trans ((HQ.2 w.heap.size).below (Nat.le_refl _) (Nat.le_refl _))
        have HRF := HR.out.but (HQ.2 w1.heap.size) hz1 (by omega)
        have HQ1 : Hid (FiveAt (((((w1.setCell ⟨w.heap.size, 0, none⟩ (.int .i64 x.kind)).setCell ⟨w.heap.size, 1, none⟩ (.int .i64 x.num)).setCell ⟨w.heap.size, 2, none⟩ (.string x.text)).setCell ⟨w.heap.size, 3, none⟩ (.slice an2 x.names.length cn2)).setCell ⟨w.heap.size, 4, none⟩ (.slice ak2 x.kids.length ck2)) w.heap.size (.int .i64 x.kind) (.int .i64 x.num) (.string x.text) (.slice an2 x.names.length cn2) (.slice ak2 x.kids.length ck2) ∧ FiveAt (((((w1.setCell ⟨w.heap.size, 0, none⟩ (.int .i64 x.kind)).setCell ⟨w.heap.size, 1, none⟩ (.int .i64 x.num)).setCell ⟨w.heap.size, 2, none⟩ (.string x.text)).setCell ⟨w.heap.size, 3, none⟩ (.slice an2 x.names.length cn2)).setCell ⟨w.heap.size, 4, none⟩ (.slice ak2 x.kids.length ck2)) (w.heap.size + 1) (.int .i64 0) (.int .i64 0) (.string ⟨#[]⟩) (.slice none 0 0) (.slice none 0 0)) := ⟨HQ.1, HRF⟩
        have hxm := List.mem_of_getElem? hx
        have HX : Hid (x.named ∧ x.cnt ≤ 2 ^ 20) := by
          have h1 := HS.out.1.2.1
          rw [Tr.named] at h1
          have h2 := HS.out.1.2.2
          rw [Tr.cnt] at h2
          have h3 := Tr.cnt_mem hxm
          exact ⟨Tr.nameds_mem.1 h1.2 x hxm, by omega⟩
        have HTX : Hid (Tree w x (.agg #[.int .i64 x.kind, .int .i64 x.num, .string x.text, .slice an2 x.names.length cn2, .slice ak2 x.kids.length ck2])) := htr
        clear HQ HRF hkid htr
        go_wp2_with fail
        go_roundw
        case rel =>
          refine ⟨i + 1, x.kind, x.num, x.text, x.names, x.kids, an2, cn2, ak2, ck2, by omega, by go_num, by simpa [World.setCell] using hz1, ?_, HBF.out, HQ1.out⟩
          obtain ⟨_, _, _, _, _⟩ := x
          exact ⟨⟨HTX.out, HX.out⟩, HN.out⟩
        case measure => simp [intOf]; omega
    · obtain rfl : i = m := by omega
      have HN : Hid (getT (.mk k n tx nm ks) (lst f i) = some (.mk k' n' tx' nm' ks')) := by
        show _ = _
        rw [HS.out.2, List.drop_of_length_le (by rw [lst_length]; exact Nat.le_refl _), getT]
      have HQ := HW.out.2.2.set (.int .i64 k') (.int .i64 n') (.string tx') (.slice an' nm'.length cn') (.slice ak' ks'.length ck')
      obtain ⟨⟨⟨s0, s1, s2, s3, s4⟩, _⟩, hbb⟩ := id HQ
      have HBF : Hid (Below w.heap.size w (((((wr.setCell ⟨w.heap.size + 1, 0, none⟩ (.int .i64 k')).setCell ⟨w.heap.size + 1, 1, none⟩ (.int .i64 n')).setCell ⟨w.heap.size + 1, 2, none⟩ (.string tx')).setCell ⟨w.heap.size + 1, 3, none⟩ (.slice an' nm'.length cn')).setCell ⟨w.heap.size + 1, 4, none⟩ (.slice ak' ks'.length ck'))) := HW.out.1.trans ((hbb w.heap.size).below (Nat.le_refl _) (by omega))
      clear HQ hbb hnx
      go_wp2_with fail
      exact bodyPost_ret (v := .tuple #[.agg #[.int .i64 k', .int .i64 n', .string tx', .slice an' nm'.length cn', .slice ak' ks'.length ck'], .bool true]) (by simp [results, Tryd.results61, go_sem, s0, s1, s2, s3, s4]) rfl ⟨_, _, _, _, _, _, _, _, _, by rw [HN.out]; rfl, fun x hx => by rw [HN.out] at hx; simp at hx; subst hx; exact HS.out.1.1.below HBF.out, HBF.out⟩

end Go.Proofs.YthgjelbhhdomdaaDoor
namespace Go.Proofs.YthgjelbhhdomdaaDoor
open Go.RowKit
set_option linter.unusedVariables false

/-- Only a list and a map have parts. -/
theorem good_kids {N : Nat → Nd} {n k p : Nat} (h : GoodV N n) (hp : p ∈ kidsTo N k n) : (N k).kind = 6 ∨ (N k).kind = 7 := by
  obtain ⟨h1, h2, h3⟩ := kidsTo_mem hp
  have hpar : par N p = k := by unfold par; rw [h3]; rfl
  rcases (h.1.2.2 p h2).2.1 with ⟨e, _⟩ | ⟨_, _, _, _, ⟨h, _⟩ | ⟨h, _⟩⟩
  · omega
  · rw [hpar] at h; exact .inl h
  · rw [hpar] at h; exact .inr h
theorem good_up {N : Nat → Nd} {n : Nat} (h : GoodV N n) : ∀ i, i < n → (N i).up < (i : Int) := fun i hi => by
  have hp := good_pre h
  by_cases h0 : i = 0
  · subst h0
    rw [hp.1 hi]
    decide
  · exact (hp.2 i (by omega) hi).2.1

theorem parts_at {N : Nat → Nd} {k n i p : Nat} (h : (kidsTo N k n)[i]? = some p) : (partsTo N k n)[i]? = some (nmAt N k i p, p) := by
  unfold partsTo
  rw [List.getElem?_map, List.getElem?_zipIdx, h]
  simp

theorem hit_is {N : Nat → Nd} {n k i p : Nat} (hg : GoodV N n) (nm : ByteArray) (h : (kidsTo N k n)[i]? = some p) : hitI (N k).kind (kidNames N k (kidsTo N k n)) nm i = ((nmAt N k i p).toList == nm.toList) := by
  rcases good_kids hg (List.mem_of_getElem? h) with h6 | h7
  · unfold hitI nmAt
    rw [if_pos h6, h6]
    simp
  · have hn : (kidNames N k (kidsTo N k n)).getD i ByteArray.empty = (N p).name := by
      unfold kidNames
      rw [if_pos h7, List.getD_eq_getElem?_getD, List.getElem?_map, h]
      rfl
    unfold hitI nmAt
    rw [hn, if_neg (by rw [h7]; decide), h7]
    simp

theorem find_at {N : Nat → Nd} {n k : Nat} (hg : GoodV N n) (nm : ByteArray) : findP (partsTo N k n) nm = (atI (N k).kind (kidNames N k (kidsTo N k n)) nm (kidsTo N k n).length).bind fun i => (kidsTo N k n)[i]? := by
  cases ha : atI (N k).kind (kidNames N k (kidsTo N k n)) nm (kidsTo N k n).length with
  | none =>
    have hno : noneOf nm (partsTo N k n) := fun x hx => by
      obtain ⟨i, hi⟩ := List.mem_iff_getElem?.1 hx
      have hil : i < (kidsTo N k n).length := by
        have := (List.getElem?_eq_some_iff.1 hi).1
        rwa [partsTo_len] at this
      have hp : (kidsTo N k n)[i]? = some (kidsTo N k n)[i] := List.getElem?_eq_getElem hil
      have e := (parts_at hp).symm.trans hi
      obtain rfl := Option.some.inj e
      have := List.find?_eq_none.1 ha i (List.mem_range.2 hil)
      rw [hit_is hg nm hp] at this
      simpa using this
    rw [find_none hno]
    rfl
  | some i =>
    have hil := atI_lt ha
    have hp : (kidsTo N k n)[i]? = some (kidsTo N k n)[i] := List.getElem?_eq_getElem hil
    have hh : hitI (N k).kind (kidNames N k (kidsTo N k n)) nm i = true := List.find?_some ha
    have hit : hitOf nm ((partsTo N k n).take (i + 1)) := by
      refine ⟨(partsTo N k n).take i, (nmAt N k i (kidsTo N k n)[i], (kidsTo N k n)[i]), ?_, fun x hx => ?_, ?_⟩
      · rw [List.take_add_one, parts_at hp]; rfl
      · obtain ⟨j, hj⟩ := List.mem_iff_getElem?.1 hx
        have hjl := (List.getElem?_eq_some_iff.1 hj).1
        rw [List.length_take] at hjl
        have hji : j < i := by omega
        rw [List.getElem?_take_of_lt hji] at hj
        have hpj : (kidsTo N k n)[j]? = some (kidsTo N k n)[j] := List.getElem?_eq_getElem (by omega)
        have e := (parts_at hpj).symm.trans hj
        obtain rfl := Option.some.inj e
        have hne : hitI (N k).kind (kidNames N k (kidsTo N k n)) nm j = false := by
          have := (List.find?_range_eq_some.1 ha).2.2 j hji
          simpa using this
        rw [hit_is hg nm hpj] at hne
        exact hne
      · rw [← hit_is hg nm hp]; exact hh
    rw [find_hit hit (List.take_prefix _ _)]
    show some (lastN _) = (kidsTo N k n)[i]?
    rw [hp]
    congr 1
    unfold lastN
    rw [List.take_add_one, parts_at hp]
    simp

/-- BY NODES AND BY TREES THE SAME IS FOUND. -/
theorem get_go {N : Nat → Nd} {n : Nat} (hg : GoodV N n) : ∀ (l : List ByteArray) (k : Nat), k < n → getT (tree N n k) l = (goN N n k l).map (tree N n) := by
  intro l
  induction l with
  | nil => intro k hk; rfl
  | cons nm r ih =>
    intro k hk
    rw [goN, find_at hg nm, tree_eq hk, getT]
    show (atI (N k).kind (kidNames N k (kidsTo N k n)) nm ((kidsTo N k n).map (tree N n)).length).bind _ = _
    rw [List.length_map]
    cases ha : atI (N k).kind (kidNames N k (kidsTo N k n)) nm (kidsTo N k n).length with
    | none => rfl
    | some i =>
      have hil := atI_lt ha
      have hp : (kidsTo N k n)[i]? = some (kidsTo N k n)[i] := List.getElem?_eq_getElem hil
      have hm := kidsTo_mem (List.mem_of_getElem? hp)
      show (((kidsTo N k n).map (tree N n))[i]?).bind _ = Option.map _ (((kidsTo N k n)[i]?).bind _)
      rw [List.getElem?_map, hp]
      exact ih _ hm.2.1

end Go.Proofs.YthgjelbhhdomdaaDoor
namespace Go.Proofs.YthgjelbhhdomdaaDoor
open Go.RowKit
set_option linter.unusedVariables false

theorem tree_short {N : Nat → Nd} {n : Nat} (h : GoodV N n) : ∀ d k, n - k = d → k < n → (tree N n k).short := by
  intro d
  induction d using Nat.strongRecOn with
  | _ d ih =>
    intro k hd hk
    rw [tree_eq hk, Tr.short]
    refine ⟨fun x hx => ?_, Tr.shorts_mem.2 fun t ht => ?_⟩
    · unfold kidNames at hx
      split at hx
      · obtain ⟨p, hp, rfl⟩ := List.mem_map.1 hx
        obtain ⟨_, p2, _⟩ := kidsTo_mem hp
        exact plain_short (name_plain (h.1.2.2 p p2).2.1)
      · simp at hx
    · obtain ⟨p, hp, rfl⟩ := List.mem_map.1 ht
      obtain ⟨p1, p2, p3⟩ := kidsTo_mem hp
      exact ih (n - p) (by omega) p rfl p2
theorem whole_paths {N : Nat → Nd} {n : Nat} (h : GoodV N n) : (tree N n 0).paths [] = (List.range n).map (pth N) := by
  have he : IsEnd N n 0 n := ⟨h.1.1, Nat.le_refl _, fun i h1 h2 => by have := (good_pre h).2 i h1 h2; omega, fun h => by omega⟩
  have := paths_tree (good_pre h) (fun k p hp => good_kids h hp) n 0 rfl h.1.1 n he
  rw [pth_zero] at this
  rw [this, Nat.sub_zero, List.range_eq_range']

set_option maxRecDepth 100000 in
set_option maxHeartbeats 2000000 in
theorem specPaths_own (b n : Nat) (a : Option Addr) (c : Nat) (N : Nat → Nd) (w : World) (h : OwnAt w b (.slice a n c) n N) (hsm : SmallN n N) :
    Calls Tryd.prog 30 #[.agg #[.slice a n c]] w (PathsIs N n w) := by
  have HO : Hid (OwnAt w b (.slice a n c) n N) := h
  have HSM : Hid (SmallN n N) := hsm
  have hbl : ∀ o, Below w.heap.size w (w.alloc o) := fun o => (Below.refl _ _).alloc (Nat.le_refl _) o
  clear h hsm
  go_enter Tryd.func30, Tryd.ntmps30
  go_wp2_with fail
  refine (specGood_own b n a c N _ (HO.out.below (hbl _)) HSM.out).mono ?_
  rintro e w2 ⟨q, rfl, hq, hb2⟩
  have hx2 : w2.cell? ⟨w.heap.size, 0, none⟩ = some (.slice a n c) := by rw [hb2.cell (by simp)]; simp [go_sem]
  have HB2 : Hid (Below w.heap.size w w2) := (hbl _).trans (hb2.mono (by simp))
  clear hb2 hbl
  cases q with
  | false =>
    have HN : Hid (¬ (GoodV N n ∧ GoodPaths N n)) := fun h => by have := hq.2 h.1; simp at this
    clear hq
    go_wp2_with fail
    exact bodyPost_ret (v := .tuple #[.slice none 0 0, .bool false]) (by simp [results, Tryd.results30, go_sem]) rfl (PathsIs.no HN.out HB2.out)
  | true =>
    have HG : Hid (GoodV N n) := hq.1 rfl
    clear hq
    have n80 : n ≤ 80 := HG.out.1.2.1
    have hs1 := HG.out.1
    have HTS : Hid (TreeSaid N n 0) := l1Tree_any N n hs1.2.1 n 0 rfl hs1.1
    have HCN : Hid ((tree N n 0).cnt = n ∧ (tree N n 0).named ∧ (tree N n 0).short) := ⟨good_cnt HG.out, tree_named N n n 0 rfl hs1.1, tree_short HG.out n 0 rfl hs1.1⟩
    clear hs1
    go_wp2_with fail
    refine (HTS.out _ _ _ ((own_arg HO.out).below HB2.out)).mono ?_
    rintro e w3 ⟨an, cn, mn, ak, ck, mk', rfl, ht3, hb3⟩
    have HT3 : Hid (TreeIs w3 (fun b => some b ≠ (Value.slice none 0 0).ownBlock) (tree N n 0) _) := TreeIs.keep (fun _ _ _ => rfl) (fun b _ _ e => by cases e) (Nat.le_refl _) _ _ ht3
    have HB3 : Hid (Below w.heap.size w w3) := HB2.out.trans (hb3.mono HB2.out.size)
    clear ht3 hb3
    go_wp2_with fail
    refine (l3Paths_any (tree N n 0) _ (.slice none 0 0) none 0 [] [] w3.heap.size w3 HT3.out HCN.out.2.1 HCN.out.2.2 (.inl ⟨rfl, rfl, rfl⟩) (World.ownsRow_nil _ _ _ _) (Nat.le_refl _) (by rw [HCN.out.1]; simp; omega) (by rw [HCN.out.1]; simp; omega) (fun x hx => by simp at hx)).mono ?_
    rintro e w4 ⟨lv, rfl, ho4, hg4, _⟩
    rw [List.nil_append, show pathL ([] : List ByteArray) = [] from rfl, whole_paths HG.out] at ho4
    obtain ⟨l, hl⟩ : ∃ l, l = (List.range n).map (pth N) := ⟨_, rfl⟩
    rw [← hl] at ho4
    have hll : l.length = n := by rw [hl]; simp
    have HL : Hid (∀ i, i < n → l.getD i [] = pth N i) := fun i hi => by
      rw [hl, List.getD_eq_getElem?_getD, List.getElem?_map, List.getElem?_range hi]
      rfl
    have HB4 : Hid (Below w.heap.size w w4) := HB3.out.trans (⟨hg4.os, hg4.tape, hg4.output, hg4.size, fun k hk => hg4.block k (by have := HB3.out.size; omega) (fun e => by cases e)⟩)
    obtain ⟨g4, hg4', hown4⟩ := own_rowS ho4 (by omega)
    have HW4 : Hid (w.heap.size ≤ g4) := by have := HB3.out.size; show _ ≤ _; omega
    obtain ⟨a4, c4, rfl, _, h0 | ⟨rfl, hlt4, st4⟩⟩ := hown4
    · have := HG.out.1.1; omega
    have HST : Hid (StrsAt w4 g4 n (fun i => strL (pth N i))) := by
      have := st4.congr (f' := fun i => strL (pth N i)) (fun i hi => by show strL (l.getD i []) = _; rw [HL.out i (by omega)])
      rwa [hll] at this
    have HLT : Hid (g4 < w4.heap.size) := hlt4
    rw [hll]
    clear ho4 hl hll HL hg4 hg4' st4 hlt4
    go_wp2_with fail
    go_loopw [15] (fun i wr => ∃ k : Nat, k ≤ n ∧ i = .int .i64 k ∧ Hid (∀ p, p < k → (pth N p).length ≤ 60) ∧ Below w4.heap.size w4 wr) (fun i _ => n - (intOf i).toNat)
    case atStart => exact ⟨0, Nat.zero_le _, rfl, fun p hp => by omega, Below.refl _ _⟩
    case round =>
      obtain ⟨k, hk, rfl, HS, hnx⟩ := hrel
      by_cases hlt : k < n
      · have a0 := (hnx.cell (p := ⟨g4, k, none⟩) HLT.out).trans (HST.out k hlt).1
        have i0 : (0 : Int) ≤ (k : Int) := by omega
        have i1 : (k : Int) < (n : Int) := by omega
        have hsz : (strL (pth N k)).size = (pth N k).length := strL_size _
        by_cases h60 : (pth N k).length ≤ 60
        · have h61 : ¬ (60 : Int) < ((strL (pth N k)).size : Int) := by omega
          have HS' : Hid (∀ p, p < k + 1 → (pth N p).length ≤ 60) := fun p hp => by
            by_cases e : p = k
            · subst e; exact h60
            · exact HS.out p (by omega)
          clear hsz
          go_wp2
          go_roundw
          case rel => exact ⟨k + 1, by omega, by go_num, HS', hnx⟩
          case measure => simp [intOf]; omega
        · have h61 : (60 : Int) < ((strL (pth N k)).size : Int) := by omega
          have HN : Hid (¬ (GoodV N n ∧ GoodPaths N n)) := fun h => h60 (h.2 k hlt)
          clear hsz
          go_wp2
          exact bodyPost_ret (v := .tuple #[.slice none 0 0, .bool false]) (by simp [results, Tryd.results30, go_sem]) rfl (PathsIs.no HN.out (HB4.out.trans (hnx.mono HB4.out.size)))
      · obtain rfl : k = n := by omega
        go_wp2
        exact bodyPost_ret (v := .tuple #[.slice (some ⟨g4, 0, none⟩) k c4, .bool true]) (by simp [results, Tryd.results30, go_sem]) rfl ⟨_, _, g4, k, _, rfl, .inl ⟨rfl, ⟨HG.out, HS.out⟩, rfl, rfl⟩, HW4.out, ⟨_, _, rfl, by omega, .inr ⟨rfl, Nat.lt_of_lt_of_le HLT.out hnx.size, HST.out.below hnx HLT.out⟩⟩, HB4.out.trans (hnx.mono HB4.out.size)⟩

end Go.Proofs.YthgjelbhhdomdaaDoor
