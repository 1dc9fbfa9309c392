/- The part of a tree that a name leads to: the specification's l3At. The part of a tree that names lead to. -/
import Derived.Test.YtadlflgflnlhjaaGreatDoorTreeF
import Derived.Test.YtadlflgflnlhjaaGreatDoorQuote
import Derived.Test.YtadlflgflnlhjaaGreatDoorPathT0
import Derived.Test.YtadlflgflnlhjaaGreatDoorNodeAt
namespace Go.Proofs.YtadlflgflnlhjaaGreatDoor
open Go.RowKit
set_option linter.unusedVariables false

/-- Does the name lead to the i-th part? -/
def hitI (k : Int) (nm : List ByteArray) (name : ByteArray) (i : Nat) : Bool := (decide (k = 7) && ((nm.getD i ByteArray.empty).toList == name.toList)) || (decide (k = 6) && ((strL (Lib.decDigits i)).toList == name.toList))
def atI (k : Int) (nm : List ByteArray) (name : ByteArray) (m : Nat) : Option Nat := (List.range m).find? (hitI k nm name)
theorem atI_hit {k : Int} {nm : List ByteArray} {name : ByteArray} {i m : Nat} (hi : i < m) (h : hitI k nm name i = true) (h0 : ∀ j, j < i → hitI k nm name j = false) : atI k nm name m = some i := by
  unfold atI
  obtain ⟨d, rfl⟩ : ∃ d, m = i + (d + 1) := ⟨m - i - 1, by omega⟩
  rw [List.range_add, List.find?_append, List.find?_eq_none.2 (fun x hx => by simp [h0 x (List.mem_range.1 hx)]), List.range_succ_eq_map]
  simp [h]
theorem atI_none {k : Int} {nm : List ByteArray} {name : ByteArray} {m : Nat} (h0 : ∀ j, j < m → hitI k nm name j = false) : atI k nm name m = none := by
  unfold atI
  exact List.find?_eq_none.2 (fun x hx => by simp [h0 x (List.mem_range.1 hx)])
theorem atI_lt {k : Int} {nm : List ByteArray} {name : ByteArray} {m i : Nat} (h : atI k nm name m = some i) : i < m := List.mem_range.1 (List.mem_of_find?_eq_some h)
def atV (o : Option Nat) : Int := match o with
  | some i => (i : Int)
  | none => -1

set_option maxRecDepth 100000 in
set_option maxHeartbeats 4000000 in
theorem l3At_any (k n : Int) (t : ByteArray) (nm : List ByteArray) (ks : List Tr) (v : Value) (name : ByteArray) (w : World) (h : Tree w (.mk k n t nm ks) v) (hnd : k = 7 → nm.length = ks.length) (hc : ks.length ≤ 2 ^ 20) :
    Calls Tryz.prog 60 #[v, .string name] w fun e w' => e = .returned (.int .i64 (atV (atI k nm name ks.length))) ∧ Below w.heap.size w w' := by
  obtain ⟨an, cn, ak, ck, rfl, hnm, hk⟩ := h.open
  have HNM : Hid (NamsAt w (fun _ => True) an nm) := hnm
  have HND : Hid (k = 7 → nm.length = ks.length) := hnd
  clear hnm hk hnd h
  go_enter Tryz.func60, Tryz.ntmps60
  go_wp2_with fail
  go_loopw [9] (fun i wr => ∃ m : Nat, m ≤ ks.length ∧ i = .int .i64 (m : Int) ∧ Hid (∀ j, j < m → hitI k nm name j = false) ∧ Below w.heap.size w wr ∧ w.heap.size < wr.heap.size ∧ wr.cell? ⟨w.heap.size, 0, none⟩ = some (.int .i64 k) ∧ wr.cell? ⟨w.heap.size, 3, none⟩ = some (.slice an nm.length cn)) (fun i _ => ks.length - (intOf i).toNat)
  case atStart => exact ⟨0, Nat.zero_le _, rfl, fun j hj => by omega, by go_grown, by simp, by simp [go_sem], by simp [go_sem]⟩
  case round =>
    obtain ⟨m, hm, rfl, HH, hnx, hzw, u0, u3⟩ := hrel
    by_cases hlt : m < ks.length
    · have j0 : (0 : Int) ≤ (m : Int) := by omega
      have j1 : (m : Int) < (ks.length : Int) := by omega
      by_cases h7 : k = 7
      · have hnl := HND.out h7
        rcases HNM.out with h0 | ⟨gn, rfl, _, hg2, hnc⟩
        · rw [h0] at hnl; simp at hnl; omega
        have hnm2 : wr.cell? ⟨gn, m, none⟩ = some (.string (nm.getD m ByteArray.empty)) := (hnx.cell hg2).trans (hnc m (by omega))
        have j2 : (m : Int) < (nm.length : Int) := by omega
        obtain ⟨nx, hx⟩ : ∃ nx, nx = nm.getD m ByteArray.empty := ⟨_, rfl⟩
        rw [← hx] at hnm2
        have HX : Hid (nx = nm.getD m ByteArray.empty) := hx
        clear hnc hx
        subst h7
        cases heq : (nx.toList == name.toList) with
        | true =>
          have HI : Hid (atI 7 nm name ks.length = some m) := atI_hit hlt (by unfold hitI; rw [← HX.out, heq]; rfl) HH.out
          go_wp2_with fail
          go_ret
          exact ⟨by rw [HI.out]; rfl, hnx⟩
        | false =>
          have HH2 : Hid (∀ j, j < m + 1 → hitI 7 nm name j = false) := fun j hj => by
            by_cases e : j = m
            · subst e; unfold hitI; rw [← HX.out, heq]; rfl
            · exact HH.out j (by omega)
          go_wp2_with fail
          go_roundw
          case rel => exact ⟨m + 1, by omega, by go_num, HH2, hnx, hzw, u0, u3⟩
          case measure => simp [intOf]; omega
      · have e7 : (k == 7) = false := by simpa using h7
        by_cases h6 : k = 6
        · subst h6
          go_wp2_with fail
          refine (l1Num_any _ (m : Int) _ rfl (by omega) (by omega)).mono ?_
          rintro e w1 ⟨rfl, hb1⟩
          have HB : Hid (Below w.heap.size w w1) := hnx.trans (hb1.mono hnx.size)
          have v0 := (hb1.cell (p := ⟨w.heap.size, 0, none⟩) hzw).trans u0
          have v3 := (hb1.cell (p := ⟨w.heap.size, 3, none⟩) hzw).trans u3
          have hz1 : w.heap.size < w1.heap.size := Nat.lt_of_lt_of_le hzw hb1.size
          clear hb1 u0 u3
          rw [show ((m : Int)).toNat = m from rfl]
          cases heq : ((strL (Lib.decDigits m)).toList == name.toList) with
          | true =>
            have HI : Hid (atI 6 nm name ks.length = some m) := atI_hit hlt (by unfold hitI; rw [heq]; simp) HH.out
            go_wp2_with fail
            go_ret
            exact ⟨by rw [HI.out]; rfl, HB.out⟩
          | false =>
            have HH2 : Hid (∀ j, j < m + 1 → hitI 6 nm name j = false) := fun j hj => by
              by_cases e : j = m
              · subst e; unfold hitI; rw [heq]; simp
              · exact HH.out j (by omega)
            go_wp2_with fail
            go_roundw
            case rel => exact ⟨m + 1, by omega, by go_num, HH2, HB.out, hz1, v0, v3⟩
            case measure => simp [intOf]; omega
        · have e6 : (k == 6) = false := by simpa using h6
          have HH2 : Hid (∀ j, j < m + 1 → hitI k nm name j = false) := fun j hj => by unfold hitI; rw [decide_eq_false h7, decide_eq_false h6]; rfl
          go_wp2_with fail
          go_roundw
          case rel => exact ⟨m + 1, by omega, by go_num, HH2, hnx, hzw, u0, u3⟩
          case measure => simp [intOf]; omega
    · obtain rfl : m = ks.length := by omega
      have HI : Hid (atI k nm name ks.length = none) := atI_none HH.out
      go_wp2
      go_ret
      exact ⟨by rw [HI.out]; rfl, hnx⟩

end Go.Proofs.YtadlflgflnlhjaaGreatDoor
namespace Go.Proofs.YtadlflgflnlhjaaGreatDoor
open Go.RowKit
set_option linter.unusedVariables false

def getT : Tr → List ByteArray → Option Tr
  | t, [] => some t
  | t, nm :: r => (atI t.kind t.names nm t.kids.length).bind fun i => (t.kids[i]?).bind fun x => getT x r

/-- Five cells at the head of a block that may be written. -/
def FiveAt (w : World) (B : Nat) (x0 x1 x2 x3 x4 : Value) : Prop :=
  (w.cell? ⟨B, 0, none⟩ = some x0 ∧ w.cell? ⟨B, 1, none⟩ = some x1 ∧ w.cell? ⟨B, 2, none⟩ = some x2 ∧ w.cell? ⟨B, 3, none⟩ = some x3 ∧ w.cell? ⟨B, 4, none⟩ = some x4) ∧
  (w.frozen? ⟨B, 0, none⟩ = false ∧ w.frozen? ⟨B, 1, none⟩ = false ∧ w.frozen? ⟨B, 2, none⟩ = false ∧ w.frozen? ⟨B, 3, none⟩ = false ∧ w.frozen? ⟨B, 4, none⟩ = false)
theorem FiveAt.below {w w' : World} {B Z : Nat} {x0 x1 x2 x3 x4 : Value} (h : FiveAt w B x0 x1 x2 x3 x4) (hb : Below Z w w') (hZ : B < Z) : FiveAt w' B x0 x1 x2 x3 x4 := by
  obtain ⟨⟨a0, a1, a2, a3, a4⟩, f0, f1, f2, f3, f4⟩ := h
  exact ⟨⟨(hb.cell hZ).trans a0, (hb.cell hZ).trans a1, (hb.cell hZ).trans a2, (hb.cell hZ).trans a3, (hb.cell hZ).trans a4⟩, (hb.frozen hZ).trans f0, (hb.frozen hZ).trans f1, (hb.frozen hZ).trans f2, (hb.frozen hZ).trans f3, (hb.frozen hZ).trans f4⟩
theorem FiveAt.but {w w' : World} {B C Z : Nat} {x0 x1 x2 x3 x4 : Value} (h : FiveAt w B x0 x1 x2 x3 x4) (hb : BelowBut Z C w w') (hZ : B < Z) (hne : B ≠ C) : FiveAt w' B x0 x1 x2 x3 x4 := by
  obtain ⟨⟨a0, a1, a2, a3, a4⟩, f0, f1, f2, f3, f4⟩ := h
  exact ⟨⟨(hb.cell hZ hne).trans a0, (hb.cell hZ hne).trans a1, (hb.cell hZ hne).trans a2, (hb.cell hZ hne).trans a3, (hb.cell hZ hne).trans a4⟩, (hb.frozen hZ hne).trans f0, (hb.frozen hZ hne).trans f1, (hb.frozen hZ hne).trans f2, (hb.frozen hZ hne).trans f3, (hb.frozen hZ hne).trans f4⟩
theorem FiveAt.set {w : World} {B : Nat} {x0 x1 x2 x3 x4 : Value} (h : FiveAt w B x0 x1 x2 x3 x4) (y0 y1 y2 y3 y4 : Value) :
    FiveAt (((((w.setCell ⟨B, 0, none⟩ y0).setCell ⟨B, 1, none⟩ y1).setCell ⟨B, 2, none⟩ y2).setCell ⟨B, 3, none⟩ y3).setCell ⟨B, 4, none⟩ y4) B y0 y1 y2 y3 y4 ∧ ∀ Z, BelowBut Z B w (((((w.setCell ⟨B, 0, none⟩ y0).setCell ⟨B, 1, none⟩ y1).setCell ⟨B, 2, none⟩ y2).setCell ⟨B, 3, none⟩ y3).setCell ⟨B, 4, none⟩ y4) := by
  obtain ⟨⟨a0, a1, a2, a3, a4⟩, f0, f1, f2, f3, f4⟩ := h
  have p : ∀ o, (((((w.setCell ⟨B, 0, none⟩ y0).setCell ⟨B, 1, none⟩ y1).setCell ⟨B, 2, none⟩ y2).setCell ⟨B, 3, none⟩ y3).setCell ⟨B, 4, none⟩ y4).cell? ⟨B, o, none⟩ =
      if o = 4 then some y4 else if o = 3 then some y3 else if o = 2 then some y2 else if o = 1 then some y1 else if o = 0 then some y0 else w.cell? ⟨B, o, none⟩ := fun o => by
    have e0 : (w.cell? ⟨B, 0, none⟩).isSome = true := by rw [a0]; rfl
    have e1 : ((w.setCell ⟨B, 0, none⟩ y0).cell? ⟨B, 1, none⟩).isSome = true := by rw [cell_set e0, if_neg (by omega), a1]; rfl
    have e2 : (((w.setCell ⟨B, 0, none⟩ y0).setCell ⟨B, 1, none⟩ y1).cell? ⟨B, 2, none⟩).isSome = true := by rw [cell_set e1, if_neg (by omega), cell_set e0, if_neg (by omega), a2]; rfl
    have e3 : ((((w.setCell ⟨B, 0, none⟩ y0).setCell ⟨B, 1, none⟩ y1).setCell ⟨B, 2, none⟩ y2).cell? ⟨B, 3, none⟩).isSome = true := by rw [cell_set e2, if_neg (by omega), cell_set e1, if_neg (by omega), cell_set e0, if_neg (by omega), a3]; rfl
    have e4 : (((((w.setCell ⟨B, 0, none⟩ y0).setCell ⟨B, 1, none⟩ y1).setCell ⟨B, 2, none⟩ y2).setCell ⟨B, 3, none⟩ y3).cell? ⟨B, 4, none⟩).isSome = true := by rw [cell_set e3, if_neg (by omega), cell_set e2, if_neg (by omega), cell_set e1, if_neg (by omega), cell_set e0, if_neg (by omega), a4]; rfl
    rw [cell_set e4, cell_set e3, cell_set e2, cell_set e1, cell_set e0]
  refine ⟨⟨⟨by rw [p]; rfl, by rw [p]; rfl, by rw [p]; rfl, by rw [p]; rfl, by rw [p]; rfl⟩, ?_⟩, fun Z => ?_⟩
  · simp only [World.frozen?_setCell]
    exact ⟨f0, f1, f2, f3, f4⟩
  · exact ((((BelowBut.setCell w _ _).trans (BelowBut.setCell _ _ _)).trans (BelowBut.setCell _ _ _)).trans (BelowBut.setCell _ _ _)).trans (BelowBut.setCell _ _ _)
theorem fiveAt_new (w : World) (x0 x1 x2 x3 x4 : Value) (T : TypeId) : FiveAt (w.alloc (.cells #[x0, x1, x2, x3, x4] T)) w.heap.size x0 x1 x2 x3 x4 :=
  ⟨⟨by rw [World.cell?_alloc_new]; rfl, by rw [World.cell?_alloc_new]; rfl, by rw [World.cell?_alloc_new]; rfl, by rw [World.cell?_alloc_new]; rfl, by rw [World.cell?_alloc_new]; rfl⟩, World.frozen?_alloc_new _ _ _ _, World.frozen?_alloc_new _ _ _ _, World.frozen?_alloc_new _ _ _ _, World.frozen?_alloc_new _ _ _ _, World.frozen?_alloc_new _ _ _ _⟩

theorem Tree.head {w : World} {t : Tr} {v : Value} (h : Tree w t v) : ∃ an cn ak ck, v = .agg #[.int .i64 t.kind, .int .i64 t.num, .string t.text, .slice an t.names.length cn, .slice ak t.kids.length ck] := by
  obtain ⟨k, n, tx, nm, ks⟩ := t
  obtain ⟨an, cn, ak, ck, rfl, _⟩ := h.open
  exact ⟨an, cn, ak, ck, rfl⟩
theorem Tree.kid {w : World} {t x : Tr} {an cn ak ck i : _} (h : Tree w t (.agg #[.int .i64 t.kind, .int .i64 t.num, .string t.text, .slice an t.names.length cn, .slice ak t.kids.length ck])) (hx : t.kids[i]? = some x) :
    ∃ g, ak = some ⟨g, 0, none⟩ ∧ g < w.heap.size ∧ KidAt w (fun _ => True) x g i := by
  obtain ⟨k, n, tx, nm, ks⟩ := t
  obtain ⟨an', cn', ak', ck', e, _, hk⟩ := h.open
  simp only [Value.agg.injEq, Array.mk.injEq, List.cons.injEq, and_true] at e
  obtain ⟨_, _, _, _, e⟩ := e
  obtain ⟨rfl, _, _⟩ : ak = ak' ∧ _ ∧ ck = ck' := by simpa using e
  rcases hk with h0 | ⟨g, rfl, hg, hkid⟩
  · have : ([] : List Tr)[i]? = some x := by rw [← h0]; exact hx
    simp at this
  · exact ⟨g, rfl, hg, hkid i x hx⟩

/-- WHAT l3Get ANSWERS. -/
def GotIs (t : Tr) (l : List ByteArray) (w : World) (e : Ending) (w' : World) : Prop :=
  ∃ (k n : Int) (tx : ByteArray) (an : Option Addr) (mn cn : Nat) (ak : Option Addr) (mk ck : Nat), e = .returned (.tuple #[.agg #[.int .i64 k, .int .i64 n, .string tx, .slice an mn cn, .slice ak mk ck], .bool (getT t l).isSome]) ∧ (∀ x, getT t l = some x → Tree w' x (.agg #[.int .i64 k, .int .i64 n, .string tx, .slice an mn cn, .slice ak mk ck])) ∧ Below w.heap.size w w'

end Go.Proofs.YtadlflgflnlhjaaGreatDoor
