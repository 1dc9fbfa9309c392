/- Five cells at the head of a block: a tree's head. No program in this text. -/
import Derived.Test.YtnmbnebofbdmfaaGreatDoorTreeF0
namespace Go.Proofs.YtnmbnebofbdmfaaGreatDoor
open Go.RowKit
set_option linter.unusedVariables false

/-- Five cells at the head of a block that may be written. -/
def FiveAt (w : World) (B : Nat) (x0 x1 x2 x3 x4 : Value) : Prop :=
  (w.cell? ⟨B, 0, none⟩ = some x0 ∧ w.cell? ⟨B, 1, none⟩ = some x1 ∧ w.cell? ⟨B, 2, none⟩ = some x2 ∧ w.cell? ⟨B, 3, none⟩ = some x3 ∧ w.cell? ⟨B, 4, none⟩ = some x4) ∧
  (w.frozen? ⟨B, 0, none⟩ = false ∧ w.frozen? ⟨B, 1, none⟩ = false ∧ w.frozen? ⟨B, 2, none⟩ = false ∧ w.frozen? ⟨B, 3, none⟩ = false ∧ w.frozen? ⟨B, 4, none⟩ = false)
theorem FiveAt.below {w w' : World} {B Z : Nat} {x0 x1 x2 x3 x4 : Value} (h : FiveAt w B x0 x1 x2 x3 x4) (hb : Below Z w w') (hZ : B < Z) : FiveAt w' B x0 x1 x2 x3 x4 := by
  obtain ⟨⟨a0, a1, a2, a3, a4⟩, f0, f1, f2, f3, f4⟩ := h
  exact ⟨⟨(hb.cell hZ).trans a0, (hb.cell hZ).trans a1, (hb.cell hZ).trans a2, (hb.cell hZ).trans a3, (hb.cell hZ).trans a4⟩, (hb.frozen hZ).trans f0, (hb.frozen hZ).trans f1, (hb.frozen hZ).trans f2, (hb.frozen hZ).trans f3, (hb.frozen hZ).trans f4⟩
theorem FiveAt.but {w w' : World} {B C Z : Nat} {x0 x1 x2 x3 x4 : Value} (h : FiveAt w B x0 x1 x2 x3 x4) (hb : BelowBut Z C w w') (hZ : B < Z) (hne : B ≠ C) : FiveAt w' B x0 x1 x2 x3 x4 := by
  obtain ⟨⟨a0, a1, a2, a3, a4⟩, f0, f1, f2, f3, f4⟩ := h
  exact ⟨⟨(hb.cell hZ hne).trans a0, (hb.cell hZ hne).trans a1, (hb.cell hZ hne).trans a2, (hb.cell hZ hne).trans a3, (hb.cell hZ hne).trans a4⟩, (hb.frozen hZ hne).trans f0, (hb.frozen hZ hne).trans f1, (hb.frozen hZ hne).trans f2, (hb.frozen hZ hne).trans f3, (hb.frozen hZ hne).trans f4⟩
theorem FiveAt.set {w : World} {B : Nat} {x0 x1 x2 x3 x4 : Value} (h : FiveAt w B x0 x1 x2 x3 x4) (y0 y1 y2 y3 y4 : Value) :
    FiveAt (((((w.setCell ⟨B, 0, none⟩ y0).setCell ⟨B, 1, none⟩ y1).setCell ⟨B, 2, none⟩ y2).setCell ⟨B, 3, none⟩ y3).setCell ⟨B, 4, none⟩ y4) B y0 y1 y2 y3 y4 ∧ ∀ Z, BelowBut Z B w (((((w.setCell ⟨B, 0, none⟩ y0).setCell ⟨B, 1, none⟩ y1).setCell ⟨B, 2, none⟩ y2).setCell ⟨B, 3, none⟩ y3).setCell ⟨B, 4, none⟩ y4) := by
  obtain ⟨⟨a0, a1, a2, a3, a4⟩, f0, f1, f2, f3, f4⟩ := h
  have p : ∀ o, (((((w.setCell ⟨B, 0, none⟩ y0).setCell ⟨B, 1, none⟩ y1).setCell ⟨B, 2, none⟩ y2).setCell ⟨B, 3, none⟩ y3).setCell ⟨B, 4, none⟩ y4).cell? ⟨B, o, none⟩ =
      if o = 4 then some y4 else if o = 3 then some y3 else if o = 2 then some y2 else if o = 1 then some y1 else if o = 0 then some y0 else w.cell? ⟨B, o, none⟩ := fun o => by
    have e0 : (w.cell? ⟨B, 0, none⟩).isSome = true := by rw [a0]; rfl
    have e1 : ((w.setCell ⟨B, 0, none⟩ y0).cell? ⟨B, 1, none⟩).isSome = true := by rw [cell_set e0, if_neg (by omega), a1]; rfl
    have e2 : (((w.setCell ⟨B, 0, none⟩ y0).setCell ⟨B, 1, none⟩ y1).cell? ⟨B, 2, none⟩).isSome = true := by rw [cell_set e1, if_neg (by omega), cell_set e0, if_neg (by omega), a2]; rfl
    have e3 : ((((w.setCell ⟨B, 0, none⟩ y0).setCell ⟨B, 1, none⟩ y1).setCell ⟨B, 2, none⟩ y2).cell? ⟨B, 3, none⟩).isSome = true := by rw [cell_set e2, if_neg (by omega), cell_set e1, if_neg (by omega), cell_set e0, if_neg (by omega), a3]; rfl
    have e4 : (((((w.setCell ⟨B, 0, none⟩ y0).setCell ⟨B, 1, none⟩ y1).setCell ⟨B, 2, none⟩ y2).setCell ⟨B, 3, none⟩ y3).cell? ⟨B, 4, none⟩).isSome = true := by rw [cell_set e3, if_neg (by omega), cell_set e2, if_neg (by omega), cell_set e1, if_neg (by omega), cell_set e0, if_neg (by omega), a4]; rfl
    rw [cell_set e4, cell_set e3, cell_set e2, cell_set e1, cell_set e0]
  refine ⟨⟨⟨by rw [p]; rfl, by rw [p]; rfl, by rw [p]; rfl, by rw [p]; rfl, by rw [p]; rfl⟩, ?_⟩, fun Z => ?_⟩
  · simp only [World.frozen?_setCell]
    exact ⟨f0, f1, f2, f3, f4⟩
  · exact ((((BelowBut.setCell w _ _).trans (BelowBut.setCell _ _ _)).trans (BelowBut.setCell _ _ _)).trans (BelowBut.setCell _ _ _)).trans (BelowBut.setCell _ _ _)
theorem fiveAt_new (w : World) (x0 x1 x2 x3 x4 : Value) (T : TypeId) : FiveAt (w.alloc (.cells #[x0, x1, x2, x3, x4] T)) w.heap.size x0 x1 x2 x3 x4 :=
  ⟨⟨by rw [World.cell?_alloc_new]; rfl, by rw [World.cell?_alloc_new]; rfl, by rw [World.cell?_alloc_new]; rfl, by rw [World.cell?_alloc_new]; rfl, by rw [World.cell?_alloc_new]; rfl⟩, World.frozen?_alloc_new _ _ _ _, World.frozen?_alloc_new _ _ _ _, World.frozen?_alloc_new _ _ _ _, World.frozen?_alloc_new _ _ _ _, World.frozen?_alloc_new _ _ _ _⟩

theorem Tree.head {w : World} {t : Tr} {v : Value} (h : Tree w t v) : ∃ an cn ak ck, v = .agg #[.int .i64 t.kind, .int .i64 t.num, .string t.text, .slice an t.names.length cn, .slice ak t.kids.length ck] := by
  obtain ⟨k, n, tx, nm, ks⟩ := t
  obtain ⟨an, cn, ak, ck, rfl, _⟩ := h.open
  exact ⟨an, cn, ak, ck, rfl⟩
theorem Tree.kid {w : World} {t x : Tr} {an cn ak ck i : _} (h : Tree w t (.agg #[.int .i64 t.kind, .int .i64 t.num, .string t.text, .slice an t.names.length cn, .slice ak t.kids.length ck])) (hx : t.kids[i]? = some x) :
    ∃ g, ak = some ⟨g, 0, none⟩ ∧ g < w.heap.size ∧ KidAt w (fun _ => True) x g i := by
  obtain ⟨k, n, tx, nm, ks⟩ := t
  obtain ⟨an', cn', ak', ck', e, _, hk⟩ := h.open
  simp only [Value.agg.injEq, Array.mk.injEq, List.cons.injEq, and_true] at e
  obtain ⟨_, _, _, _, e⟩ := e
  obtain ⟨rfl, _, _⟩ : ak = ak' ∧ _ ∧ ck = ck' := by simpa using e
  rcases hk with h0 | ⟨g, rfl, hg, hkid⟩
  · have : ([] : List Tr)[i]? = some x := by rw [← h0]; exact hx
    simp at this
  · exact ⟨g, rfl, hg, hkid i x hx⟩


end Go.Proofs.YtnmbnebofbdmfaaGreatDoor
