/- Own rows of nodes, kept. No program. A tree's nodes in a new row: the specification's l1Of. -/
import Derived.Test.YtnmbnebofbdmfaaGreatDoorQGoodTr
import Derived.Test.YtnmbnebofbdmfaaGreatDoorTreeF
namespace Go.Proofs.YtnmbnebofbdmfaaGreatDoor
open Go.RowKit
set_option linter.unusedVariables false

theorem own_set {w : World} {B R x : Nat} {v u : Value} {L : List Nd} (h : OwnsN w B v L) (hR : R < B) : OwnsN (w.setCell ⟨R, x, none⟩ u) B v L := row_block h fun b hb _ _ => Below.heap_setCell _ _ _ _ (by show b ≠ R; omega)
theorem own_len {w : World} {B m : Nat} {v : Value} {L : List Nd} (h : OwnsN w B v L) (hm : L.length = m) : w.ownsRow B 49 5 v m (ndCells L) := by rw [← hm]; exact h
theorem own_set' {w : World} {B R x : Nat} {v u : Value} {L : List Nd} (h : OwnsN w B v L) (hR : R < B) : OwnsN (w.setCell ⟨R, x, none⟩ u) B v L := own_set h hR
theorem OwnsN.low {w : World} {B B' : Nat} {v : Value} {L : List Nd} (h : OwnsN w B v L) (hB : B' ≤ B) : OwnsN w B' v L := by
  refine ⟨h.1, ?_⟩
  rcases h.2 with hn | ⟨g, cap, cur, rfl, hb, rest⟩
  · exact .inl hn
  · exact .inr ⟨g, cap, cur, rfl, by omega, rest⟩
theorem Below.setR {B R x : Nat} {w w' : World} {u : Value} (h : Below B w w') (hR : B ≤ R) : Below B w (w'.setCell ⟨R, x, none⟩ u) := h.trans ⟨rfl, rfl, rfl, by simp, fun b hb => Below.heap_setCell _ _ _ _ (by show b ≠ R; omega)⟩

theorem grown_none {w w' : World} (h : w.grownBy w' none) : Below w.heap.size w w' := ⟨h.os, h.tape, h.output, h.size, fun b hb => h.block b hb (by simp)⟩

end Go.Proofs.YtnmbnebofbdmfaaGreatDoor
namespace Go.Proofs.YtnmbnebofbdmfaaGreatDoor
open Go.RowKit
set_option linter.unusedVariables false

set_option maxRecDepth 100000 in
set_option maxHeartbeats 1000000 in
theorem l1Of_any (t : Tr) (v : Value) (w : World) (h : Tree w t v) (hn : t.named) (hc : t.cnt ≤ 2 ^ 20) :
    Calls Tryz.prog 15 #[v] w fun e w' => ∃ lv, e = .returned (.agg #[lv]) ∧ OwnsN w' w.heap.size lv (t.flat ⟨#[]⟩ (-1) 0) ∧ Below w.heap.size w w' := by
  obtain ⟨k, n, tx, nm, ks⟩ := t
  obtain ⟨an, cn, ak, ck, rfl, _, _⟩ := h.open
  have HT : Hid (Tree w (.mk k n tx nm ks) _) := h
  have HN : Hid ((Tr.mk k n tx nm ks).named) := hn
  have HC : Hid ((Tr.mk k n tx nm ks).cnt ≤ 2 ^ 20) := hc
  clear h hn hc
  go_enter Tryz.func15, Tryz.ntmps15
  go_wp2_with fail
  have hb2 : ∀ o o', Below w.heap.size w ((w.alloc o).alloc o') := fun o o' => ((Below.refl _ _).alloc (Nat.le_refl _) o).alloc (by simp) o'
  refine (l1Flat_any (.mk k n tx nm ks) _ (.slice none 0 0) ⟨#[]⟩ (-1) [] (w.heap.size + 2) _ (TreeIs.keep (fun b _ hlt => (hb2 _ _).block b hlt) (fun b _ _ => by simp [Value.ownBlock]) (hb2 _ _).size _ _ HT.out) HN.out (World.ownsRow_nil _ _ _ _) (by simp) (by have := HC.out; simp; omega) (by decide) (by decide)).mono ?_
  rintro e w1 ⟨lv, rfl, ho1, hg1, _⟩
  rw [List.nil_append] at ho1
  have hb1 := grown_none hg1
  have r0 : w1.cell? ⟨w.heap.size + 1, 0, none⟩ = some (.slice none 0 0) ∧ w1.frozen? ⟨w.heap.size + 1, 0, none⟩ = false := by rw [hb1.cell (by simp), hb1.frozen (by simp)]; simp [go_sem]
  obtain ⟨r1, r2⟩ := r0
  obtain ⟨la, lc, rfl⟩ := ho1.form
  have HB : Hid (Below w.heap.size w w1) := (hb2 _ _).trans (hb1.mono (by simp; omega))
  have HO : Hid (OwnsN w1 (w.heap.size + 2) (.slice la ((Tr.mk k n tx nm ks).flat ⟨#[]⟩ (-1) 0).length lc) ((Tr.mk k n tx nm ks).flat ⟨#[]⟩ (-1) 0)) := ho1
  clear ho1 hg1 hb1 hb2
  go_wp2
  exact bodyPost_ret (v := .agg #[.slice la ((Tr.mk k n tx nm ks).flat ⟨#[]⟩ (-1) 0).length lc]) (by simp [results, Tryz.results15, go_sem, r1]) rfl ⟨_, rfl, (own_set HO.out (by omega)).low (by omega), Below.setR HB.out (by omega)⟩

end Go.Proofs.YtnmbnebofbdmfaaGreatDoor
