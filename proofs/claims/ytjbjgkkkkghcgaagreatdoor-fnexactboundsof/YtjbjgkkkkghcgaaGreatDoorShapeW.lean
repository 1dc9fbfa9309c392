/- What lies in memory while the specification goes through the nodes; its small helpers. -/
import Derived.Test.YtjbjgkkkkghcgaaGreatDoorShapeP
import Derived.Test.YtjbjgkkkkghcgaaGreatDoorStrs0
namespace Go.Proofs.YtjbjgkkkkghcgaaGreatDoor
open Go.RowKit
set_option linter.unusedVariables false

def BoolsAt (w : World) (g n : Nat) (f : Nat → Bool) : Prop := ∀ i, i < n → w.cell? ⟨g, i, none⟩ = some (.bool (f i)) ∧ w.frozen? ⟨g, i, none⟩ = false

theorem BoolsAt.but {w w' : World} {B q g n : Nat} {f : Nat → Bool} (h : BoolsAt w g n f) (hb : BelowBut B q w w') (hB : g < B) (hne : g ≠ q) : BoolsAt w' g n f := fun i hi =>
  ⟨(hb.cell hB hne).trans (h i hi).1, (hb.frozen hB hne).trans (h i hi).2⟩
theorem IntsAt.but {w w' : World} {B q g n : Nat} {f : Nat → Int} (h : IntsAt w g n f) (hb : BelowBut B q w w') (hB : g < B) (hne : g ≠ q) : IntsAt w' g n f := fun i hi =>
  ⟨(hb.cell hB hne).trans (h i hi).1, (hb.frozen hB hne).trans (h i hi).2⟩
theorem BoolsAt.set {w : World} {g n k : Nat} {f : Nat → Bool} (h : BoolsAt w g n f) (hk : k < n) (x : Bool) : BoolsAt (w.setCell ⟨g, k, none⟩ (.bool x)) g n (fun i => if i = k then x else f i) := fun i hi => by
  rw [cell_set (by rw [(h k hk).1]; rfl), World.frozen?_setCell]
  refine ⟨?_, (h i hi).2⟩
  by_cases e : i = k
  · simp [e]
  · simp [e, (h i hi).1]

theorem infoBool : (Tryz.prog.info? 4).map (fun i => (i.zero, i.size, i.bytes)) = some (some (.bool false), 1, 1) := by kernel_rfl
theorem make_bools (n : Nat) (hn : n ≤ 2 ^ 30) (W : World) : (Instr.makeSlice 108 (.int .i64 (n : Int)) (.int .i64 (n : Int))).run Tryz.prog W = .ok (.slice (some ⟨W.heap.size, 0, none⟩) n n) (W.alloc (.cells (madeCells #[.bool false] n) 4)) := by
  obtain ⟨i0, hi, hz0, hz1, hz2⟩ := info_parts infoBool
  have h := run_make (P := Tryz.prog) W 108 4 i0 _ Tryz.underlying108 hi hz0 .i64 .i64 n n (by omega) (by omega) (by rw [hz2]; omega) (by omega)
  rw [hz1] at h
  simpa [Value.cells] using h

theorem bools_made (n : Nat) (W : World) (T : TypeId) : BoolsAt (W.alloc (.cells (madeCells #[.bool false] n) T)) W.heap.size n (fun _ => false) := fun i hi =>
  ⟨by rw [World.cell?_alloc_new, made_one _ _ _ hi], World.frozen?_alloc_new _ _ _ _⟩

/-- The specification's memory. -/
structure SW (w : World) (b off c n : Nat) (N : Nat → Nd) (wr : World) (D : Nat → Int) (L : Nat → ByteArray) (S : Nat → Bool) : Prop where
  below : Below w.heap.size w wr
  size : w.heap.size + 1 + 1 + 1 < wr.heap.size
  box : wr.cell? ⟨w.heap.size, 0, none⟩ = some (.slice (some ⟨b, off, none⟩) n c)
  nodes : NodesAt wr b off n N
  deep : IntsAt wr (w.heap.size + 1) n D
  last : StrsAt wr (w.heap.size + 1 + 1) n L
  seen : BoolsAt wr (w.heap.size + 1 + 1 + 1) n S

variable {w wr : World} {b off c n : Nat} {N : Nat → Nd} {D : Nat → Int} {L : Nat → ByteArray} {S : Nat → Bool}

theorem SW.next (h : SW w b off c n N wr D L S) (hb : b < w.heap.size) {w' : World} (hx : Below wr.heap.size wr w') : SW w b off c n N w' D L S := by
  have hs := h.size
  have h2 := h.below.size
  exact ⟨h.below.trans (hx.mono h2), Nat.lt_of_lt_of_le hs hx.size, (hx.cell (by show w.heap.size < _; omega)).trans h.box, h.nodes.below hx (by omega), h.deep.below hx (by omega), h.last.but (BelowBut.of (b := b) hx) (by omega) (by omega), h.seen.but (BelowBut.of (b := b) hx) (by omega) (by omega)⟩
theorem SW.alloc (h : SW w b off c n N wr D L S) (hb : b < w.heap.size) (o : Obj) : SW w b off c n N (wr.alloc o) D L S := h.next hb ((Below.refl _ _).alloc (Nat.le_refl _) _)
theorem SW.setD (h : SW w b off c n N wr D L S) (hb : b < w.heap.size) {k : Nat} (hk : k < n) (x : Int) : SW w b off c n N (wr.setCell ⟨w.heap.size + 1, k, none⟩ (.int .i64 x)) (fun i => if i = k then x else D i) L S := by
  have hs := h.size
  have hq : BelowBut wr.heap.size (w.heap.size + 1) wr (wr.setCell ⟨w.heap.size + 1, k, none⟩ (.int .i64 x)) := BelowBut.setCell _ _ _
  exact ⟨h.below.setCell (by simp <;> omega) _, by simpa using hs, (hq.cell (by omega) (by omega)).trans h.box, h.nodes.but hq (by omega) (by omega), h.deep.set hk x, h.last.but hq (by omega) (by omega), h.seen.but hq (by omega) (by omega)⟩
theorem SW.setL (h : SW w b off c n N wr D L S) (hb : b < w.heap.size) {k : Nat} (hk : k < n) (x : ByteArray) : SW w b off c n N (wr.setCell ⟨w.heap.size + 1 + 1, k, none⟩ (.string x)) D (fun i => if i = k then x else L i) S := by
  have hs := h.size
  have hq : BelowBut wr.heap.size (w.heap.size + 1 + 1) wr (wr.setCell ⟨w.heap.size + 1 + 1, k, none⟩ (.string x)) := BelowBut.setCell _ _ _
  exact ⟨h.below.setCell (by simp <;> omega) _, by simpa using hs, (hq.cell (by omega) (by omega)).trans h.box, h.nodes.but hq (by omega) (by omega), h.deep.but hq (by omega) (by omega), h.last.set hk x, h.seen.but hq (by omega) (by omega)⟩
theorem SW.setS (h : SW w b off c n N wr D L S) (hb : b < w.heap.size) {k : Nat} (hk : k < n) (x : Bool) : SW w b off c n N (wr.setCell ⟨w.heap.size + 1 + 1 + 1, k, none⟩ (.bool x)) D L (fun i => if i = k then x else S i) := by
  have hs := h.size
  have hq : BelowBut wr.heap.size (w.heap.size + 1 + 1 + 1) wr (wr.setCell ⟨w.heap.size + 1 + 1 + 1, k, none⟩ (.bool x)) := BelowBut.setCell _ _ _
  exact ⟨h.below.setCell (by simp <;> omega) _, by simpa using hs, (hq.cell (by omega) (by omega)).trans h.box, h.nodes.but hq (by omega) (by omega), h.deep.but hq (by omega) (by omega), h.last.but hq (by omega) (by omega), h.seen.set hk x⟩
theorem SW.congr (h : SW w b off c n N wr D L S) {D' : Nat → Int} {L' : Nat → ByteArray} {S' : Nat → Bool} (hD : ∀ i, i < n → D i = D' i) (hL : ∀ i, i < n → L i = L' i) (hS : ∀ i, i < n → S i = S' i) : SW w b off c n N wr D' L' S' :=
  ⟨h.below, h.size, h.box, h.nodes, h.deep.congr hD, fun i hi => by rw [← hL i hi]; exact h.last i hi, fun i hi => by rw [← hS i hi]; exact h.seen i hi⟩

theorem sw_start (w : World) (b off c n : Nat) (N : Nat → Nd) (T T1 T2 T3 : TypeId) (hb : b < w.heap.size) (h : NodesAt w b off n N) :
    SW w b off c n N ((((w.alloc (.cells #[.slice (some ⟨b, off, none⟩) n c] T)).alloc (.cells (madeCells #[.int .i64 0] n) T1)).alloc (.cells (madeCells #[.string ⟨#[]⟩] n) T2)).alloc (.cells (madeCells #[.bool false] n) T3)) (fun _ => 0) (fun _ => ⟨#[]⟩) (fun _ => false) := by
  have e1 : (w.alloc (.cells #[.slice (some ⟨b, off, none⟩) n c] T)).heap.size = w.heap.size + 1 := by simp
  have e2 : ((w.alloc (.cells #[.slice (some ⟨b, off, none⟩) n c] T)).alloc (.cells (madeCells #[.int .i64 0] n) T1)).heap.size = w.heap.size + 1 + 1 := by simp
  have e3 : (((w.alloc (.cells #[.slice (some ⟨b, off, none⟩) n c] T)).alloc (.cells (madeCells #[.int .i64 0] n) T1)).alloc (.cells (madeCells #[.string ⟨#[]⟩] n) T2)).heap.size = w.heap.size + 1 + 1 + 1 := by simp
  refine ⟨by go_grown, by simp, ?_, ?_, ?_, ?_, ?_⟩
  · simp [go_sem]
  · exact h.below (B := w.heap.size) (by go_grown) hb
  · have := ints_made n (w.alloc (.cells #[.slice (some ⟨b, off, none⟩) n c] T)) T1
    rw [e1] at this
    exact (this.alloc (by simp) _).alloc (by simp) _
  · have := strs_made n ((w.alloc (.cells #[.slice (some ⟨b, off, none⟩) n c] T)).alloc (.cells (madeCells #[.int .i64 0] n) T1)) T2
    rw [e2] at this
    exact this.but (BelowBut.of (b := w.heap.size + 9) ((Below.refl _ _).alloc (Nat.le_refl _) _)) (by simp) (by omega)
  · have := bools_made n (((w.alloc (.cells #[.slice (some ⟨b, off, none⟩) n c] T)).alloc (.cells (madeCells #[.int .i64 0] n) T1)).alloc (.cells (madeCells #[.string ⟨#[]⟩] n) T2)) T3
    rw [e3] at this
    exact this

set_option maxHeartbeats 400000 in
theorem l1In_is (x lo hi : Int) (v : Bool) (w : World) (h : (decide (lo ≤ x) && decide (x ≤ hi)) = v) : Calls Tryz.prog 21 #[.int .i64 x, .int .i64 lo, .int .i64 hi] w fun e w' => e = .returned (.bool v) ∧ w' = w := by
  subst h
  by_cases h0 : lo ≤ x
  · rw [decide_eq_true h0]
    cases h1 : decide (x ≤ hi) with
    | true =>
      go_enter Tryz.func21, Tryz.ntmps21
      go_wp2
      go_ret
      exact ⟨rfl, rfl⟩
    | false =>
      go_enter Tryz.func21, Tryz.ntmps21
      go_wp2
      go_ret
      exact ⟨rfl, rfl⟩
  · rw [decide_eq_false h0]
    have h2 : decide (lo ≤ x) = false := decide_eq_false h0
    go_enter Tryz.func21, Tryz.ntmps21
    go_wp2
    go_ret
    exact ⟨rfl, rfl⟩

set_option maxHeartbeats 400000 in
theorem l1Number_is (x : Int) (v : Bool) (w : World) (h : (decide (-1000000000 ≤ x) && decide (x ≤ 1000000000)) = v) : Calls Tryz.prog 55 #[.int .i64 x] w fun e w' => e = .returned (.bool v) ∧ w' = w := by
  go_enter Tryz.func55, Tryz.ntmps55
  go_wp2_with fail
  refine (l1In_is x _ _ v _ h).mono ?_
  rintro e w' ⟨rfl, rfl⟩
  go_wp2
  go_ret
  exact ⟨rfl, rfl⟩

theorem l1Printed_is (s : ByteArray) (v : Bool) (w : World) (hs : s.size ≤ 2 ^ 40) (h : plainB s = v) : Calls Tryz.prog 20 #[.string s] w fun e w' => e = .returned (.bool v) ∧ w' = w := by
  subst h
  exact l1Printed_any s w hs

end Go.Proofs.YtjbjgkkkkghcgaaGreatDoor
