/- What a cursor draws out of a list that is written out, and what stays. No condition but that it fits in memory. -/
import Derived.Test.YtbkdkiodkcpbeaaCurS
namespace Go.Proofs.Ytbkdkiodkcpbeaa
open Go.RowKit
set_option linter.unusedVariables false

theorem below_a1' (w : World) (o : Obj) : Below w.heap.size w (w.alloc o) := (Below.refl _ _).alloc (Nat.le_refl _) o
theorem ints_of {w : World} {vs : List Int} {T : TypeId} (W : World) (hW : W = w.alloc (.cells ((vs.map fun y => Value.int .i64 y).toArray) T)) : ∀ j, j < vs.length → W.cell? ⟨w.heap.size, j, none⟩ = some (.int .i64 (vs.getD j 0)) := by
  intro j hj
  rw [hW, World.cell?_alloc_new]
  simp [hj]

theorem CurAt.kept {w w' : World} {g : Nat} {S S' : Nat → Prop} {m : Int} (h : CurAt w g S m) (hk : KeptO S' w w') (hg : ¬ S' g) (hS : ∀ k, S k → ¬ S' k) : CurAt w' g S m := by
  obtain ⟨x, ca, cn, cc, p, sd, h0, h1, h2, h3, h4, h5⟩ := h
  have hgw := World.block_lt_of_cell? _ _ h0
  refine ⟨x, ca, cn, cc, p, sd, cell_keptO hk h0 hg, cell_keptO hk h1 hg, cell_keptO hk h2 hg, fun o ho => ?_, Kd.kept h4 hk (fun k _ h h' => hS k h h'), h5⟩
  match o, ho with
  | 0, ho => exact frozen_keptO hk h0 (h3 0 ho) hg
  | 1, ho => exact frozen_keptO hk h1 (h3 1 ho) hg
  | 2, ho => exact frozen_keptO hk h2 (h3 2 ho) hg
theorem KeptO.low {S : Nat → Prop} {w w' w'' : World} (h : KeptO S w w') (hb : Below w.heap.size w' w'') : KeptO S w w'' := ⟨hb.os.trans h.os, hb.tape.trans h.tape, hb.output.trans h.output, Nat.le_trans h.size hb.size, fun k hk hn => (hb.block k hk).trans (h.block k hk hn)⟩
/-- among of a list that is written out. -/
theorem among_at (w : World) (g : Nat) (S : Nat → Prop) (m : Int) (l : List Int) (T : TypeId) (h : CurAt w g S m) (hm : m ≤ 2 ^ 49) (hg : g < w.heap.size) (hl : 1 ≤ l.length) (hl2 : l.length ≤ 200) :
    Calls Try.prog 87 #[.pointer (some ⟨g, 0, none⟩), .slice (some ⟨w.heap.size, 0, none⟩) l.length l.length] (w.alloc (.cells ((l.map fun y => Value.int .i64 y).toArray) T)) (RAmong w g S (m + 1) l) := by
  refine (among_k _ g S m w.heap.size l (h.below (below_a1' _ _)) hm (by simp) (by omega) hl hl2 (ints_of _ rfl)).mono ?_
  rintro e w' ⟨y, hy, rfl, hc, hk⟩
  exact ⟨y, hy, rfl, hc, (KeptO.of (below_a1' _ _)).trans hk⟩

def ROf (w : World) (g : Nat) (S : Nat → Prop) (m : Int) (l : List ByteArray) (e : Ending) (w' : World) : Prop := ∃ y, y ∈ l ∧ e = .returned (.string y) ∧ CurAt w' g S m ∧ KeptO (fun k => k = g) w w'
set_option maxRecDepth 100000 in
set_option maxHeartbeats 1000000 in
/-- of(list): one of the list. -/
theorem of_k (w : World) (g : Nat) (S : Nat → Prop) (m : Int) (b : Nat) (l : List ByteArray) (h : CurAt w g S m) (hm : m ≤ 2 ^ 49) (hb : b < w.heap.size) (hbg : b ≠ g) (hl : 1 ≤ l.length) (hl2 : l.length ≤ 200) (hc : ∀ j, j < l.length → w.cell? ⟨b, j, none⟩ = some (.string (l.getD j ⟨#[]⟩))) :
    Calls Try.prog 44 #[.pointer (some ⟨g, 0, none⟩), .slice (some ⟨b, 0, none⟩) l.length l.length] w (ROf w g S (m + 1) l) := by
  have H : Hid (CurAt w g S m) := h
  have HC0 : Hid (∀ j, j < l.length → w.cell? ⟨b, j, none⟩ = some (.string (l.getD j ⟨#[]⟩))) := hc
  obtain ⟨n, hn⟩ : ∃ n, n = l.length := ⟨_, rfl⟩
  have HN : Hid (n = l.length) := hn
  rw [← hn] at hl hl2 ⊢
  clear h hc hn
  go_enter Try.func44, Try.ntmps44
  go_wp2_with fail
  refine (pick_k w g S m n H.out hm (by omega) (by omega)).mono ?_
  rintro e w1 ⟨x, rfl, ⟨b0, b1⟩, hc, hk⟩
  obtain ⟨j, rfl⟩ : ∃ j : Nat, x = j := ⟨x.toNat, by omega⟩
  have hj : j < n := by omega
  have A0 : w1.cell? ⟨b, j, none⟩ = some (.string (l.getD j ⟨#[]⟩)) := cell_keptO hk (HC0.out j (by rw [← HN.out]; exact hj)) hbg
  have HC : Hid (CurAt w1 g S (m + 1)) := hc
  have HK : Hid (KeptO (fun k => k = g) w w1) := hk
  clear hc hk
  have hy : Hid (l.getD j ⟨#[]⟩ ∈ l) := by
    have hj2 : j < l.length := by rw [← HN.out]; exact hj
    show _ ∈ _
    rw [List.getD_eq_getElem?_getD, List.getElem?_eq_getElem hj2]
    exact List.getElem_mem hj2
  generalize l.getD j ⟨#[]⟩ = y at *
  go_wp2
  go_ret
  exact ⟨y, hy.out, rfl, HC.out, HK.out⟩
theorem strs_of {w : World} {vs : List ByteArray} {T : TypeId} (W : World) (hW : W = w.alloc (.cells ((vs.map fun y => Value.string y).toArray) T)) : ∀ j, j < vs.length → W.cell? ⟨w.heap.size, j, none⟩ = some (.string (vs.getD j ⟨#[]⟩)) := by
  intro j hj
  rw [hW, World.cell?_alloc_new]
  simp [hj]
/-- of of a list that is written out. -/
theorem of_at (w : World) (g : Nat) (S : Nat → Prop) (m : Int) (l : List ByteArray) (T : TypeId) (h : CurAt w g S m) (hm : m ≤ 2 ^ 49) (hg : g < w.heap.size) (hl : 1 ≤ l.length) (hl2 : l.length ≤ 200) :
    Calls Try.prog 44 #[.pointer (some ⟨g, 0, none⟩), .slice (some ⟨w.heap.size, 0, none⟩) l.length l.length] (w.alloc (.cells ((l.map fun y => Value.string y).toArray) T)) (ROf w g S (m + 1) l) := by
  refine (of_k _ g S m w.heap.size l (h.below (below_a1' _ _)) hm (by simp) (by omega) hl hl2 (strs_of _ rfl)).mono ?_
  rintro e w' ⟨y, hy, rfl, hc, hk⟩
  exact ⟨y, hy, rfl, hc, (KeptO.of (below_a1' _ _)).trans hk⟩
theorem cell_b3 (w : World) (u v x : Value) (T : TypeId) : (w.alloc (.cells #[u, v, x] T)).cell? ⟨w.heap.size, 0, none⟩ = some u ∧ (w.alloc (.cells #[u, v, x] T)).cell? ⟨w.heap.size, 1, none⟩ = some v ∧ (w.alloc (.cells #[u, v, x] T)).cell? ⟨w.heap.size, 2, none⟩ = some x := by simp [World.cell?_alloc_new]
/-- A cursor laid anew. -/
theorem cur_new {w : World} {x : List Int} {a : Option Addr} {n c : Nat} {T : TypeId} (h : (kRow kU8).is false w (fun _ => True) [.slice a n c] x) (hn : n ≤ 9223372036854775807) : CurAt (w.alloc (.cells #[.slice a n c, .int .i64 0, .int .u64 0] T)) w.heap.size (fun k => k < w.heap.size) 0 := by
  obtain ⟨c0, c1, c2⟩ := cell_b3 w (.slice a n c) (.int .i64 0) (.int .u64 0) T
  exact ⟨x, a, n, c, 0, 0, c0, c1, c2, fun o _ => World.frozen?_alloc_new _ _ _ _, Kd.below (Kd.tight _ h (fun k hk _ => hk)) (below_a1' _ _), hn, by omega, by omega⟩
theorem KeptO.belowNew {w w' : World} {o : Obj} (h : KeptO (fun k => k = w.heap.size) (w.alloc o) w') : Below w.heap.size w w' :=
  (below_a1' w o).trans ⟨h.os, h.tape, h.output, h.size, fun k hk => h.block k (by simp; omega) (by omega)⟩

theorem CurAt.up {w w' : World} {g B : Nat} {S : Nat → Prop} {m : Int} (h : CurAt w g S m) (hb : Below B w w') (hB : B ≤ w.heap.size) (hg : g < B) (hS : ∀ k, S k → k < B) : CurAt w' g S m :=
  h.kept (S' := fun k => B ≤ k) ⟨hb.os, hb.tape, hb.output, hb.size, fun k _ hn => hb.block k (by omega)⟩ (by omega) (fun k hk => by have := hS k hk; omega)
theorem CurAt.drew {w : World} {g : Nat} {S : Nat → Prop} {m : Int} (h : CurAt w g S m) : CurAt w.drew g S m := h.below (Below.refl _ _).drew
theorem wrap_small {y : Int} (h0 : 0 ≤ y) (h1 : y ≤ 2 ^ 40) : IntKind.i64.wrap y = y := by
  simp [IntKind.wrap, IntKind.bits, IntKind.signed]
  omega
theorem keptF {A B : Nat → Prop} {w0 w w' : World} (h : KeptO A w0 w) (k : KeptO B w w') (hs : ∀ q, q < w0.heap.size → B q → A q) : KeptO A w0 w' :=
  ⟨k.os.trans h.os, k.tape.trans h.tape, k.output.trans h.output, Nat.le_trans h.size k.size, fun q hq hn => (k.block q (Nat.lt_of_lt_of_le hq h.size) (fun e => hn (hs q hq e))).trans (h.block q hq hn)⟩
end Go.Proofs.Ytbkdkiodkcpbeaa
