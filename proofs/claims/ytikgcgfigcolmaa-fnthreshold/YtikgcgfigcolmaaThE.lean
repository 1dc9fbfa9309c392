/- What the law of the best few draws. No condition but that it fits in memory. -/
import Derived.Test.YtikgcgfigcolmaaThD
namespace Go.Proofs.Ytikgcgfigcolmaa
open Go.RowKit
set_option linter.unusedVariables false

theorem cell_c3 (w : World) (u v x : Value) (T : TypeId) : (w.alloc (.cells #[u, v, x] T)).cell? ⟨w.heap.size, 0, none⟩ = some u ∧ (w.alloc (.cells #[u, v, x] T)).cell? ⟨w.heap.size, 1, none⟩ = some v ∧ (w.alloc (.cells #[u, v, x] T)).cell? ⟨w.heap.size, 2, none⟩ = some x := by simp [World.cell?_alloc_new]
/-- A cursor laid anew. -/
theorem cur_neu {w : World} {x : List Int} {a : Option Addr} {n c : Nat} {T : TypeId} (h : (kRow kU8).is false w (fun _ => True) [.slice a n c] x) (hn : n ≤ 9223372036854775807) : CurAt (w.alloc (.cells #[.slice a n c, .int .i64 0, .int .u64 0] T)) w.heap.size (fun k => k < w.heap.size) 0 := by
  obtain ⟨c0, c1, c2⟩ := cell_c3 w (.slice a n c) (.int .i64 0) (.int .u64 0) T
  exact ⟨x, a, n, c, 0, 0, c0, c1, c2, fun o _ => World.frozen?_alloc_new _ _ _ _, Kd.below (Kd.tight _ h (fun k hk _ => hk)) (below_a1' _ _), hn, by omega, by omega⟩
theorem KeptO.neu {w w' : World} {o : Obj} (h : KeptO (fun k => k = w.heap.size) (w.alloc o) w') : Below w.heap.size w w' :=
  (below_a1' w o).trans ⟨h.os, h.tape, h.output, h.size, fun k hk => h.block k (by simp; omega) (by omega)⟩
def RDrawTop (w : World) (e : Ending) (w' : World) : Prop := ∃ (a : Option Addr) (n c : Nat) (T : Nat → Prop) (l : List DRanking) (k : Int), e = .returned (.tuple #[.slice a n c, .int .i64 k]) ∧ (kRow kRanking).is true w' T [.slice a n c] l ∧ (∀ k, T k → w.heap.size ≤ k) ∧ Few l ∧ (-1 ≤ k ∧ k ≤ 61) ∧ Below w.heap.size w w'
set_option maxRecDepth 100000 in
set_option maxHeartbeats 4000000 in
theorem drawAllBest_k (w : World) (x : List Int) (a : Option Addr) (n c : Nat) (h : (kRow kU8).is false w (fun _ => True) [.slice a n c] x) (hn : n ≤ 9223372036854775807) :
    Calls Try.prog 60 #[.slice a n c] w (RDrawTop w) := by
  have H : Hid ((kRow kU8).is false w (fun _ => True) [.slice a n c] x) := h
  clear h
  go_enter Try.func60, Try.ntmps60
  go_wp2_with fail
  refine (rankings_k _ w.heap.size (fun k => k < w.heap.size) 0 (cur_neu H.out hn) (by omega) (by simp) (fun k hk => by simp; omega)).mono ?_
  rintro e w1 ⟨ra, rn, rc, T, l, rfl, hr, hT, hf, hc, hk⟩
  have z1 : w.heap.size < w1.heap.size := by have := hk.size; simp at this; omega
  have HR : Hid ((kRow kRanking).is true w1 T [.slice ra rn rc] l) := hr
  have HB : Hid (Below w.heap.size w w1) := hk.neu
  have HT : Hid (∀ k, T k → w.heap.size + 1 ≤ k) := fun k hk => by have := hT k hk; simp at this; omega
  have HC : Hid (CurAt w1 w.heap.size (fun k => k < w.heap.size) (0 + 200)) := hc
  have HF : Hid (Few l) := hf
  clear hr hk hT hc hf
  go_wp2_with fail
  refine (among_at w1 w.heap.size (fun k => k < w.heap.size) _ [0, 1, 2, 3, 5, 60, 61, -1] _ HC.out (by omega) (by omega) (by simp) (by simp)).mono ?_
  rintro e w2 ⟨y, hy, rfl, hc2, hk2⟩
  have hy2 : -1 ≤ y ∧ y ≤ 61 := by simp at hy; omega
  have HR2 : Hid ((kRow kRanking).is true w2 T [.slice ra rn rc] l) := Kd.kept HR.out hk2 (fun q _ h1 h2 => by have := HT.out q h1; omega)
  have HB2 : Hid (Below w.heap.size w w2) := HB.out.trans ⟨hk2.os, hk2.tape, hk2.output, hk2.size, fun k hk => hk2.block k (by omega) (by omega)⟩
  clear hc2 hk2 hy
  go_wp2
  refine bodyPost_ret (v := .tuple #[.slice ra rn rc, .int .i64 y]) (by simp [results, Try.results60, go_sem]) rfl ?_
  exact ⟨ra, rn, rc, T, l, y, rfl, HR2.out, fun k hk => by have := HT.out k hk; omega, HF.out, hy2, HB2.out⟩
set_option maxRecDepth 100000 in
set_option maxHeartbeats 4000000 in
theorem drawTopBest_k (w : World) (x : List Int) (a : Option Addr) (n c : Nat) (h : (kRow kU8).is false w (fun _ => True) [.slice a n c] x) (hn : n ≤ 9223372036854775807) :
    Calls Try.prog 23 #[.slice a n c] w (RDrawTop w) := by
  have H : Hid ((kRow kU8).is false w (fun _ => True) [.slice a n c] x) := h
  clear h
  go_enter Try.func23, Try.ntmps23
  go_wp2_with fail
  refine (drawAllBest_k w x a n c H.out hn).mono ?_
  rintro e w1 ⟨ra, rn, rc, T, l, k, rfl, hr, hT, hf, hk, hb⟩
  have HR : Hid (RDrawTop w (.returned (.tuple #[.slice ra rn rc, .int .i64 k])) w1) := ⟨ra, rn, rc, T, l, k, rfl, hr, hT, hf, hk, hb⟩
  clear hr hT hf hk hb
  go_wp2
  refine bodyPost_ret (v := .tuple #[.slice ra rn rc, .int .i64 k]) (by simp [results, Try.results23, go_sem]) rfl ?_
  exact HR.out
end Go.Proofs.Ytikgcgfigcolmaa
