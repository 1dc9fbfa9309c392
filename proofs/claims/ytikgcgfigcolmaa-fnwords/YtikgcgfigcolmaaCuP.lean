/- Postings that are drawn: some list of few. No condition but that it fits in memory. -/
import Derived.Test.YtikgcgfigcolmaaCur
import Derived.Test.YtikgcgfigcolmaaUpJ
import Derived.Test.YtikgcgfigcolmaaAp2
namespace Go.Proofs.Ytikgcgfigcolmaa
open Go.RowKit
set_option linter.unusedVariables false

/-- Some few postings in memory of their own. -/
def RPd (w : World) (g : Nat) (S : Nat → Prop) (m : Int) (e : Ending) (w' : World) : Prop := ∃ (a : Option Addr) (n c : Nat) (T : Nat → Prop) (l : List DPosting), e = .returned (.slice a n c) ∧ (kRow kPosting).is true w' T [.slice a n c] l ∧ (∀ k, T k → w.heap.size ≤ k) ∧ l.length ≤ 6 ∧ CurAt w' g S m ∧ KeptO (fun k => k = g) w w'
theorem ints_of {w : World} {vs : List Int} {T : TypeId} (W : World) (hW : W = w.alloc (.cells ((vs.map fun y => Value.int .i64 y).toArray) T)) : ∀ j, j < vs.length → W.cell? ⟨w.heap.size, j, none⟩ = some (.int .i64 (vs.getD j 0)) := by
  intro j hj
  rw [hW, World.cell?_alloc_new]
  simp [hj]

theorem CurAt.kept {w w' : World} {g : Nat} {S S' : Nat → Prop} {m : Int} (h : CurAt w g S m) (hk : KeptO S' w w') (hg : ¬ S' g) (hS : ∀ k, S k → ¬ S' k) : CurAt w' g S m := by
  obtain ⟨x, ca, cn, cc, p, sd, h0, h1, h2, h3, h4, h5⟩ := h
  have hgw := World.block_lt_of_cell? _ _ h0
  refine ⟨x, ca, cn, cc, p, sd, cell_keptO hk h0 hg, cell_keptO hk h1 hg, cell_keptO hk h2 hg, fun o ho => ?_, Kd.kept h4 hk (fun k _ h h' => hS k h h'), h5⟩
  match o, ho with
  | 0, ho => exact frozen_keptO hk h0 (h3 0 ho) hg
  | 1, ho => exact frozen_keptO hk h1 (h3 1 ho) hg
  | 2, ho => exact frozen_keptO hk h2 (h3 2 ho) hg
theorem KeptO.low {S : Nat → Prop} {w w' w'' : World} (h : KeptO S w w') (hb : Below w.heap.size w' w'') : KeptO S w w'' := ⟨hb.os.trans h.os, hb.tape.trans h.tape, hb.output.trans h.output, Nat.le_trans h.size hb.size, fun k hk hn => (hb.block k hk).trans (h.block k hk hn)⟩
/-- among of a list that is written out. -/
theorem among_at (w : World) (g : Nat) (S : Nat → Prop) (m : Int) (l : List Int) (T : TypeId) (h : CurAt w g S m) (hm : m ≤ 2 ^ 49) (hg : g < w.heap.size) (hl : 1 ≤ l.length) (hl2 : l.length ≤ 200) :
    Calls Try.prog 74 #[.pointer (some ⟨g, 0, none⟩), .slice (some ⟨w.heap.size, 0, none⟩) l.length l.length] (w.alloc (.cells ((l.map fun y => Value.int .i64 y).toArray) T)) (RAmong w g S (m + 1) l) := by
  refine (among_k _ g S m w.heap.size l (h.below (below_a1' _ _)) hm (by simp) (by omega) hl hl2 (ints_of _ rfl)).mono ?_
  rintro e w' ⟨y, hy, rfl, hc, hk⟩
  exact ⟨y, hy, rfl, hc, (KeptO.of (below_a1' _ _)).trans hk⟩

end Go.Proofs.Ytikgcgfigcolmaa
