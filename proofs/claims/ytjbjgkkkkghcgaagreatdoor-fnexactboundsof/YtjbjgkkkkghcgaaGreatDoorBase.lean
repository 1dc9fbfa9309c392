/- What a list of nodes is in memory, and what the law's small helpers do with it. No condition. -/
import Derived.Test.YtjbjgkkkkghcgaaGreatDoorRows
import Derived.Test.YtjbjgkkkkghcgaaGreatDoorPlain
import Derived.Test.YtjbjgkkkkghcgaaGreatDoorBase0
import Derived.WalkKit
import Derived.WalkSpells
import Derived.WalkLawsBesides
import Derived.Handy
import Derived.Deep.RegionHeld3
namespace Go.Proofs.YtjbjgkkkkghcgaaGreatDoor
open Go.RowKit

/-- Its five cells. -/
def Nd.cells (n : Nd) : Array Value := #[.int .i64 n.kind, .int .i64 n.num, .string n.text, .string n.name, .int .i64 n.up]

theorem cellsNode : Tryz.prog.cellsOf 66 = 5 := by kernel_rfl

set_option maxHeartbeats 400000 in
theorem eqNode_same (k n u : Int) (t m : ByteArray) (w : World) :
    Calls Tryz.prog 87 #[.agg #[.int .i64 k, .int .i64 n, .string t, .string m, .int .i64 u], .agg #[.int .i64 k, .int .i64 n, .string t, .string m, .int .i64 u]] w fun e w' => e = .returned (.bool true) ∧ Below w.heap.size w w' := by
  go_enter Tryz.func87, Tryz.ntmps87
  go_wp2
  go_ret
  exact ⟨rfl, by go_grown⟩

/-- n nodes N lie in block b from offset off on. -/
def NodesAt (w : World) (b off n : Nat) (N : Nat → Nd) : Prop :=
  ∀ i, i < n → w.cell? ⟨b, off + i * 5, none⟩ = some (.int .i64 (N i).kind) ∧ w.cell? ⟨b, off + i * 5 + 1, none⟩ = some (.int .i64 (N i).num) ∧
    w.cell? ⟨b, off + i * 5 + 2, none⟩ = some (.string (N i).text) ∧ w.cell? ⟨b, off + i * 5 + 3, none⟩ = some (.string (N i).name) ∧ w.cell? ⟨b, off + i * 5 + 4, none⟩ = some (.int .i64 (N i).up)

theorem NodesAt.below {w w' : World} {B b off n : Nat} {N : Nat → Nd} (h : NodesAt w b off n N) (hb : Below B w w') (hB : b < B) : NodesAt w' b off n N := fun i hi => by
  obtain ⟨h0, h1, h2, h3, h4⟩ := h i hi
  exact ⟨(hb.cell hB).trans h0, (hb.cell hB).trans h1, (hb.cell hB).trans h2, (hb.cell hB).trans h3, (hb.cell hB).trans h4⟩

/-- The slice value v is n nodes N, in blocks below B. -/
def SliceIs (w : World) (B : Nat) (v : Value) (n : Nat) (N : Nat → Nd) : Prop :=
  ∃ a c, v = .slice a n c ∧ n ≤ 2 ^ 40 ∧ (n = 0 ∨ ∃ b off, a = some ⟨b, off, none⟩ ∧ b < B ∧ NodesAt w b off n N)

theorem SliceIs.below {w w' : World} {B B' : Nat} {v : Value} {n : Nat} {N : Nat → Nd} (h : SliceIs w B v n N) (hb : Below B w w') (hB : B ≤ B') : SliceIs w' B' v n N := by
  obtain ⟨a, c, rfl, hn, h0 | ⟨b, off, rfl, hlt, hat⟩⟩ := h
  · exact ⟨a, c, rfl, hn, .inl h0⟩
  · exact ⟨_, c, rfl, hn, .inr ⟨b, off, rfl, by omega, hat.below hb hlt⟩⟩

set_option maxHeartbeats 400000 in
theorem eqNodeS_some (b1 o1 c1 b2 o2 c2 n : Nat) (N : Nat → Nd) (w : World) (hn : n ≤ 2 ^ 40) (hb1 : b1 < w.heap.size) (hb2 : b2 < w.heap.size)
    (h1 : NodesAt w b1 o1 n N) (h2 : NodesAt w b2 o2 n N) :
    Calls Tryz.prog 71 #[.slice (some ⟨b1, o1, none⟩) n c1, .slice (some ⟨b2, o2, none⟩) n c2] w fun e w' => e = .returned (.bool true) ∧ Below w.heap.size w w' := by
  have H1 : Hid (NodesAt w b1 o1 n N) := h1
  have H2 : Hid (NodesAt w b2 o2 n N) := h2
  clear h1 h2
  go_enter Tryz.func71, Tryz.ntmps71
  go_wp2
  go_loopw [5] (fun i wr => ∃ k : Nat, k ≤ n ∧ i = .int .i64 k ∧ Below w.heap.size w wr) (fun i _ => n - (intOf i).toNat)
  case atStart => exact ⟨0, Nat.zero_le _, rfl, Below.refl _ _⟩
  case round =>
    obtain ⟨k, hk, rfl, hnx⟩ := hrel
    by_cases hlt : k < n
    · obtain ⟨a0, a1, a2, a3, a4⟩ := (H1.out.below hnx hb1) k hlt
      obtain ⟨d0, d1, d2, d3, d4⟩ := (H2.out.below hnx hb2) k hlt
      have i0 : (0 : Int) ≤ (k : Int) := by omega
      have i1 : (k : Int) < (n : Int) := by omega
      have q1 : b1 < wr.heap.size := Nat.lt_of_lt_of_le hb1 hnx.size
      have q2 : b2 < wr.heap.size := Nat.lt_of_lt_of_le hb2 hnx.size
      go_wp2_with fail
      go_region_held3 (fun w' => w'.cell? ⟨b1, o1 + k * 5, none⟩ = some (.int .i64 (N k).kind) ∧ w'.cell? ⟨b1, o1 + k * 5 + 1, none⟩ = some (.int .i64 (N k).num) ∧ w'.cell? ⟨b1, o1 + k * 5 + 2, none⟩ = some (.string (N k).text) ∧ w'.cell? ⟨b1, o1 + k * 5 + 3, none⟩ = some (.string (N k).name) ∧ w'.cell? ⟨b1, o1 + k * 5 + 4, none⟩ = some (.int .i64 (N k).up) ∧ w'.cell? ⟨b2, o2 + k * 5, none⟩ = some (.int .i64 (N k).kind) ∧ w'.cell? ⟨b2, o2 + k * 5 + 1, none⟩ = some (.int .i64 (N k).num) ∧ w'.cell? ⟨b2, o2 + k * 5 + 2, none⟩ = some (.string (N k).text) ∧ w'.cell? ⟨b2, o2 + k * 5 + 3, none⟩ = some (.string (N k).name) ∧ w'.cell? ⟨b2, o2 + k * 5 + 4, none⟩ = some (.int .i64 (N k).up)) (first | exact ⟨a0, a1, a2, a3, a4, d0, d1, d2, d3, d4⟩ | exact ⟨(hc' _ _ q1).trans a0, (hc' _ _ q1).trans a1, (hc' _ _ q1).trans a2, (hc' _ _ q1).trans a3, (hc' _ _ q1).trans a4, (hc' _ _ q2).trans d0, (hc' _ _ q2).trans d1, (hc' _ _ q2).trans d2, (hc' _ _ q2).trans d3, (hc' _ _ q2).trans d4⟩)
        (first | (go_at_call 87; refine (eqNode_same _ _ _ _ _ _).mono ?_; rintro e w' ⟨rfl, hb'⟩; obtain ⟨hc', hf'⟩ := bcell hb'))
      go_wp2
      go_roundw
      case rel => exact ⟨k + 1, by omega, by go_num, (hnx.drew.trans (hb'.mono hnx.size))⟩
      case measure => simp [intOf]; omega
    · go_wp2
      go_ret
      exact ⟨rfl, hnx⟩

set_option maxHeartbeats 400000 in
theorem eqNodeS_none (a1 a2 : Option Addr) (c1 c2 : Nat) (w : World) :
    Calls Tryz.prog 71 #[.slice a1 0 c1, .slice a2 0 c2] w fun e w' => e = .returned (.bool true) ∧ Below w.heap.size w w' := by
  go_enter Tryz.func71, Tryz.ntmps71
  go_wp2
  go_rounds 1
  go_ret
  exact ⟨rfl, by go_grown⟩

theorem eqNodeS_any (v1 v2 : Value) (n : Nat) (N : Nat → Nd) (w : World) (h1 : SliceIs w w.heap.size v1 n N) (h2 : SliceIs w w.heap.size v2 n N) :
    Calls Tryz.prog 71 #[v1, v2] w fun e w' => e = .returned (.bool true) ∧ Below w.heap.size w w' := by
  obtain ⟨a1, c1, rfl, hn, h1⟩ := h1
  obtain ⟨a2, c2, rfl, _, h2⟩ := h2
  rcases h1 with rfl | ⟨b1, o1, rfl, q1, h1⟩
  · exact eqNodeS_none a1 a2 c1 c2 w
  · rcases h2 with rfl | ⟨b2, o2, rfl, q2, h2⟩
    · exact eqNodeS_none _ a2 c1 c2 w
    · exact eqNodeS_some b1 o1 c1 b2 o2 c2 n N w hn q1 q2 h1 h2

set_option maxHeartbeats 400000 in
theorem eqValue_any (v1 v2 : Value) (n : Nat) (N : Nat → Nd) (w : World) (h1 : SliceIs w w.heap.size v1 n N) (h2 : SliceIs w w.heap.size v2 n N) :
    Calls Tryz.prog 52 #[.agg #[v1], .agg #[v2]] w fun e w' => e = .returned (.bool true) ∧ Below w.heap.size w w' := by
  obtain ⟨a1, c1, rfl, h1⟩ := h1
  obtain ⟨a2, c2, rfl, h2⟩ := h2
  have H1 : Hid (SliceIs w w.heap.size (.slice a1 n c1) n N) := ⟨a1, c1, rfl, h1⟩
  have H2 : Hid (SliceIs w w.heap.size (.slice a2 n c2) n N) := ⟨a2, c2, rfl, h2⟩
  clear h1 h2
  go_enter Tryz.func52, Tryz.ntmps52
  go_wp2_with fail
  refine (eqNodeS_any _ _ n N _ ?_ ?_).mono ?_
  · exact H1.out.below (by go_grown) (by simp; omega)
  · exact H2.out.below (by go_grown) (by simp; omega)
  rintro e w1 ⟨rfl, hb⟩
  go_wp2
  go_ret
  exact ⟨rfl, (show Below w.heap.size w _ by go_grown).trans (hb.mono (by simp; omega))⟩

/-- The nodes' cells may be written. -/
def FreeAt (w : World) (b off n : Nat) : Prop := ∀ o, o < n * 5 → w.frozen? ⟨b, off + o, none⟩ = false

/-- The node that is marked from k on. -/
def mk (k : Int) : Nd := ⟨k, k + 1, mtext (k + 1 + 1), mtext (k + 1 + 1 + 1), k + 1 + 1 + 1 + 1⟩

theorem mark_step {wr w1 w2 : World} {b off n k : Nat} {M : Nat → Nd} {x y u : Int} {s t : ByteArray} (hk : k < n) (h : NodesAt wr b off n M) (hf : FreeAt wr b off n) (q1 : b < wr.heap.size) (q2 : b < w1.heap.size)
    (B1 : Below ((wr.setCell ⟨b, off + k * 5, none⟩ (.int .i64 x)).setCell ⟨b, off + k * 5 + 1, none⟩ (.int .i64 y)).heap.size ((wr.setCell ⟨b, off + k * 5, none⟩ (.int .i64 x)).setCell ⟨b, off + k * 5 + 1, none⟩ (.int .i64 y)) w1)
    (B2 : Below (w1.setCell ⟨b, off + k * 5 + 2, none⟩ (.string s)).heap.size (w1.setCell ⟨b, off + k * 5 + 2, none⟩ (.string s)) w2) :
    NodesAt ((w2.setCell ⟨b, off + k * 5 + 3, none⟩ (.string t)).setCell ⟨b, off + k * 5 + 4, none⟩ (.int .i64 u)) b off n (fun j => if j = k then ⟨x, y, s, t, u⟩ else M j) ∧
      FreeAt ((w2.setCell ⟨b, off + k * 5 + 3, none⟩ (.string t)).setCell ⟨b, off + k * 5 + 4, none⟩ (.int .i64 u)) b off n ∧
      BelowBut wr.heap.size b wr ((w2.setCell ⟨b, off + k * 5 + 3, none⟩ (.string t)).setCell ⟨b, off + k * 5 + 4, none⟩ (.int .i64 u)) := by
  obtain ⟨a0, a1, a2, a3, a4⟩ := h k hk
  have p1 : ∀ o, w1.cell? ⟨b, o, none⟩ = if o = off + k * 5 + 1 then some (.int .i64 y) else if o = off + k * 5 then some (.int .i64 x) else wr.cell? ⟨b, o, none⟩ := fun o => by
    rw [B1.cell (p := ⟨b, o, none⟩) (by simpa using q1), cell_set (by rw [cell_set (by rw [a0]; rfl), if_neg (by omega), a1]; rfl), cell_set (by rw [a0]; rfl)]
  have p2 : ∀ o, w2.cell? ⟨b, o, none⟩ = if o = off + k * 5 + 2 then some (.string s) else w1.cell? ⟨b, o, none⟩ := fun o => by
    rw [B2.cell (p := ⟨b, o, none⟩) (by simpa using q2), cell_set (by rw [p1, if_neg (by omega), if_neg (by omega), a2]; rfl)]
  have p3 : ∀ o, ((w2.setCell ⟨b, off + k * 5 + 3, none⟩ (.string t)).setCell ⟨b, off + k * 5 + 4, none⟩ (.int .i64 u)).cell? ⟨b, o, none⟩ = if o = off + k * 5 + 4 then some (.int .i64 u) else if o = off + k * 5 + 3 then some (.string t) else w2.cell? ⟨b, o, none⟩ := fun o => by
    have e3 : (w2.cell? ⟨b, off + k * 5 + 3, none⟩).isSome = true := by rw [p2, if_neg (by omega), p1, if_neg (by omega), if_neg (by omega), a3]; rfl
    rw [cell_set (by rw [cell_set e3, if_neg (by omega), p2, if_neg (by omega), p1, if_neg (by omega), if_neg (by omega), a4]; rfl), cell_set e3]
  refine ⟨fun j hj => ?_, fun o ho => ?_, ?_⟩
  · simp only [p3, p2, p1]
    by_cases e : j = k
    · subst e
      simp
    · obtain ⟨c0, c1, c2, c3, c4⟩ := h j hj
      simp only [if_neg e]
      refine ⟨?_, ?_, ?_, ?_, ?_⟩
      · rw [if_neg (by omega), if_neg (by omega), if_neg (by omega), if_neg (by omega), if_neg (by omega), c0]
      · rw [if_neg (by omega), if_neg (by omega), if_neg (by omega), if_neg (by omega), if_neg (by omega), c1]
      · rw [if_neg (by omega), if_neg (by omega), if_neg (by omega), if_neg (by omega), if_neg (by omega), c2]
      · rw [if_neg (by omega), if_neg (by omega), if_neg (by omega), if_neg (by omega), if_neg (by omega), c3]
      · rw [if_neg (by omega), if_neg (by omega), if_neg (by omega), if_neg (by omega), if_neg (by omega), c4]
  · rw [World.frozen?_setCell, World.frozen?_setCell, B2.frozen (by simpa using q2), World.frozen?_setCell, B1.frozen (by simpa using q1), World.frozen?_setCell, World.frozen?_setCell]
    exact hf o ho
  · have s1 := B1.size
    have s2 := B2.size
    simp at s1 s2
    exact (((((BelowBut.setCell wr _ _).trans (BelowBut.setCell _ _ _)).trans (BelowBut.of (B1.mono (by simp)))).trans (BelowBut.setCell _ _ _)).trans (BelowBut.of (B2.mono (by simp; omega)))).trans ((BelowBut.setCell _ _ _).trans (BelowBut.setCell _ _ _))

end Go.Proofs.YtjbjgkkkkghcgaaGreatDoor
