/- What a list of nodes is in memory, and what the law's small helpers do with it. No condition. -/
import Derived.Test.YtnmbnebofbdmfaaGreatDoorRows
import Derived.Test.YtnmbnebofbdmfaaGreatDoorPlain
import Derived.Test.YtnmbnebofbdmfaaGreatDoorBase0
import Derived.WalkKit
import Derived.WalkSpells
import Derived.WalkLawsBesides
import Derived.Handy
import Derived.Deep.RegionHeld3
namespace Go.Proofs.YtnmbnebofbdmfaaGreatDoor
open Go.RowKit

/-- Its five cells. -/
def Nd.cells (n : Nd) : Array Value := #[.int .i64 n.kind, .int .i64 n.num, .string n.text, .string n.name, .int .i64 n.up]

theorem cellsNode : Tryz.prog.cellsOf 49 = 5 := by kernel_rfl

set_option maxHeartbeats 400000 in
theorem eqNode_same (k n u : Int) (t m : ByteArray) (w : World) :
    Calls Tryz.prog 34 #[.agg #[.int .i64 k, .int .i64 n, .string t, .string m, .int .i64 u], .agg #[.int .i64 k, .int .i64 n, .string t, .string m, .int .i64 u]] w fun e w' => e = .returned (.bool true) ∧ Below w.heap.size w w' := by
  go_enter Tryz.func34, Tryz.ntmps34
  go_wp2
  go_ret
  exact ⟨rfl, by go_grown⟩

/-- n nodes N lie in block b from offset off on. -/
def NodesAt (w : World) (b off n : Nat) (N : Nat → Nd) : Prop :=
  ∀ i, i < n → w.cell? ⟨b, off + i * 5, none⟩ = some (.int .i64 (N i).kind) ∧ w.cell? ⟨b, off + i * 5 + 1, none⟩ = some (.int .i64 (N i).num) ∧
    w.cell? ⟨b, off + i * 5 + 2, none⟩ = some (.string (N i).text) ∧ w.cell? ⟨b, off + i * 5 + 3, none⟩ = some (.string (N i).name) ∧ w.cell? ⟨b, off + i * 5 + 4, none⟩ = some (.int .i64 (N i).up)

theorem NodesAt.below {w w' : World} {B b off n : Nat} {N : Nat → Nd} (h : NodesAt w b off n N) (hb : Below B w w') (hB : b < B) : NodesAt w' b off n N := fun i hi => by
  obtain ⟨h0, h1, h2, h3, h4⟩ := h i hi
  exact ⟨(hb.cell hB).trans h0, (hb.cell hB).trans h1, (hb.cell hB).trans h2, (hb.cell hB).trans h3, (hb.cell hB).trans h4⟩

/-- The slice value v is n nodes N, in blocks below B. -/
def SliceIs (w : World) (B : Nat) (v : Value) (n : Nat) (N : Nat → Nd) : Prop :=
  ∃ a c, v = .slice a n c ∧ n ≤ 2 ^ 40 ∧ (n = 0 ∨ ∃ b off, a = some ⟨b, off, none⟩ ∧ b < B ∧ NodesAt w b off n N)

theorem SliceIs.below {w w' : World} {B B' : Nat} {v : Value} {n : Nat} {N : Nat → Nd} (h : SliceIs w B v n N) (hb : Below B w w') (hB : B ≤ B') : SliceIs w' B' v n N := by
  obtain ⟨a, c, rfl, hn, h0 | ⟨b, off, rfl, hlt, hat⟩⟩ := h
  · exact ⟨a, c, rfl, hn, .inl h0⟩
  · exact ⟨_, c, rfl, hn, .inr ⟨b, off, rfl, by omega, hat.below hb hlt⟩⟩

set_option maxHeartbeats 400000 in
theorem eqNodeS_some (b1 o1 c1 b2 o2 c2 n : Nat) (N : Nat → Nd) (w : World) (hn : n ≤ 2 ^ 40) (hb1 : b1 < w.heap.size) (hb2 : b2 < w.heap.size)
    (h1 : NodesAt w b1 o1 n N) (h2 : NodesAt w b2 o2 n N) :
    Calls Tryz.prog 19 #[.slice (some ⟨b1, o1, none⟩) n c1, .slice (some ⟨b2, o2, none⟩) n c2] w fun e w' => e = .returned (.bool true) ∧ Below w.heap.size w w' := by
  have H1 : Hid (NodesAt w b1 o1 n N) := h1
  have H2 : Hid (NodesAt w b2 o2 n N) := h2
  clear h1 h2
  go_enter Tryz.func19, Tryz.ntmps19
  go_wp2
  go_loopw [5] (fun i wr => ∃ k : Nat, k ≤ n ∧ i = .int .i64 k ∧ Below w.heap.size w wr) (fun i _ => n - (intOf i).toNat)
  case atStart => exact ⟨0, Nat.zero_le _, rfl, Below.refl _ _⟩
  case round =>
    obtain ⟨k, hk, rfl, hnx⟩ := hrel
    by_cases hlt : k < n
    · obtain ⟨a0, a1, a2, a3, a4⟩ := (H1.out.below hnx hb1) k hlt
      obtain ⟨d0, d1, d2, d3, d4⟩ := (H2.out.below hnx hb2) k hlt
      have i0 : (0 : Int) ≤ (k : Int) := by omega
      have i1 : (k : Int) < (n : Int) := by omega
      have q1 : b1 < wr.heap.size := Nat.lt_of_lt_of_le hb1 hnx.size
      have q2 : b2 < wr.heap.size := Nat.lt_of_lt_of_le hb2 hnx.size
      go_wp2_with fail
      go_region_held3 (fun w' => w'.cell? ⟨b1, o1 + k * 5, none⟩ = some (.int .i64 (N k).kind) ∧ w'.cell? ⟨b1, o1 + k * 5 + 1, none⟩ = some (.int .i64 (N k).num) ∧ w'.cell? ⟨b1, o1 + k * 5 + 2, none⟩ = some (.string (N k).text) ∧ w'.cell? ⟨b1, o1 + k * 5 + 3, none⟩ = some (.string (N k).name) ∧ w'.cell? ⟨b1, o1 + k * 5 + 4, none⟩ = some (.int .i64 (N k).up) ∧ w'.cell? ⟨b2, o2 + k * 5, none⟩ = some (.int .i64 (N k).kind) ∧ w'.cell? ⟨b2, o2 + k * 5 + 1, none⟩ = some (.int .i64 (N k).num) ∧ w'.cell? ⟨b2, o2 + k * 5 + 2, none⟩ = some (.string (N k).text) ∧ w'.cell? ⟨b2, o2 + k * 5 + 3, none⟩ = some (.string (N k).name) ∧ w'.cell? ⟨b2, o2 + k * 5 + 4, none⟩ = some (.int .i64 (N k).up)) (first | exact ⟨a0, a1, a2, a3, a4, d0, d1, d2, d3, d4⟩ | exact ⟨(hc' _ _ q1).trans a0, (hc' _ _ q1).trans a1, (hc' _ _ q1).trans a2, (hc' _ _ q1).trans a3, (hc' _ _ q1).trans a4, (hc' _ _ q2).trans d0, (hc' _ _ q2).trans d1, (hc' _ _ q2).trans d2, (hc' _ _ q2).trans d3, (hc' _ _ q2).trans d4⟩)
        (first | (go_at_call 34; refine (eqNode_same _ _ _ _ _ _).mono ?_; rintro e w' ⟨rfl, hb'⟩; obtain ⟨hc', hf'⟩ := bcell hb'))
      go_wp2
      go_roundw
      case rel => exact ⟨k + 1, by omega, by go_num, (hnx.drew.trans (hb'.mono hnx.size))⟩
      case measure => simp [intOf]; omega
    · go_wp2
      go_ret
      exact ⟨rfl, hnx⟩

set_option maxHeartbeats 400000 in
theorem eqNodeS_none (a1 a2 : Option Addr) (c1 c2 : Nat) (w : World) :
    Calls Tryz.prog 19 #[.slice a1 0 c1, .slice a2 0 c2] w fun e w' => e = .returned (.bool true) ∧ Below w.heap.size w w' := by
  go_enter Tryz.func19, Tryz.ntmps19
  go_wp2
  go_rounds 1
  go_ret
  exact ⟨rfl, by go_grown⟩

theorem eqNodeS_any (v1 v2 : Value) (n : Nat) (N : Nat → Nd) (w : World) (h1 : SliceIs w w.heap.size v1 n N) (h2 : SliceIs w w.heap.size v2 n N) :
    Calls Tryz.prog 19 #[v1, v2] w fun e w' => e = .returned (.bool true) ∧ Below w.heap.size w w' := by
  obtain ⟨a1, c1, rfl, hn, h1⟩ := h1
  obtain ⟨a2, c2, rfl, _, h2⟩ := h2
  rcases h1 with rfl | ⟨b1, o1, rfl, q1, h1⟩
  · exact eqNodeS_none a1 a2 c1 c2 w
  · rcases h2 with rfl | ⟨b2, o2, rfl, q2, h2⟩
    · exact eqNodeS_none _ a2 c1 c2 w
    · exact eqNodeS_some b1 o1 c1 b2 o2 c2 n N w hn q1 q2 h1 h2

set_option maxHeartbeats 400000 in
theorem eqValue_any (v1 v2 : Value) (n : Nat) (N : Nat → Nd) (w : World) (h1 : SliceIs w w.heap.size v1 n N) (h2 : SliceIs w w.heap.size v2 n N) :
    Calls Tryz.prog 8 #[.agg #[v1], .agg #[v2]] w fun e w' => e = .returned (.bool true) ∧ Below w.heap.size w w' := by
  obtain ⟨a1, c1, rfl, h1⟩ := h1
  obtain ⟨a2, c2, rfl, h2⟩ := h2
  have H1 : Hid (SliceIs w w.heap.size (.slice a1 n c1) n N) := ⟨a1, c1, rfl, h1⟩
  have H2 : Hid (SliceIs w w.heap.size (.slice a2 n c2) n N) := ⟨a2, c2, rfl, h2⟩
  clear h1 h2
  go_enter Tryz.func8, Tryz.ntmps8
  go_wp2_with fail
  refine (eqNodeS_any _ _ n N _ ?_ ?_).mono ?_
  · exact H1.out.below (by go_grown) (by simp; omega)
  · exact H2.out.below (by go_grown) (by simp; omega)
  rintro e w1 ⟨rfl, hb⟩
  go_wp2
  go_ret
  exact ⟨rfl, (show Below w.heap.size w _ by go_grown).trans (hb.mono (by simp; omega))⟩

/-- The nodes' cells may be written. -/
def FreeAt (w : World) (b off n : Nat) : Prop := ∀ o, o < n * 5 → w.frozen? ⟨b, off + o, none⟩ = false

/-- The node that is marked from k on. -/
def mk (k : Int) : Nd := ⟨k, k + 1, mtext (k + 1 + 1), mtext (k + 1 + 1 + 1), k + 1 + 1 + 1 + 1⟩

theorem mark_step {wr w1 w2 : World} {b off n k : Nat} {M : Nat → Nd} {x y u : Int} {s t : ByteArray} (hk : k < n) (h : NodesAt wr b off n M) (hf : FreeAt wr b off n) (q1 : b < wr.heap.size) (q2 : b < w1.heap.size)
    (B1 : Below ((wr.setCell ⟨b, off + k * 5, none⟩ (.int .i64 x)).setCell ⟨b, off + k * 5 + 1, none⟩ (.int .i64 y)).heap.size ((wr.setCell ⟨b, off + k * 5, none⟩ (.int .i64 x)).setCell ⟨b, off + k * 5 + 1, none⟩ (.int .i64 y)) w1)
    (B2 : Below (w1.setCell ⟨b, off + k * 5 + 2, none⟩ (.string s)).heap.size (w1.setCell ⟨b, off + k * 5 + 2, none⟩ (.string s)) w2) :
    NodesAt ((w2.setCell ⟨b, off + k * 5 + 3, none⟩ (.string t)).setCell ⟨b, off + k * 5 + 4, none⟩ (.int .i64 u)) b off n (fun j => if j = k then ⟨x, y, s, t, u⟩ else M j) ∧
      FreeAt ((w2.setCell ⟨b, off + k * 5 + 3, none⟩ (.string t)).setCell ⟨b, off + k * 5 + 4, none⟩ (.int .i64 u)) b off n ∧
      BelowBut wr.heap.size b wr ((w2.setCell ⟨b, off + k * 5 + 3, none⟩ (.string t)).setCell ⟨b, off + k * 5 + 4, none⟩ (.int .i64 u)) := by
  obtain ⟨a0, a1, a2, a3, a4⟩ := h k hk
  have p1 : ∀ o, w1.cell? ⟨b, o, none⟩ = if o = off + k * 5 + 1 then some (.int .i64 y) else if o = off + k * 5 then some (.int .i64 x) else wr.cell? ⟨b, o, none⟩ := fun o => by
    rw [B1.cell (p := ⟨b, o, none⟩) (by simpa using q1), cell_set (by rw [cell_set (by rw [a0]; rfl), if_neg (by omega), a1]; rfl), cell_set (by rw [a0]; rfl)]
  have p2 : ∀ o, w2.cell? ⟨b, o, none⟩ = if o = off + k * 5 + 2 then some (.string s) else w1.cell? ⟨b, o, none⟩ := fun o => by
    rw [B2.cell (p := ⟨b, o, none⟩) (by simpa using q2), cell_set (by rw [p1, if_neg (by omega), if_neg (by omega), a2]; rfl)]
  have p3 : ∀ o, ((w2.setCell ⟨b, off + k * 5 + 3, none⟩ (.string t)).setCell ⟨b, off + k * 5 + 4, none⟩ (.int .i64 u)).cell? ⟨b, o, none⟩ = if o = off + k * 5 + 4 then some (.int .i64 u) else if o = off + k * 5 + 3 then some (.string t) else w2.cell? ⟨b, o, none⟩ := fun o => by
    have e3 : (w2.cell? ⟨b, off + k * 5 + 3, none⟩).isSome = true := by rw [p2, if_neg (by omega), p1, if_neg (by omega), if_neg (by omega), a3]; rfl
    rw [cell_set (by rw [cell_set e3, if_neg (by omega), p2, if_neg (by omega), p1, if_neg (by omega), if_neg (by omega), a4]; rfl), cell_set e3]
  refine ⟨fun j hj => ?_, fun o ho => ?_, ?_⟩
  · simp only [p3, p2, p1]
    by_cases e : j = k
    · subst e
      simp
    · obtain ⟨c0, c1, c2, c3, c4⟩ := h j hj
      simp only [if_neg e]
      refine ⟨?_, ?_, ?_, ?_, ?_⟩
      · rw [if_neg (by omega), if_neg (by omega), if_neg (by omega), if_neg (by omega), if_neg (by omega), c0]
      · rw [if_neg (by omega), if_neg (by omega), if_neg (by omega), if_neg (by omega), if_neg (by omega), c1]
      · rw [if_neg (by omega), if_neg (by omega), if_neg (by omega), if_neg (by omega), if_neg (by omega), c2]
      · rw [if_neg (by omega), if_neg (by omega), if_neg (by omega), if_neg (by omega), if_neg (by omega), c3]
      · rw [if_neg (by omega), if_neg (by omega), if_neg (by omega), if_neg (by omega), if_neg (by omega), c4]
  · rw [World.frozen?_setCell, World.frozen?_setCell, B2.frozen (by simpa using q2), World.frozen?_setCell, B1.frozen (by simpa using q1), World.frozen?_setCell, World.frozen?_setCell]
    exact hf o ho
  · have s1 := B1.size
    have s2 := B2.size
    simp at s1 s2
    exact (((((BelowBut.setCell wr _ _).trans (BelowBut.setCell _ _ _)).trans (BelowBut.of (B1.mono (by simp)))).trans (BelowBut.setCell _ _ _)).trans (BelowBut.of (B2.mono (by simp; omega)))).trans ((BelowBut.setCell _ _ _).trans (BelowBut.setCell _ _ _))

set_option maxHeartbeats 400000 in
theorem markNodeS_some (b off c n : Nat) (N : Nat → Nd) (k0 : Int) (w : World) (hn : n ≤ 2 ^ 30) (hk0 : 0 < k0) (hk1 : k0 ≤ 2 ^ 30) (hb : b < w.heap.size)
    (h : NodesAt w b off n N) (hf : FreeAt w b off n) :
    Calls Tryz.prog 20 #[.slice (some ⟨b, off, none⟩) n c, .int .i64 k0] w fun e w' => e = .returned (.int .i64 (k0 + 5 * n)) ∧ BelowBut w.heap.size b w w' ∧ NodesAt w' b off n (fun i => mk (k0 + 5 * i)) ∧ FreeAt w' b off n := by
  have H : Hid (NodesAt w b off n N) := h
  have HF : Hid (FreeAt w b off n) := hf
  clear h hf
  go_enter Tryz.func20, Tryz.ntmps20
  go_wp2_with fail
  go_loopw [1, 5] (fun q i wr => ∃ k : Nat, k ≤ n ∧ i = .int .i64 k ∧ q = .int .i64 (k0 + 5 * k) ∧ BelowBut w.heap.size b w wr ∧ NodesAt wr b off n (fun j => if j < k then mk (k0 + 5 * j) else N j) ∧ FreeAt wr b off n) (fun _ i _ => n - (intOf i).toNat)
  case atStart => exact ⟨0, Nat.zero_le _, rfl, by simp, BelowBut.refl _ _ _, by simpa using H.out, HF.out⟩
  case round =>
    obtain ⟨k, hk, rfl, rfl, hnx, hat, hfr⟩ := hrel
    by_cases hlt : k < n
    · have hatk := hat k hlt
      simp only [Nat.lt_irrefl, if_false] at hatk
      obtain ⟨a0, a1, a2, a3, a4⟩ := hatk
      have f0 := hfr (k * 5) (by omega)
      have f1 := hfr (k * 5 + 1) (by omega)
      have f2 := hfr (k * 5 + 2) (by omega)
      have f3 := hfr (k * 5 + 3) (by omega)
      have f4 := hfr (k * 5 + 4) (by omega)
      simp only [← Nat.add_assoc] at f1 f2 f3 f4
      have i0 : (0 : Int) ≤ (k : Int) := by omega
      have i1 : (k : Int) < (n : Int) := by omega
      have q1 : b < wr.heap.size := Nat.lt_of_lt_of_le hb hnx.size
      have Hat := hat
      have HA : Hid (NodesAt wr b off n (fun j => if j < k then mk (k0 + 5 * j) else N j)) := hat
      have HR : Hid (FreeAt wr b off n) := hfr
      clear hat hfr Hat
      go_wp2_with fail
      refine (markText_any _ _ (by omega) (by omega)).mono ?_
      rintro e w1 ⟨rfl, hb1⟩
      obtain ⟨hc1, hf1⟩ := bcell hb1
      have q2 : b < w1.heap.size := by have := hb1.size; simp at this; omega
      have HB1 : Hid (Below _ _ w1) := hb1
      clear hb1
      go_wp2_with fail
      refine (markText_any _ _ (by omega) (by omega)).mono ?_
      rintro e w2 ⟨rfl, hb2⟩
      obtain ⟨hc2, hf2⟩ := bcell hb2
      have q3 : b < w2.heap.size := by have := hb2.size; simp at this; omega
      have HB2 : Hid (Below _ _ w2) := hb2
      clear hb2
      go_wp2_with fail
      obtain ⟨r1, r2, r3⟩ := mark_step (t := mtext (k0 + 5 * k + 1 + 1 + 1)) (u := k0 + 5 * k + 1 + 1 + 1 + 1) hlt HA.out HR.out q1 q2 HB1.out HB2.out
      go_roundw
      case rel =>
        refine ⟨k + 1, by omega, by go_num, by go_num, hnx.trans (r3.mono hnx.size), fun j hj => ?_, r2⟩
        have := r1 j hj
        by_cases e : j = k
        · subst e
          simp only [if_pos (Nat.lt_succ_self j)] at this ⊢
          simpa only [mk, if_true] using this
        · simp only [if_neg e] at this
          by_cases e2 : j < k
          · simp only [if_pos e2, if_pos (Nat.lt_succ_of_lt e2)] at this ⊢
            exact this
          · simp only [if_neg e2, if_neg (show ¬ j < k + 1 by omega)] at this ⊢
            exact this
      case measure => simp [intOf]; omega
    · go_wp2
      go_ret
      obtain rfl : k = n := by omega
      refine ⟨rfl, hnx, fun i hi => ?_, hfr⟩
      have := hat i hi
      simp only [if_pos hi] at this
      exact this

set_option maxHeartbeats 400000 in
theorem markNodeS_none (a : Option Addr) (c : Nat) (k0 : Int) (w : World) :
    Calls Tryz.prog 20 #[.slice a 0 c, .int .i64 k0] w fun e w' => e = .returned (.int .i64 k0) ∧ w' = w := by
  go_enter Tryz.func20, Tryz.ntmps20
  go_wp2
  go_rounds 1
  go_ret
  exact ⟨rfl, rfl⟩

set_option maxHeartbeats 400000 in
theorem heldNodeS_none (a : Option Addr) (c : Nat) (k0 : Int) (w : World) :
    Calls Tryz.prog 21 #[.slice a 0 c, .int .i64 k0] w fun e w' => e = .returned (.int .i64 k0) ∧ w' = w := by
  go_enter Tryz.func21, Tryz.ntmps21
  go_wp2
  go_rounds 1
  go_ret
  exact ⟨rfl, rfl⟩

set_option maxHeartbeats 1000000 in
theorem heldNodeS_some (b off c n : Nat) (k0 : Int) (w : World) (hn : n ≤ 2 ^ 30) (hk0 : 0 < k0) (hk1 : k0 ≤ 2 ^ 30) (hb : b < w.heap.size)
    (h : NodesAt w b off n (fun i => mk (k0 + 5 * i))) :
    Calls Tryz.prog 21 #[.slice (some ⟨b, off, none⟩) n c, .int .i64 k0] w fun e w' => e = .returned (.int .i64 (k0 + 5 * n)) ∧ Below w.heap.size w w' := by
  have H : Hid (NodesAt w b off n (fun i => mk (k0 + 5 * i))) := h
  clear h
  go_enter Tryz.func21, Tryz.ntmps21
  go_wp2_with fail
  go_loopw [1, 5] (fun q i wr => ∃ k : Nat, k ≤ n ∧ i = .int .i64 k ∧ q = .int .i64 (k0 + 5 * k) ∧ Below w.heap.size w wr) (fun _ i _ => n - (intOf i).toNat)
  case atStart => exact ⟨0, Nat.zero_le _, rfl, by simp, Below.refl _ _⟩
  case round =>
    obtain ⟨k, hk, rfl, rfl, hnx⟩ := hrel
    by_cases hlt : k < n
    · obtain ⟨a0, a1, a2, a3, a4⟩ := H.out.below hnx hb k hlt
      simp only [mk] at a0 a1 a2 a3 a4
      have i0 : (0 : Int) ≤ (k : Int) := by omega
      have i1 : (k : Int) < (n : Int) := by omega
      have q1 : b < wr.heap.size := Nat.lt_of_lt_of_le hb hnx.size
      obtain ⟨z, hz⟩ : ∃ z : Int, z = k0 + 5 * k := ⟨_, rfl⟩
      rw [← hz] at a0 a1 a2 a3 a4 ⊢
      have hz0 : 0 < z := by omega
      have hz1 : z ≤ 2 ^ 40 - 10 := by omega
      have HZ : Hid (z = k0 + 5 * k) := hz
      clear hz
      go_wp2_with fail
      go_region_held3 (fun w' => w'.cell? ⟨b, off + k * 5 + 2, none⟩ = some (.string (mtext (z + 1 + 1)))) (first | exact a2 | exact (hc1 _ _ q1).trans a2)
        (first | (go_at_call 35; refine (markText_any _ _ (by omega) (by omega)).mono ?_; rintro e w1 ⟨rfl, hb1⟩; obtain ⟨hc1, hf1⟩ := bcell hb1))
      have q2 : b < w1.heap.size := by have := hb1.size; simp at this; omega
      have HB1 : Hid (Below _ _ w1) := hb1
      clear hb1
      go_wp2_with fail
      have d3 : w1.cell? ⟨b, off + k * 5 + 3, none⟩ = some (.string (mtext (z + 1 + 1 + 1))) := (hc1 _ _ q1).trans a3
      have d4 : w1.cell? ⟨b, off + k * 5 + 4, none⟩ = some (.int .i64 (z + 1 + 1 + 1 + 1)) := (hc1 _ _ q1).trans a4
      clear hc1 hf1
      go_region_held3 (fun w' => w'.cell? ⟨b, off + k * 5 + 3, none⟩ = some (.string (mtext (z + 1 + 1 + 1)))) (first | exact d3 | exact (hc2 _ _ q2).trans d3)
        (first | (go_at_call 35; refine (markText_any _ _ (by omega) (by omega)).mono ?_; rintro e w2 ⟨rfl, hb2⟩; obtain ⟨hc2, hf2⟩ := bcell hb2))
      have d5 : w2.cell? ⟨b, off + k * 5 + 4, none⟩ = some (.int .i64 (z + 1 + 1 + 1 + 1)) := (hc2 _ _ q2).trans d4
      have HB2 : Hid (Below _ _ w2) := hb2
      clear hb2 hc2 hf2
      go_wp2_with fail
      go_roundw
      case rel => exact ⟨k + 1, by omega, by go_num, by rw [HZ.out]; go_num, (hnx.drew.trans ((HB1.out).mono hnx.size)).drew.trans (HB2.out.mono (Nat.le_trans hnx.size HB1.out.size))⟩
      case measure => simp [intOf]; omega
    · go_wp2
      go_ret
      obtain rfl : k = n := by omega
      exact ⟨rfl, hnx⟩

end Go.Proofs.YtnmbnebofbdmfaaGreatDoor
