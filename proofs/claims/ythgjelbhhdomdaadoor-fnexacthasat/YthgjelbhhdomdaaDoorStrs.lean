/- Texts in memory of the call's own. No condition. What the law's small helpers do with a list of texts. No condition. -/
import Derived.Test.YthgjelbhhdomdaaDoorBase0
namespace Go.Proofs.YthgjelbhhdomdaaDoor
open Go.RowKit
set_option linter.unusedVariables false

theorem made_one (z : Value) (n j : Nat) (hj : j < n) : (madeCells #[z] n)[j]? = some z := by
  simp [madeCells, hj, Nat.mod_one]

def StrsAt (w : World) (g n : Nat) (f : Nat → ByteArray) : Prop := ∀ i, i < n → w.cell? ⟨g, i, none⟩ = some (.string (f i)) ∧ w.frozen? ⟨g, i, none⟩ = false
theorem StrsAt.but {w w' : World} {B q g n : Nat} {f : Nat → ByteArray} (h : StrsAt w g n f) (hb : BelowBut B q w w') (hB : g < B) (hne : g ≠ q) : StrsAt w' g n f := fun i hi =>
  ⟨(hb.cell hB hne).trans (h i hi).1, (hb.frozen hB hne).trans (h i hi).2⟩
theorem StrsAt.set {w : World} {g n k : Nat} {f : Nat → ByteArray} (h : StrsAt w g n f) (hk : k < n) (x : ByteArray) : StrsAt (w.setCell ⟨g, k, none⟩ (.string x)) g n (fun i => if i = k then x else f i) := fun i hi => by
  rw [cell_set (by rw [(h k hk).1]; rfl), World.frozen?_setCell]
  refine ⟨?_, (h i hi).2⟩
  by_cases e : i = k
  · simp [e]
  · simp [e, (h i hi).1]
theorem infoStr : (Tryd.prog.info? 9).map (fun i => (i.zero, i.size, i.bytes)) = some (some (.string ⟨#[]⟩), 1, 16) := by kernel_rfl
theorem make_strs (n : Nat) (hn : n ≤ 2 ^ 30) (W : World) : (Instr.makeSlice 39 (.int .i64 (n : Int)) (.int .i64 (n : Int))).run Tryd.prog W = .ok (.slice (some ⟨W.heap.size, 0, none⟩) n n) (W.alloc (.cells (madeCells #[.string ⟨#[]⟩] n) 9)) := by
  obtain ⟨i0, hi, hz0, hz1, hz2⟩ := info_parts infoStr
  have h := run_make (P := Tryd.prog) W 39 9 i0 _ Tryd.underlying39 hi hz0 .i64 .i64 n n (by omega) (by omega) (by rw [hz2]; omega) (by omega)
  rw [hz1] at h
  simpa [Value.cells] using h
theorem strs_made (n : Nat) (W : World) (T : TypeId) : StrsAt (W.alloc (.cells (madeCells #[.string ⟨#[]⟩] n) T)) W.heap.size n (fun _ => ⟨#[]⟩) := fun i hi =>
  ⟨by rw [World.cell?_alloc_new, made_one _ _ _ hi], World.frozen?_alloc_new _ _ _ _⟩
theorem StrsAt.below {w w' : World} {B g n : Nat} {f : Nat → ByteArray} (h : StrsAt w g n f) (hb : Below B w w') (hB : g < B) : StrsAt w' g n f := fun i hi =>
  ⟨(hb.cell hB).trans (h i hi).1, (hb.frozen hB).trans (h i hi).2⟩
theorem StrsAt.congr {w : World} {g n : Nat} {f f' : Nat → ByteArray} (h : StrsAt w g n f) (e : ∀ i, i < n → f i = f' i) : StrsAt w g n f' := fun i hi => by
  rw [← e i hi]
  exact h i hi

end Go.Proofs.YthgjelbhhdomdaaDoor
namespace Go.Proofs.YthgjelbhhdomdaaDoor
open Go.RowKit
set_option linter.unusedVariables false

/-- The slice value v is n texts f, at the head of block g, which may be written. -/
def OwnS (w : World) (g : Nat) (v : Value) (n : Nat) (f : Nat → ByteArray) : Prop :=
  ∃ a c, v = .slice a n c ∧ n ≤ 2 ^ 30 ∧ (n = 0 ∨ (a = some ⟨g, 0, none⟩ ∧ g < w.heap.size ∧ StrsAt w g n f))

theorem OwnS.below {w w' : World} {g : Nat} {v : Value} {n : Nat} {f : Nat → ByteArray} (h : OwnS w g v n f) (hb : Below w.heap.size w w') : OwnS w' g v n f := by
  obtain ⟨a, c, rfl, hn, h0 | ⟨rfl, hlt, hat⟩⟩ := h
  · exact ⟨a, c, rfl, hn, .inl h0⟩
  · exact ⟨_, c, rfl, hn, .inr ⟨rfl, Nat.lt_of_lt_of_le hlt hb.size, hat.below hb hlt⟩⟩
theorem OwnS.but {w w' : World} {b g : Nat} {v : Value} {n : Nat} {f : Nat → ByteArray} (h : OwnS w g v n f) (hb : BelowBut w.heap.size b w w') (hne : g ≠ b) : OwnS w' g v n f := by
  obtain ⟨a, c, rfl, hn, h0 | ⟨rfl, hlt, hat⟩⟩ := h
  · exact ⟨a, c, rfl, hn, .inl h0⟩
  · exact ⟨_, c, rfl, hn, .inr ⟨rfl, Nat.lt_of_lt_of_le hlt hb.size, hat.but hb hlt hne⟩⟩
theorem OwnS.congr {w : World} {g : Nat} {v : Value} {n : Nat} {f f' : Nat → ByteArray} (h : OwnS w g v n f) (e : ∀ i, i < n → f i = f' i) : OwnS w g v n f' := by
  obtain ⟨a, c, rfl, hn, h0 | ⟨rfl, hlt, hat⟩⟩ := h
  · exact ⟨a, c, rfl, hn, .inl h0⟩
  · exact ⟨_, c, rfl, hn, .inr ⟨rfl, hlt, hat.congr e⟩⟩

/-- The slice value that came in: n texts f. -/
def ArgS (w : World) (a : Option Addr) (n : Nat) (f : Nat → ByteArray) : Prop := n = 0 ∨ ∃ b off, a = some ⟨b, off, none⟩ ∧ b < w.heap.size ∧ ∀ i, i < n → w.cell? ⟨b, off + i, none⟩ = some (.string (f i))
theorem ArgS.below {w w' : World} {a : Option Addr} {n : Nat} {f : Nat → ByteArray} (h : ArgS w a n f) (hb : Below w.heap.size w w') : ArgS w' a n f := by
  rcases h with h | ⟨b, off, rfl, hlt, hat⟩
  · exact .inl h
  · exact .inr ⟨b, off, rfl, Nat.lt_of_lt_of_le hlt hb.size, fun i hi => (hb.cell hlt).trans (hat i hi)⟩
theorem OwnS.arg {w : World} {g : Nat} {a : Option Addr} {n c : Nat} {f : Nat → ByteArray} (h : OwnS w g (.slice a n c) n f) : ArgS w a n f := by
  obtain ⟨a', c', e, hn, h0 | ⟨rfl, hlt, hat⟩⟩ := h
  · exact .inl h0
  · obtain ⟨rfl, _⟩ : a = some ⟨g, 0, none⟩ ∧ c = c' := by simpa using e
    exact .inr ⟨g, 0, rfl, hlt, fun i hi => by rw [Nat.zero_add]; exact (hat i hi).1⟩

set_option maxHeartbeats 400000 in
theorem eqStringS_some (g1 c1 g2 c2 n : Nat) (f : Nat → ByteArray) (w : World) (hn : n ≤ 2 ^ 40) (hb1 : g1 < w.heap.size) (hb2 : g2 < w.heap.size) (h1 : StrsAt w g1 n f) (h2 : StrsAt w g2 n f) :
    Calls Tryd.prog 23 #[.slice (some ⟨g1, 0, none⟩) n c1, .slice (some ⟨g2, 0, none⟩) n c2] w fun e w' => e = .returned (.bool true) ∧ Below w.heap.size w w' := by
  have H1 : Hid (StrsAt w g1 n f) := h1
  have H2 : Hid (StrsAt w g2 n f) := h2
  clear h1 h2
  go_enter Tryd.func23, Tryd.ntmps23
  go_wp2_with fail
  go_loopw [5] (fun i wr => ∃ k : Nat, k ≤ n ∧ i = .int .i64 k ∧ Below w.heap.size w wr) (fun i _ => n - (intOf i).toNat)
  case atStart => exact ⟨0, Nat.zero_le _, rfl, Below.refl _ _⟩
  case round =>
    obtain ⟨k, hk, rfl, hnx⟩ := hrel
    by_cases hlt : k < n
    · have a0 := ((H1.out.below hnx hb1) k hlt).1
      have d0 := ((H2.out.below hnx hb2) k hlt).1
      have i0 : (0 : Int) ≤ (k : Int) := by omega
      have i1 : (k : Int) < (n : Int) := by omega
      go_wp2_with fail
      go_region_held3 (fun w' => w'.cell? ⟨g1, k, none⟩ = some (.string (f k)) ∧ w'.cell? ⟨g2, k, none⟩ = some (.string (f k))) (exact ⟨a0, d0⟩) (fail)
      go_wp2
      go_roundw
      case rel => exact ⟨k + 1, by omega, by go_num, hnx.drew⟩
      case measure => simp [intOf]; omega
    · go_wp2
      go_ret
      exact ⟨rfl, hnx⟩

set_option maxHeartbeats 400000 in
theorem eqStringS_none (a1 a2 : Option Addr) (c1 c2 : Nat) (w : World) :
    Calls Tryd.prog 23 #[.slice a1 0 c1, .slice a2 0 c2] w fun e w' => e = .returned (.bool true) ∧ Below w.heap.size w w' := by
  go_enter Tryd.func23, Tryd.ntmps23
  go_wp2
  go_rounds 1
  go_ret
  exact ⟨rfl, by go_grown⟩

theorem eqStringS_any (v1 v2 : Value) (g1 g2 n : Nat) (f : Nat → ByteArray) (w : World) (h1 : OwnS w g1 v1 n f) (h2 : OwnS w g2 v2 n f) :
    Calls Tryd.prog 23 #[v1, v2] w fun e w' => e = .returned (.bool true) ∧ Below w.heap.size w w' := by
  obtain ⟨a1, c1, rfl, hn, h1⟩ := h1
  obtain ⟨a2, c2, rfl, _, h2⟩ := h2
  rcases h1 with rfl | ⟨rfl, q1, h1⟩
  · exact eqStringS_none a1 a2 c1 c2 w
  · rcases h2 with rfl | ⟨rfl, q2, h2⟩
    · exact eqStringS_none _ a2 c1 c2 w
    · exact eqStringS_some g1 c1 g2 c2 n f w (by omega) q1 q2 h1 h2

end Go.Proofs.YthgjelbhhdomdaaDoor
