/- Texts in memory of the call's own. No condition. -/
import Derived.Test.YtjbjgkkkkghcgaaGreatDoorBase0
namespace Go.Proofs.YtjbjgkkkkghcgaaGreatDoor
open Go.RowKit
set_option linter.unusedVariables false

theorem made_one (z : Value) (n j : Nat) (hj : j < n) : (madeCells #[z] n)[j]? = some z := by
  simp [madeCells, hj, Nat.mod_one]

def StrsAt (w : World) (g n : Nat) (f : Nat → ByteArray) : Prop := ∀ i, i < n → w.cell? ⟨g, i, none⟩ = some (.string (f i)) ∧ w.frozen? ⟨g, i, none⟩ = false
theorem StrsAt.but {w w' : World} {B q g n : Nat} {f : Nat → ByteArray} (h : StrsAt w g n f) (hb : BelowBut B q w w') (hB : g < B) (hne : g ≠ q) : StrsAt w' g n f := fun i hi =>
  ⟨(hb.cell hB hne).trans (h i hi).1, (hb.frozen hB hne).trans (h i hi).2⟩
theorem StrsAt.set {w : World} {g n k : Nat} {f : Nat → ByteArray} (h : StrsAt w g n f) (hk : k < n) (x : ByteArray) : StrsAt (w.setCell ⟨g, k, none⟩ (.string x)) g n (fun i => if i = k then x else f i) := fun i hi => by
  rw [cell_set (by rw [(h k hk).1]; rfl), World.frozen?_setCell]
  refine ⟨?_, (h i hi).2⟩
  by_cases e : i = k
  · simp [e]
  · simp [e, (h i hi).1]
theorem infoStr : (Tryz.prog.info? 9).map (fun i => (i.zero, i.size, i.bytes)) = some (some (.string ⟨#[]⟩), 1, 16) := by kernel_rfl
theorem make_strs (n : Nat) (hn : n ≤ 2 ^ 30) (W : World) : (Instr.makeSlice 35 (.int .i64 (n : Int)) (.int .i64 (n : Int))).run Tryz.prog W = .ok (.slice (some ⟨W.heap.size, 0, none⟩) n n) (W.alloc (.cells (madeCells #[.string ⟨#[]⟩] n) 9)) := by
  obtain ⟨i0, hi, hz0, hz1, hz2⟩ := info_parts infoStr
  have h := run_make (P := Tryz.prog) W 35 9 i0 _ Tryz.underlying35 hi hz0 .i64 .i64 n n (by omega) (by omega) (by rw [hz2]; omega) (by omega)
  rw [hz1] at h
  simpa [Value.cells] using h
theorem strs_made (n : Nat) (W : World) (T : TypeId) : StrsAt (W.alloc (.cells (madeCells #[.string ⟨#[]⟩] n) T)) W.heap.size n (fun _ => ⟨#[]⟩) := fun i hi =>
  ⟨by rw [World.cell?_alloc_new, made_one _ _ _ hi], World.frozen?_alloc_new _ _ _ _⟩
theorem StrsAt.below {w w' : World} {B g n : Nat} {f : Nat → ByteArray} (h : StrsAt w g n f) (hb : Below B w w') (hB : g < B) : StrsAt w' g n f := fun i hi =>
  ⟨(hb.cell hB).trans (h i hi).1, (hb.frozen hB).trans (h i hi).2⟩
theorem StrsAt.congr {w : World} {g n : Nat} {f f' : Nat → ByteArray} (h : StrsAt w g n f) (e : ∀ i, i < n → f i = f' i) : StrsAt w g n f' := fun i hi => by
  rw [← e i hi]
  exact h i hi

/-- The slice value v is n texts f, at the head of block g, which may be written. -/
def OwnS (w : World) (g : Nat) (v : Value) (n : Nat) (f : Nat → ByteArray) : Prop :=
  ∃ a c, v = .slice a n c ∧ n ≤ 2 ^ 30 ∧ (n = 0 ∨ (a = some ⟨g, 0, none⟩ ∧ g < w.heap.size ∧ StrsAt w g n f))

theorem OwnS.below {w w' : World} {g : Nat} {v : Value} {n : Nat} {f : Nat → ByteArray} (h : OwnS w g v n f) (hb : Below w.heap.size w w') : OwnS w' g v n f := by
  obtain ⟨a, c, rfl, hn, h0 | ⟨rfl, hlt, hat⟩⟩ := h
  · exact ⟨a, c, rfl, hn, .inl h0⟩
  · exact ⟨_, c, rfl, hn, .inr ⟨rfl, Nat.lt_of_lt_of_le hlt hb.size, hat.below hb hlt⟩⟩
theorem OwnS.but {w w' : World} {b g : Nat} {v : Value} {n : Nat} {f : Nat → ByteArray} (h : OwnS w g v n f) (hb : BelowBut w.heap.size b w w') (hne : g ≠ b) : OwnS w' g v n f := by
  obtain ⟨a, c, rfl, hn, h0 | ⟨rfl, hlt, hat⟩⟩ := h
  · exact ⟨a, c, rfl, hn, .inl h0⟩
  · exact ⟨_, c, rfl, hn, .inr ⟨rfl, Nat.lt_of_lt_of_le hlt hb.size, hat.but hb hlt hne⟩⟩
theorem OwnS.congr {w : World} {g : Nat} {v : Value} {n : Nat} {f f' : Nat → ByteArray} (h : OwnS w g v n f) (e : ∀ i, i < n → f i = f' i) : OwnS w g v n f' := by
  obtain ⟨a, c, rfl, hn, h0 | ⟨rfl, hlt, hat⟩⟩ := h
  · exact ⟨a, c, rfl, hn, .inl h0⟩
  · exact ⟨_, c, rfl, hn, .inr ⟨rfl, hlt, hat.congr e⟩⟩

/-- The slice value that came in: n texts f. -/
def ArgS (w : World) (a : Option Addr) (n : Nat) (f : Nat → ByteArray) : Prop := n = 0 ∨ ∃ b off, a = some ⟨b, off, none⟩ ∧ b < w.heap.size ∧ ∀ i, i < n → w.cell? ⟨b, off + i, none⟩ = some (.string (f i))
theorem ArgS.below {w w' : World} {a : Option Addr} {n : Nat} {f : Nat → ByteArray} (h : ArgS w a n f) (hb : Below w.heap.size w w') : ArgS w' a n f := by
  rcases h with h | ⟨b, off, rfl, hlt, hat⟩
  · exact .inl h
  · exact .inr ⟨b, off, rfl, Nat.lt_of_lt_of_le hlt hb.size, fun i hi => (hb.cell hlt).trans (hat i hi)⟩
theorem OwnS.arg {w : World} {g : Nat} {a : Option Addr} {n c : Nat} {f : Nat → ByteArray} (h : OwnS w g (.slice a n c) n f) : ArgS w a n f := by
  obtain ⟨a', c', e, hn, h0 | ⟨rfl, hlt, hat⟩⟩ := h
  · exact .inl h0
  · obtain ⟨rfl, _⟩ : a = some ⟨g, 0, none⟩ ∧ c = c' := by simpa using e
    exact .inr ⟨g, 0, rfl, hlt, fun i hi => by rw [Nat.zero_add]; exact (hat i hi).1⟩

end Go.Proofs.YtjbjgkkkkghcgaaGreatDoor
