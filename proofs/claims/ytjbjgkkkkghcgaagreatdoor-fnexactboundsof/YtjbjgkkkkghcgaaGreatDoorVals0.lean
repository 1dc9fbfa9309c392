/- What marking and holding do to a value of the call's own; numbers and texts as values. No condition. -/
import Derived.Test.YtjbjgkkkkghcgaaGreatDoorBase
namespace Go.Proofs.YtjbjgkkkkghcgaaGreatDoor
open Go.RowKit

/-- The slice value v is n nodes N, in block b, which may be written. -/
def OwnAt (w : World) (b : Nat) (v : Value) (n : Nat) (N : Nat → Nd) : Prop :=
  ∃ a c off, v = .slice a n c ∧ n ≤ 2 ^ 30 ∧ (n = 0 ∨ (a = some ⟨b, off, none⟩ ∧ b < w.heap.size ∧ NodesAt w b off n N ∧ FreeAt w b off n))

theorem OwnAt.slice {w : World} {b : Nat} {v : Value} {n : Nat} {N : Nat → Nd} (h : OwnAt w b v n N) : SliceIs w w.heap.size v n N := by
  obtain ⟨a, c, off, rfl, hn, h0 | ⟨rfl, hb, hat, _⟩⟩ := h
  · exact ⟨a, c, rfl, by omega, .inl h0⟩
  · exact ⟨_, c, rfl, by omega, .inr ⟨b, off, rfl, hb, hat⟩⟩

theorem OwnAt.form {w : World} {b : Nat} {v : Value} {n : Nat} {N : Nat → Nd} (h : OwnAt w b v n N) : ∃ a c, v = .slice a n c := by
  obtain ⟨a, c, _, rfl, _⟩ := h
  exact ⟨a, c, rfl⟩
theorem OwnAt.lt {w : World} {b : Nat} {v : Value} {n : Nat} {N : Nat → Nd} (h : OwnAt w b v n N) (hn : n ≠ 0) : b < w.heap.size := by
  obtain ⟨_, _, _, _, _, h0 | ⟨_, h, _⟩⟩ := h
  · exact absurd h0 hn
  · exact h

theorem FreeAt.below {w w' : World} {B b off n : Nat} (h : FreeAt w b off n) (hb : Below B w w') (hB : b < B) : FreeAt w' b off n := fun o ho => (hb.frozen hB).trans (h o ho)

theorem OwnAt.below {w w' : World} {b : Nat} {v : Value} {n : Nat} {N : Nat → Nd} (h : OwnAt w b v n N) (hb : Below w.heap.size w w') : OwnAt w' b v n N := by
  obtain ⟨a, c, off, rfl, hn, h0 | ⟨rfl, hlt, hat, hf⟩⟩ := h
  · exact ⟨a, c, off, rfl, hn, .inl h0⟩
  · exact ⟨_, c, off, rfl, hn, .inr ⟨rfl, Nat.lt_of_lt_of_le hlt hb.size, hat.below hb hlt, hf.below hb hlt⟩⟩

theorem NodesAt.but {w w' : World} {B g b off n : Nat} {N : Nat → Nd} (h : NodesAt w b off n N) (hb : BelowBut B g w w') (hB : b < B) (hne : b ≠ g) : NodesAt w' b off n N := fun i hi => by
  obtain ⟨h0, h1, h2, h3, h4⟩ := h i hi
  exact ⟨(hb.cell hB hne).trans h0, (hb.cell hB hne).trans h1, (hb.cell hB hne).trans h2, (hb.cell hB hne).trans h3, (hb.cell hB hne).trans h4⟩
theorem FreeAt.but {w w' : World} {B g b off n : Nat} (h : FreeAt w b off n) (hb : BelowBut B g w w') (hB : b < B) (hne : b ≠ g) : FreeAt w' b off n := fun o ho => (hb.frozen hB hne).trans (h o ho)
theorem OwnAt.but {w w' : World} {g b : Nat} {v : Value} {n : Nat} {N : Nat → Nd} (h : OwnAt w b v n N) (hb : BelowBut w.heap.size g w w') (hne : b ≠ g) : OwnAt w' b v n N := by
  obtain ⟨a, c, off, rfl, hn, h0 | ⟨rfl, hlt, hat, hf⟩⟩ := h
  · exact ⟨a, c, off, rfl, hn, .inl h0⟩
  · exact ⟨_, c, off, rfl, hn, .inr ⟨rfl, Nat.lt_of_lt_of_le hlt hb.size, hat.but hb hlt hne, hf.but hb hlt hne⟩⟩

theorem SliceIs.but {w w' : World} {B B' b : Nat} {v : Value} {n : Nat} {N : Nat → Nd} (h : SliceIs w B v n N) (hb : BelowBut B' b w w') (hB : B ≤ B') (hlt : B ≤ b) : SliceIs w' B v n N :=
  h.below (hb.below hB hlt) (Nat.le_refl _)

theorem own_new (w : World) (k n u : Int) (t m : ByteArray) (T : TypeId) (b : Nat) (hb : w.heap.size = b) : OwnAt (w.alloc (.cells #[.int .i64 k, .int .i64 n, .string t, .string m, .int .i64 u] T)) b (.slice (some ⟨b, 0, none⟩) 1 1) 1 (fun _ => ⟨k, n, t, m, u⟩) := by
  subst hb
  refine ⟨_, 1, 0, rfl, by omega, .inr ⟨rfl, by simp, fun i hi => ?_, fun o ho => ?_⟩⟩
  · obtain rfl : i = 0 := by omega
    simp [World.cell?_alloc_new]
  · exact World.frozen?_alloc_new _ _ _ _

end Go.Proofs.YtjbjgkkkkghcgaaGreatDoor
