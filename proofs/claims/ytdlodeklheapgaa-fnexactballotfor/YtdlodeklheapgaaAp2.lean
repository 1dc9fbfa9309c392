/- Rows that grow by append: what else they leave as it was. No condition. -/
import Derived.Test.YtdlodeklheapgaaAp
namespace Go.Proofs.Ytdlodeklheapgaa
open Go.RowKit
set_option linter.unusedVariables false

/-- Nothing but the row's own block is written, and it stays or is new. -/
structure GrewO (w w' : World) (v v' : Value) : Prop where
  kept : KeptO (fun k => v.ownBlock = some k) w w'
  moved : v'.ownBlock = v.ownBlock ∨ ∃ g, v'.ownBlock = some g ∧ w.heap.size ≤ g
theorem GrewO.refl (w : World) (v : Value) : GrewO w w v v := ⟨KeptO.refl _ _, .inl rfl⟩
theorem GrewO.trans {w w' w'' : World} {v v' v'' : Value} (h : GrewO w w' v v') (k : GrewO w' w'' v' v'') : GrewO w w'' v v'' := by
  have hz := h.kept.size
  refine ⟨⟨k.kept.os.trans h.kept.os, k.kept.tape.trans h.kept.tape, k.kept.output.trans h.kept.output, Nat.le_trans hz k.kept.size, fun i hi hn => ?_⟩, ?_⟩
  · rw [k.kept.block i (Nat.lt_of_lt_of_le hi hz) ?_]
    · exact h.kept.block i hi hn
    · intro e
      rcases h.moved with h1 | ⟨g, h1, h2⟩
      · exact hn (h1 ▸ e)
      · rw [h1] at e
        injection e with e
        omega
  · rcases k.moved with h1 | ⟨g, h1, h2⟩
    · rcases h.moved with h2 | ⟨g, h2, h3⟩
      · exact .inl (h1.trans h2)
      · exact .inr ⟨g, h1.trans h2, h3⟩
    · exact .inr ⟨g, h1, by omega⟩
theorem GrewO.below {w w' : World} (v : Value) (h : Below w.heap.size w w') : GrewO w w' v v := ⟨KeptO.of h, .inl rfl⟩
theorem Grew.o {w w' : World} {v v' : Value} (h : Grew w w' v v') : GrewO w w' v v' := ⟨h.kept, h.moved.imp id fun e => ⟨_, e, Nat.le_refl _⟩⟩
/-- A cell of another block. -/
theorem GrewO.cell {w w' : World} {v v' : Value} (h : GrewO w w' v v') {b o : Nat} {u : Value} (hc : w.cell? ⟨b, o, none⟩ = some u) (hn : v.ownBlock ≠ some b) : w'.cell? ⟨b, o, none⟩ = some u := cell_keptO h.kept hc hn
theorem OwnL.ne {α : Type} {cs : α → List Value} {T : TypeId} {wd : Nat} {w : World} {B : Nat} {v : Value} {l : List α} (h : OwnL cs T wd w B v l) {b : Nat} (hb : b < B ∨ w.heap.size ≤ b) : v.ownBlock ≠ some b := fun e => by
  have := World.ownsRow.lt h b e
  omega
theorem GrewO.datum {α : Type} {K : Kd α} {o : Bool} {w w' : World} {v v' : Value} {S : Nat → Prop} {vs : List Value} {d : α} (h : GrewO w w' v v') (hd : K.is o w S vs d) (hn : ∀ k, S k → v.ownBlock ≠ some k) : K.is o w' S vs d := Kd.kept hd h.kept (fun k _ hS => hn k hS)
end Go.Proofs.Ytdlodeklheapgaa
