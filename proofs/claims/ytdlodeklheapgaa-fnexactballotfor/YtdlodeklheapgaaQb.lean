/- A statement that draws its order, whose parts read older memory alone and may lay blocks of their own: one walk. No condition. -/
import Derived.Test.YtdlodeklheapgaaBase0
import Derived.BigQuiet
import Derived.Deep.QuietTactic
namespace Go.Proofs.Ytdlodeklheapgaa
open Go.RowKit
set_option linter.unusedVariables false

/-- A world behind w, in which all that lay in w lies as it was. -/
structure BelowOf (w : World) where
  v : World
  h : Below w.heap.size w v

theorem belowOf_ne (w : World) : Nonempty (BelowOf w) := ⟨⟨w, Below.refl _ _⟩⟩

theorem region_below {P : Program} {id : Nat} {Q : Exit → Act → World → Prop} {a : Act} {w : World} {l : List Oper} (hm : P.follows .mixedOrders = true) (hB : Region.lexB .any l.toArray = true)
    (h : wpQuiet P l.toArray (fun w' => ∃ p : BelowOf w, w' = p.v) (fun a' => ∀ w', (∃ p : BelowOf w, w' = p.v) → Q .normal a' w') l a) : (Code.region id l.toArray true).wp P Q a w :=
  wp_region_quiet (C := fun w' => ∃ p : BelowOf w, w' = p.v) hm hB ⟨⟨_, (Below.refl _ w).drew⟩, rfl⟩ (by simpa using h)

theorem belowOf_all {w : World} {Q : World → Prop} (h : ∀ w', Below w.heap.size w w' → Q w') : ∀ w', (∃ p : BelowOf w, w' = p.v) → Q w' := fun w' ⟨p, hp⟩ => hp ▸ h p.v p.h
theorem BelowOf.cell {w : World} {a : Addr} {v : Value} (h : w.cell? a = some v) (p : BelowOf w) : p.v.cell? a = some v := (p.h.cell (World.block_lt_of_cell? _ _ h)).trans h
/-- A callee's contract, met in such a world. -/
theorem BelowOf.calls {P : Program} {f : FuncId} {args : Array Value} {w : World} {p : BelowOf w} {v : Value}
    (h : Calls P f args p.v fun e w' => e = .returned v ∧ Below p.v.heap.size p.v w') : Calls P f args p.v fun e w'' => e = .returned v ∧ ∃ q : BelowOf w, w'' = q.v :=
  h.mono fun _ w' ⟨he, hb⟩ => ⟨he, ⟨w', p.h.trans (hb.mono p.h.size)⟩, rfl⟩
end Go.Proofs.Ytdlodeklheapgaa
