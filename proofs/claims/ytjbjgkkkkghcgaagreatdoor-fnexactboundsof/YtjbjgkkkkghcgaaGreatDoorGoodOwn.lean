/- Whether a value of the call's own is good: the program and the specification. -/
import Derived.Test.YtjbjgkkkkghcgaaGreatDoorGoodI
namespace Go.Proofs.YtjbjgkkkkghcgaaGreatDoor
open Go.RowKit
set_option linter.unusedVariables false

theorem specGood_own (b n : Nat) (a : Option Addr) (c : Nat) (N : Nat → Nd) (w : World) (h : OwnAt w b (.slice a n c) n N) (hsm : SmallN n N) :
    Calls Tryz.prog 24 #[.agg #[.slice a n c]] w (BoolIs (GoodV N n) w) := by
  obtain ⟨a', c', off, e, hn, h0 | ⟨rfl, hb, hat, hf⟩⟩ := h
  · subst h0; exact specGood_none a c N w
  · injection e with e1 e2 e3
    subst e1
    exact specGood_some b off c n N w hb hat hsm
theorem implGood_own (b n : Nat) (a : Option Addr) (c : Nat) (N : Nat → Nd) (w : World) (h : OwnAt w b (.slice a n c) n N) (hsm : SmallN n N) (htab : Tab w.heap.size w) :
    Calls Tryz.prog 45 #[.agg #[.slice a n c]] w (BoolIs (GoodV N n) w) := by
  obtain ⟨a', c', off, e, hn, h0 | ⟨rfl, hb, hat, hf⟩⟩ := h
  · subst h0; exact implGood_none a c N w
  · injection e with e1 e2 e3
    subst e1
    by_cases h0 : n = 0
    · subst h0; exact implGood_none _ c N w
    · exact implGood_some b off c n N w hb hat hsm htab (by omega)

theorem bool_same {p : Prop} {a b : Bool} (h : a = true ↔ p) (k : b = true ↔ p) : a = b := by
  rw [Bool.eq_iff_iff]
  exact h.trans k.symm

theorem own_arg {w : World} {b : Nat} {a : Option Addr} {n c : Nat} {N : Nat → Nd} (h : OwnAt w b (.slice a n c) n N) : ArgIs w a n N := by
  obtain ⟨a', c', off, e, hn, h0 | ⟨rfl, hb, hat, hf⟩⟩ := h
  · exact .inl h0
  · injection e with e1 e2 e3
    subst e1
    exact .inr ⟨b, off, rfl, hb, hat⟩

theorem own_some {w : World} {b : Nat} {a : Option Addr} {n c : Nat} {N : Nat → Nd} (h : OwnAt w b (.slice a n c) n N) (hn : 0 < n) : ∃ b off, a = some ⟨b, off, none⟩ ∧ b < w.heap.size ∧ NodesAt w b off n N := by
  rcases own_arg h with h0 | h0
  · omega
  · exact h0

def HasN (N : Nat → Nd) (n : Nat) (z : Int) : Prop := 0 ≤ z ∧ z < n ∧ GoodV N n
end Go.Proofs.YtjbjgkkkkghcgaaGreatDoor
