/- A value of one's own, read as what came in. -/
import Derived.Test.YtjohocnfcnjciaaDoorSzL
import Derived.Test.YtjohocnfcnjciaaDoorToC
namespace Go.Proofs.YtjohocnfcnjciaaDoor
open Go.RowKit
set_option linter.unusedVariables false

theorem OwnAt.argOf {w : World} {b : Nat} {a : Option Addr} {n c n' : Nat} {N : Nat → Nd} (h : OwnAt w b (.slice a n' c) n N) : n' = n ∧ ArgIs w a n N := by
  obtain ⟨a', c', off, e, hn, h0⟩ := h
  injection e with e1 e2 e3
  subst e1 e2
  refine ⟨rfl, ?_⟩
  rcases h0 with h0 | ⟨rfl, hb, hat, hf⟩
  · exact .inl h0
  · exact .inr ⟨b, off, rfl, hb, hat⟩
theorem OwnAt.butN {w w' : World} {b g : Nat} {v : Value} {n : Nat} {f : Nat → Nd} (h : OwnAt w g v n f) (hb : BelowBut w.heap.size b w w') (hne : n ≠ 0 → g ≠ b) : OwnAt w' g v n f := by
  by_cases h0 : n = 0
  · obtain ⟨a, c, off, rfl, hn, _⟩ := h
    exact ⟨a, c, off, rfl, hn, .inl h0⟩
  · exact h.but hb (hne h0)

theorem ArgIs.slice {w : World} {a : Option Addr} {n c : Nat} {N : Nat → Nd} (h : ArgIs w a n N) (hn : n ≤ 2 ^ 40) : SliceIs w w.heap.size (.slice a n c) n N := by
  rcases h with h | ⟨b, off, rfl, hlt, hat⟩
  · exact ⟨a, c, rfl, hn, .inl h⟩
  · exact ⟨_, c, rfl, hn, .inr ⟨b, off, rfl, hlt, hat⟩⟩

end Go.Proofs.YtjohocnfcnjciaaDoor
