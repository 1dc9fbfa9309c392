/- Whether a text is a path, and a value good, wherever it lies. -/
import Derived.Test.YtjohocnfcnjciaaDoorGoodOwn
import Derived.Test.YtjohocnfcnjciaaDoorPathO
namespace Go.Proofs.YtjohocnfcnjciaaDoor
open Go.RowKit
set_option linter.unusedVariables false

/-- The text is a path. -/
def PathIs (s : ByteArray) : Prop := (namesL s.data.toList).isSome = true

set_option maxHeartbeats 400000 in
theorem isPath_any (s : ByteArray) (w : World) (hml : ML w) :
    Calls Tryd.prog 14 #[.string s] w (BoolIs (PathIs s) w) := by
  have HM : Hid (ML w) := hml
  clear hml
  go_enter Tryd.func14, Tryd.ntmps14
  go_wp2_with fail
  refine (implPathOf_any s _ HM.out).mono ?_
  rintro e w1 ⟨v, g, rfl, _, _, hb⟩
  go_wp2
  go_ret
  exact BoolIs.of Iff.rfl hb

theorem implGood_arg (a : Option Addr) (c n : Nat) (N : Nat → Nd) (w : World) (h : ArgIs w a n N) (hsm : SmallN n N) (htab : Tab w.heap.size w) :
    Calls Tryd.prog 15 #[.agg #[.slice a n c]] w (BoolIs (GoodV N n) w) := by
  by_cases h0 : n = 0
  · subst h0; exact implGood_none a c N w
  rcases h with h | ⟨b, off, rfl, hb, hat⟩
  · exact absurd h h0
  · exact implGood_some b off c n N w hb hat hsm htab (by omega)
theorem specGood_arg (a : Option Addr) (c n : Nat) (N : Nat → Nd) (w : World) (h : ArgIs w a n N) (hsm : SmallN n N) :
    Calls Tryd.prog 11 #[.agg #[.slice a n c]] w (BoolIs (GoodV N n) w) := by
  by_cases h0 : n = 0
  · subst h0; exact specGood_none a c N w
  rcases h with h | ⟨b, off, rfl, hb, hat⟩
  · exact absurd h h0
  · exact specGood_some b off c n N w hb hat hsm
theorem empty_iff (p : ByteArray) : p.toList = [] ↔ p.size = 0 := by
  rw [ByteArray.toList_eq]
  show p.data.toList = [] ↔ p.data.size = 0
  rw [Array.toList_eq_nil_iff, Array.size_eq_zero_iff]

theorem good_pos {N : Nat → Nd} {n : Nat} (h : GoodV N n) : 0 < n := by have := h.1.1; omega

end Go.Proofs.YtjohocnfcnjciaaDoor
