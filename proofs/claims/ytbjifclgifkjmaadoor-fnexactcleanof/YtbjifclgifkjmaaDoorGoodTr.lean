/- A good value's tree. -/
import Derived.Test.YtbjifclgifkjmaaDoorGoodOwn
import Derived.Test.YtbjifclgifkjmaaDoorTreeM
import Derived.Test.YtbjifclgifkjmaaDoorTreeD0
namespace Go.Proofs.YtbjifclgifkjmaaDoor
open Go.RowKit
set_option linter.unusedVariables false

theorem good_pre {N : Nat → Nd} {n : Nat} (h : GoodV N n) : Pre N n := h.1.2.2.pre
theorem text_empty {t : ByteArray} (h : noText t = true) : t = ByteArray.empty := by
  have h0 : t.toList = [] := List.isEmpty_iff.1 h
  rw [ByteArray.toList_eq] at h0
  cases t with
  | mk a => cases a with
    | mk l => simp at h0; subst h0; rfl
theorem good_noNames {N : Nat → Nd} {n : Nat} (h : GoodV N n) : NoNames N n := fun p h0 hp hk => by
  rcases (h.1.2.2 p hp).2.1 with ⟨e, _⟩ | ⟨_, _, _, _, ⟨_, h⟩ | ⟨h, _⟩⟩
  · omega
  · exact text_empty h
  · exact absurd h hk
theorem good_zero {N : Nat → Nd} {n : Nat} (h : GoodV N n) : (N 0).name = ByteArray.empty := by
  rcases (h.1.2.2 0 h.1.1).2.1 with ⟨_, _, h⟩ | ⟨h, _⟩
  · exact text_empty h
  · omega
theorem good_flat {N : Nat → Nd} {n : Nat} (h : GoodV N n) : (tree N n 0).flat ByteArray.empty (-1) 0 = (List.range n).map N := flat_whole (good_pre h) (good_noNames h) h.1.1 (good_zero h)
theorem good_cnt {N : Nat → Nd} {n : Nat} (h : GoodV N n) : (tree N n 0).cnt = n := by
  have := congrArg List.length (good_flat h)
  rw [Tr.flat_length] at this
  simpa using this
end Go.Proofs.YtbjifclgifkjmaaDoor
