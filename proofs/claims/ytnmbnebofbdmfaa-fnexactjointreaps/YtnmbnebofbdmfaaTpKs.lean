/- FnExactGetKey answers true at every treap and key: GetKey answers as the specification and writes into nothing. -/
import Derived.Test.YtnmbnebofbdmfaaTpK
namespace Go.Proofs.Ytnmbnebofbdmfaa
open Go.RowKit
set_option linter.unusedVariables false

/-- A tree's limbs lie in the row from i on. -/
def Emb (N : Nat → Lb) (n : Nat) (t : Bt) (i : Nat) : Prop := (∀ j x, (t.limbs i)[j]? = some x → N (i + j) = x) ∧ i + t.sz ≤ n
theorem Emb.node {N : Nat → Lb} {n b i : Nat} {k v : ByteArray} {l r : Bt} (h : Emb N n (.node b k v l r) i) : N i = ⟨k, v, l.top (i + 1), r.top (i + 1 + l.sz)⟩ ∧ Emb N n l (i + 1) ∧ Emb N n r (i + 1 + l.sz) ∧ i < n := by
  obtain ⟨hN, hs⟩ := h
  rw [Bt.sz] at hs
  refine ⟨?_, ⟨fun j x hx => ?_, by omega⟩, ⟨fun j x hx => ?_, by omega⟩, by omega⟩
  · have := hN 0 ⟨k, v, l.top (i + 1), r.top (i + 1 + l.sz)⟩ (by rw [Bt.limbs]; rfl)
    rwa [Nat.add_zero] at this
  · have := hN (1 + j) x (by
      rw [Bt.limbs, Nat.add_comm 1 j, List.getElem?_cons_succ, List.getElem?_append_left (List.getElem?_eq_some_iff.1 hx).1]
      exact hx)
    rwa [show i + (1 + j) = i + 1 + j by omega] at this
  · have := hN (1 + l.sz + j) x (by
      rw [Bt.limbs, show 1 + l.sz + j = (l.sz + j) + 1 by omega, List.getElem?_cons_succ, List.getElem?_append_right (by rw [Bt.limbs_len]; omega), Bt.limbs_len, Nat.add_sub_cancel_left]
      exact hx)
    rwa [show i + (1 + l.sz + j) = i + 1 + l.sz + j by omega] at this

end Go.Proofs.Ytnmbnebofbdmfaa
