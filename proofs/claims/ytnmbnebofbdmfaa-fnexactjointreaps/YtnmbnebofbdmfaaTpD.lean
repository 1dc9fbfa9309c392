/- How deep a treap is: the program and the specification. -/
import Derived.Test.YtnmbnebofbdmfaaTpH
namespace Go.Proofs.Ytnmbnebofbdmfaa
open Go.RowKit
set_option linter.unusedVariables false

def Bt.dep : Bt → Nat
  | .nil => 0
  | .node _ _ _ l r => 1 + max l.dep r.dep
theorem Bt.dep_sz (t : Bt) : t.dep ≤ t.sz := by
  induction t with
  | nil => exact Nat.le_refl _
  | node b k v l r ihl ihr => simp [Bt.dep, Bt.sz]; omega
theorem Bt.dep_sh (t : Bt) : t.sh.dep = t.dep := by
  induction t with
  | nil => rfl
  | node b k v l r ihl ihr => simp [Bt.sh, Bt.dep, ihl, ihr]

/-- What DeepIn tells: of a good treap its depth. -/
def DpTold (L : List Lb) (d : Int) (q : Bool) : Prop := (GoodL L ∧ q = true ∧ ∃ T : Bt, T.ok ∧ T.limbs 0 = L ∧ d = (T.dep : Int)) ∨ (¬ GoodL L ∧ q = false ∧ d = 0)
theorem limbs_shape : ∀ (s t : Bt) (i : Nat), s.limbs i = t.limbs i → s.sh = t.sh
  | .nil, .nil, _, _ => rfl
  | .nil, .node .., _, h => by simp [Bt.limbs] at h
  | .node .., .nil, _, h => by simp [Bt.limbs] at h
  | .node b k v l r, .node b' k' v' l' r', i, h => by
    rw [Bt.limbs, Bt.limbs, List.cons.injEq] at h
    obtain ⟨h1, h2⟩ := h
    simp only [Lb.mk.injEq] at h1
    obtain ⟨rfl, rfl, hl, hr⟩ := h1
    have hlen : l.sz + r.sz = l'.sz + r'.sz := by
      have := congrArg List.length h2
      simpa [Bt.limbs_len] using this
    have hsz : l.sz = l'.sz := by
      cases r with
      | nil =>
        cases r' with
        | nil => simpa [Bt.sz] using hlen
        | node => simp [Bt.top] at hr; omega
      | node =>
        cases r' with
        | nil => simp [Bt.top] at hr; omega
        | node => simp [Bt.top] at hr; omega
    have e := List.append_inj h2 (by rw [Bt.limbs_len, Bt.limbs_len, hsz])
    have e2 := e.2
    rw [← hsz] at e2
    rw [Bt.sh, Bt.sh, limbs_shape l l' _ e.1, limbs_shape r r' _ e2]
theorem DpTold.same {L : List Lb} {d d' : Int} {q q' : Bool} (h : DpTold L d q) (k : DpTold L d' q') : d = d' ∧ q = q' := by
  rcases h with ⟨h1, h2, T, _, h3, h4⟩ | ⟨h1, h2, h3⟩
  · rcases k with ⟨k1, k2, S, _, k3, k4⟩ | ⟨k1, _⟩
    · have := limbs_shape T S 0 (h3.trans k3.symm)
      refine ⟨?_, by rw [h2, k2]⟩
      rw [h4, k4, ← Bt.dep_sh T, this, Bt.dep_sh]
    · exact absurd h1 k1
  · rcases k with ⟨k1, _⟩ | ⟨k1, k2, k3⟩
    · exact absurd k1 h1
    · exact ⟨by rw [h3, k3], by rw [h2, k2]⟩
end Go.Proofs.Ytnmbnebofbdmfaa
