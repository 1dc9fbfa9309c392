/- A key cut: the specification's l7At and CutKey. -/
import Derived.Test.YtnmbnebofbdmfaaTpX
namespace Go.Proofs.Ytnmbnebofbdmfaa
open Go.RowKit
set_option linter.unusedVariables false

/-- Where a key stands, or would. -/
def AtIs (l : List Pr) (key : ByteArray) (k : Nat) (h : Bool) : Prop := k ≤ l.length ∧ (∀ j p, j < k → l[j]? = some p → kLt p.1 key) ∧ (∀ p, l[k]? = some p → ¬ kLt p.1 key) ∧ (h = true ↔ ∃ p, l[k]? = some p ∧ p.1 = key)
theorem at_yes {l : List Pr} {key : ByteArray} {k : Nat} (hs : Srt l) (h : AtIs l key k true) : l.filter (fun p => decide (p.1 ≠ key)) = l.take k ++ l.drop (k + 1) ∧ k < l.length ∧ ¬ ∀ p ∈ l, p.1 ≠ key := by
  obtain ⟨⟨ky, v⟩, hp, he⟩ := h.2.2.2.1 rfl
  dsimp only at he
  subst he
  obtain ⟨hk, hpe⟩ := List.getElem?_eq_some_iff.1 hp
  have e : l = l.take k ++ (ky, v) :: l.drop (k + 1) := by rw [← hpe]; simp
  refine ⟨?_, hk, fun h => h _ (List.mem_of_getElem? hp) rfl⟩
  obtain ⟨A, hA⟩ : ∃ A, A = l.take k := ⟨_, rfl⟩
  obtain ⟨B, hB⟩ : ∃ B, B = l.drop (k + 1) := ⟨_, rfl⟩
  rw [← hA, ← hB] at e ⊢
  clear hA hB
  subst e
  obtain ⟨_, _, s3, s4⟩ := srt_node.1 hs
  rw [List.filter_append, List.filter_cons, if_neg (by simp), filter_all (l := A) (fun p hp => (s3 p hp).ne), filter_all (l := B) (fun p hp => (s4 p hp).ne.symm)]
theorem at_no {l : List Pr} {key : ByteArray} {k : Nat} (hs : Srt l) (h : AtIs l key k false) : ∀ p ∈ l, p.1 ≠ key := by
  obtain ⟨h1, h2, h3, h4⟩ := h
  have hno : ¬ ∃ p, l[k]? = some p ∧ p.1 = key := fun h => by have := h4.2 h; cases this
  intro p hp
  obtain ⟨j, hj, rfl⟩ := List.getElem_of_mem hp
  rcases Nat.lt_trichotomy j k with hlt | rfl | hgt
  · exact (h2 j _ hlt (List.getElem?_eq_getElem hj)).ne
  · exact fun e => hno ⟨_, List.getElem?_eq_getElem hj, e⟩
  · have hk : k < l.length := by omega
    have e1 := h3 _ (List.getElem?_eq_getElem hk)
    have e2 : l[k].1 ≠ key := fun e => hno ⟨_, List.getElem?_eq_getElem hk, e⟩
    have e3 : kLt key l[k].1 := by
      rcases kLt_tri key l[k].1 with h | h | h
      · exact h
      · exact absurd h.symm e2
      · exact absurd h e1
    exact (e3.trans (List.pairwise_iff_getElem.1 hs k j hk hj hgt)).ne.symm

end Go.Proofs.Ytnmbnebofbdmfaa
