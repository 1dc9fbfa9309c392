/- Nodes ahead, a part, and nodes behind, in one row: its mathematics. No program in this text. -/
import Derived.Test.YtbjifclgifkjmaaDoorPutM0
namespace Go.Proofs.YtbjifclgifkjmaaDoor
open Go.RowKit
set_option linter.unusedVariables false

/-- A node that is moved, where it stands below one that was. -/
def mvN (e : Nat) (d : Int) (x : Nd) : Nd := if (e : Int) ≤ x.up then { x with up := x.up + d } else x
def putL (N : Nat → Nd) (n p e : Nat) (P : List Nd) : List Nd := ((List.range p).map fun i => N (0 + i)) ++ P ++ ((List.range (n - e)).map fun i => N (e + i)).map (mvN e ((p : Int) + P.length - e))
theorem putL_len (N : Nat → Nd) (n p e : Nat) (P : List Nd) : (putL N n p e P).length = p + P.length + (n - e) := by simp [putL]; omega
/-- The row while nodes are moved: those from B on and ahead of j are. -/
def MvTo (L0 : List Nd) (B e : Nat) (d : Int) (j : Nat) (L : List Nd) : Prop := L.length = L0.length ∧ ∀ i x, L0[i]? = some x → L[i]? = some (if B ≤ i ∧ i < j then mvN e d x else x)
theorem MvTo.start (L0 : List Nd) (B e : Nat) (d : Int) : MvTo L0 B e d B L0 := ⟨rfl, fun i x hx => by rw [if_neg (by omega)]; exact hx⟩
theorem MvTo.at {L0 L : List Nd} {B e j : Nat} {d : Int} (h : MvTo L0 B e d j L) (hj : j < L.length) (hj0 : j < L0.length) : L[j] = L0[j] := by
  have := h.2 j L0[j] (List.getElem?_eq_getElem hj0)
  rw [if_neg (by omega), List.getElem?_eq_getElem hj] at this
  exact Option.some.inj this
theorem MvTo.move {L0 L : List Nd} {B e j : Nat} {d : Int} (h : MvTo L0 B e d j L) (hj : j < L.length) (hB : B ≤ j) (hu : (e : Int) ≤ L[j].up) : MvTo L0 B e d (j + 1) (L.set j { L[j] with up := L[j].up + d }) := by
  refine ⟨by rw [List.length_set]; exact h.1, fun i x hx => ?_⟩
  by_cases hi : i = j
  · subst hi
    have h2 := h.2 i x hx
    rw [if_neg (by omega), List.getElem?_eq_getElem hj] at h2
    have h3 := Option.some.inj h2
    rw [List.getElem?_set_self hj, if_pos ⟨hB, by omega⟩, ← h3]
    unfold mvN
    rw [if_pos hu]
  · rw [List.getElem?_set_ne (fun h => hi h.symm), h.2 i x hx]
    by_cases hc : B ≤ i ∧ i < j
    · rw [if_pos hc, if_pos ⟨hc.1, by omega⟩]
    · rw [if_neg hc, if_neg (by omega)]
theorem MvTo.stay {L0 L : List Nd} {B e j : Nat} {d : Int} (h : MvTo L0 B e d j L) (hj : j < L.length) (hu : ¬ (e : Int) ≤ L[j].up) : MvTo L0 B e d (j + 1) L := by
  refine ⟨h.1, fun i x hx => ?_⟩
  have h2 := h.2 i x hx
  by_cases hi : i = j
  · subst hi
    rw [if_neg (by omega)] at h2
    rw [List.getElem?_eq_getElem hj] at h2
    have h3 := Option.some.inj h2
    rw [List.getElem?_eq_getElem hj, h3]
    rw [h3] at hu
    unfold mvN
    rw [if_neg hu]
    simp
  · rw [h2]
    by_cases hc : B ≤ i ∧ i < j
    · rw [if_pos hc, if_pos ⟨hc.1, by omega⟩]
    · rw [if_neg hc, if_neg (by omega)]
theorem MvTo.done {L : List Nd} {N : Nat → Nd} {n p e : Nat} {P : List Nd} (h : MvTo (((List.range p).map fun i => N (0 + i)) ++ P ++ (List.range (n - e)).map fun i => N (e + i)) (p + P.length) e ((p : Int) + P.length - e) (p + P.length + (n - e)) L) : L = putL N n p e P := by
  apply List.ext_getElem?
  intro i
  have hl : L.length = p + P.length + (n - e) := by rw [h.1]; simp; omega
  by_cases hi : i < p + P.length + (n - e)
  · have hx := h.2 i _ (List.getElem?_eq_getElem (by simp; omega))
    rw [hx]
    unfold putL
    by_cases hB : p + P.length ≤ i
    · rw [if_pos ⟨hB, hi⟩, List.getElem?_append_right (by simpa using hB), List.getElem_append_right (by simpa using hB)]
      rw [List.getElem?_map, List.getElem?_eq_getElem (by simp; omega)]
      rfl
    · rw [if_neg (by omega), List.getElem?_append_left (by simp; omega), List.getElem_append_left (by simp; omega), List.getElem?_eq_getElem]
  · rw [List.getElem?_eq_none (by omega), List.getElem?_eq_none (by rw [putL_len]; omega)]

end Go.Proofs.YtbjifclgifkjmaaDoor
