/- Counting the nodes of a tree. -/
import Derived.Test.YtnmbnebofbdmfaaGreatDoorTrMem
import Derived.Test.YtnmbnebofbdmfaaGreatDoorDeepest
namespace Go.Proofs.YtnmbnebofbdmfaaGreatDoor
open Go.RowKit

theorem Tr.cnt_pos (t : Tr) : 0 < t.cnt := by cases t; rw [Tr.cnt]; omega
theorem Tr.cnt_mem {l : List Tr} {t : Tr} (h : t ∈ l) : t.cnt ≤ Tr.cnts l := by
  induction l with
  | nil => simp at h
  | cons a l ih =>
    rw [Tr.cnts]
    rcases List.mem_cons.1 h with rfl | h
    · omega
    · have := ih h; omega
theorem Tr.len_cnts (l : List Tr) : l.length ≤ Tr.cnts l := by
  induction l with
  | nil => simp
  | cons a l ih => rw [Tr.cnts, List.length_cons]; have := a.cnt_pos; omega
theorem Tr.deep_cnt (t : Tr) : t.deep ≤ t.cnt := by
  refine Tr.ind (P := fun t => t.deep ≤ t.cnt) (fun k n t nm ks ih => ?_) t
  rw [Tr.deep, Tr.cnt]
  have h1 : Tr.deeps ks ≤ Tr.cnts ks := by
    by_cases h : ks = []
    · subst h; simp [Tr.deeps]
    · obtain ⟨x, hx, e⟩ := Tr.deeps_some h
      rw [e]
      exact Nat.le_trans (ih x hx) (Tr.cnt_mem hx)
  have h2 : (if holdsB k = true then 1 else 0) ≤ 1 := by split <;> omega
  omega

theorem deeps_take {ks : List Tr} {m : Nat} {x : Tr} (h : ks[m]? = some x) : Tr.deeps (ks.take (m + 1)) = max (Tr.deeps (ks.take m)) x.deep := by
  rw [List.take_add_one, h]
  exact Tr.deeps_snoc _ _
theorem deeps_take_le (ks : List Tr) (m : Nat) : Tr.deeps (ks.take m) ≤ Tr.deeps ks := by
  by_cases h : ks.take m = []
  · rw [h]; simp [Tr.deeps]
  · obtain ⟨t, ht, e⟩ := Tr.deeps_some h
    rw [e]
    exact Tr.le_deeps (List.mem_of_mem_take ht)

end Go.Proofs.YtnmbnebofbdmfaaGreatDoor
