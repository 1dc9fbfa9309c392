/- Rows of nodes, cell by cell. No program. -/
import Derived.Test.YtbjifclgifkjmaaDoorTreeF0
import Derived.Test.YtbjifclgifkjmaaDoorTell
namespace Go.Proofs.YtbjifclgifkjmaaDoor
open Go.RowKit
set_option linter.unusedVariables false

theorem nd_cons (y : Nd) (l : List Nd) : ndCells (y :: l) = [.int .i64 y.kind, .int .i64 y.num, .string y.text, .string y.name, .int .i64 y.up] ++ ndCells l := by simp [ndCells]
theorem nd_append (l m : List Nd) : ndCells (l ++ m) = ndCells l ++ ndCells m := by simp [ndCells]
theorem nd_len (l : List Nd) : (ndCells l).length = l.length * 5 := by
  induction l with
  | nil => rfl
  | cons y l ih => rw [nd_cons, List.length_append, ih]; simp; omega
theorem nd_ones (l : List Nd) : ∀ u ∈ ndCells l, u.oneCell' = true := by
  induction l with
  | nil => intro u hu; simp [ndCells] at hu
  | cons y l ih =>
    intro u hu
    rw [nd_cons] at hu
    rcases List.mem_append.1 hu with h | h
    · simp at h
      rcases h with rfl | rfl | rfl | rfl | rfl <;> rfl
    · exact ih u h
theorem nd_get5 : ∀ (l : List Nd) (i : Nat) (hi : i < l.length), (ndCells l)[i * 5]? = some (.int .i64 l[i].kind) ∧ (ndCells l)[i * 5 + 1]? = some (.int .i64 l[i].num) ∧ (ndCells l)[i * 5 + 2]? = some (.string l[i].text) ∧ (ndCells l)[i * 5 + 3]? = some (.string l[i].name) ∧ (ndCells l)[i * 5 + 4]? = some (.int .i64 l[i].up) := by
  intro l
  induction l with
  | nil => intro i hi; simp at hi
  | cons y l ih =>
    intro i hi
    rw [nd_cons]
    cases i with
    | zero => simp
    | succ i =>
      have := ih i (by simpa using hi)
      have e : ∀ j, ([Value.int .i64 y.kind, .int .i64 y.num, .string y.text, .string y.name, .int .i64 y.up] ++ ndCells l)[(i + 1) * 5 + j]? = (ndCells l)[i * 5 + j]? := fun j => by
        rw [List.getElem?_append_right (by simp; omega)]
        congr 1
        simp
        omega
      exact ⟨(e 0).trans this.1, (e 1).trans this.2.1, (e 2).trans this.2.2.1, (e 3).trans this.2.2.2.1, (e 4).trans this.2.2.2.2⟩
theorem nd_set_up (u : Int) : ∀ (l : List Nd) (i : Nat) (hi : i < l.length), (ndCells l).set (i * 5 + 4) (.int .i64 u) = ndCells (l.set i { l[i] with up := u }) := by
  intro l
  induction l with
  | nil => intro i hi; simp at hi
  | cons y l ih =>
    intro i hi
    cases i with
    | zero => rw [nd_cons]; simp [ndCells]
    | succ i =>
      have := ih i (by simpa using hi)
      rw [nd_cons, List.set_cons_succ, nd_cons, List.set_append_right _ _ (by simp; omega)]
      congr 1
      refine Eq.trans ?_ this
      congr 1
      simp
      omega

/-- Nodes that lie in a row, as cells. -/
theorem nodes_cells {w : World} {b off n : Nat} {N : Nat → Nd} (h : NodesAt w b off n N) (s m : Nat) (hm : s + m ≤ n) : ∀ (j : Nat) (u : Value), (ndCells ((List.range m).map fun i => N (s + i)))[j]? = some u → w.cell? ⟨b, off + s * 5 + j, none⟩ = some u := by
  intro j u hu
  have hj := (List.getElem?_eq_some_iff.1 hu).1
  rw [nd_len, List.length_map, List.length_range] at hj
  obtain ⟨q, r, rfl, hr⟩ : ∃ q r, j = q * 5 + r ∧ r < 5 := ⟨j / 5, j % 5, by omega, by omega⟩
  have hq : q < m := by omega
  obtain ⟨g0, g1, g2, g3, g4⟩ := nd_get5 ((List.range m).map fun i => N (s + i)) q (by simpa using hq)
  simp only [List.getElem_map, List.getElem_range] at g0 g1 g2 g3 g4
  obtain ⟨c0, c1, c2, c3, c4⟩ := h (s + q) (by omega)
  have e : ∀ d, off + s * 5 + (q * 5 + d) = off + (s + q) * 5 + d := fun d => by omega
  rw [e]
  rcases (by omega : r = 0 ∨ r = 1 ∨ r = 2 ∨ r = 3 ∨ r = 4) with rfl | rfl | rfl | rfl | rfl
  · rw [Nat.add_zero] at hu ⊢; rw [g0] at hu; rw [c0]; exact hu
  · rw [g1] at hu; rw [c1]; exact hu
  · rw [g2] at hu; rw [c2]; exact hu
  · rw [g3] at hu; rw [c3]; exact hu
  · rw [g4] at hu; rw [c4]; exact hu

end Go.Proofs.YtbjifclgifkjmaaDoor
