/- Rows made by append, one of their cells written anew; rows of entries put behind each other. No condition. -/
import Derived.Test.YtikgcgfigcolmaaIxN
import Derived.Test.YtikgcgfigcolmaaAp3
namespace Go.Proofs.Ytikgcgfigcolmaa
open Go.RowKit
set_option linter.unusedVariables false

/-- One of a row's cells. -/
theorem OwnL.at {α : Type} {cs : α → List Value} {T : TypeId} {wd : Nat} {w : World} {B : Nat} {a : Option Addr} {n c : Nat} {l : List α} (hw : ∀ x, (cs x).length = wd) (h : OwnL cs T wd w B (.slice a n c) l) {i : Nat} {x : α} (hi : l[i]? = some x) :
    ∃ g, a = some ⟨g, 0, none⟩ ∧ g < w.heap.size ∧ ∀ j u, (cs x)[j]? = some u → w.cell? ⟨g, i * wd + j, none⟩ = some u ∧ w.frozen? ⟨g, i * wd + j, none⟩ = false := by
  have hcells := @World.ownsRow.cells _ _ _ _ _ _ _ h
  obtain ⟨h1, ⟨e2, e0⟩ | ⟨g, cap, cur, e, h3, h4, h5⟩⟩ := h
  · have hl : l = [] := List.eq_nil_of_length_eq_zero e0
    rw [hl] at hi
    simp at hi
  · have ea : a = some ⟨g, 0, none⟩ := by injection e
    subst ea
    refine ⟨g, rfl, (Array.getElem?_eq_some_iff.1 h4).1, fun j u hj => ?_⟩
    have hjn : j < wd := by rw [← hw x]; exact (List.getElem?_eq_some_iff.1 hj).1
    have := hcells (g := g) rfl (i * wd + j) u (by rw [flat_get hw l i j x hi hjn]; exact hj)
    rw [show ((⟨g, 0, none⟩ : Addr).add (i * wd + j)) = ⟨g, i * wd + j, none⟩ by unfold Addr.add; split <;> simp_all] at this
    exact ⟨this, by simp [World.frozen?, h4]⟩
theorem flat_set {α : Type} {cs : α → List Value} {n : Nat} (hn : ∀ x, (cs x).length = n) : ∀ (l : List α) (i j : Nat) (x y : α) (v : Value), l[i]? = some x → j < n → cs y = (cs x).set j v → (l.set i y).flatMap cs = (l.flatMap cs).set (i * n + j) v
  | [], i, j, x, y, v, h, _, _ => by simp at h
  | z :: t, 0, j, x, y, v, h, hj, hy => by
    obtain rfl : z = x := by simpa using h
    rw [List.set_cons_zero, List.flatMap_cons, List.flatMap_cons, hy, Nat.zero_mul, Nat.zero_add, List.set_append_left _ _ (by rw [hn]; exact hj)]
  | z :: t, i + 1, j, x, y, v, h, hj, hy => by
    have h' : t[i]? = some x := by simpa using h
    rw [List.set_cons_succ, List.flatMap_cons, List.flatMap_cons, flat_set hn t i j x y v h' hj hy, List.set_append_right _ _ (by rw [hn, Nat.add_mul]; omega), hn, show (i + 1) * n + j - n = i * n + j by rw [Nat.add_mul]; omega]
/-- One of its cells written anew. -/
theorem OwnL.put {α : Type} {cs : α → List Value} {T : TypeId} {wd : Nat} {w : World} {B : Nat} {g n c : Nat} {l : List α} (hw : ∀ x, (cs x).length = wd) (h : OwnL cs T wd w B (.slice (some ⟨g, 0, none⟩) n c) l) {i j : Nat} {x y : α} {v : Value} (hi : l[i]? = some x) (hj : j < wd) (hy : cs y = (cs x).set j v) :
    OwnL cs T wd (w.setCell ⟨g, i * wd + j, none⟩ v) B (.slice (some ⟨g, 0, none⟩) n c) (l.set i y) := by
  obtain ⟨h1, ⟨e2, e0⟩ | ⟨g', cap, cur, e, h3, h4, h5, h6, h7, h8⟩⟩ := h
  · cases e2
  · obtain ⟨rfl, rfl, rfl⟩ : g = g' ∧ n = l.length ∧ c = cap := by
      injection e with e1 e2 e3
      injection e1 with e1
      injection e1 with e1
      exact ⟨e1, e2, e3⟩
    unfold OwnL
    refine ⟨by rw [flat_set hw l i j x y v hi hj hy, List.length_set, List.length_set]; exact h1, .inr ⟨g, c, cur.setIfInBounds (i * wd + j) v, by rw [List.length_set], h3, heap_setCell_same w g _ cur T v h4, by rw [List.length_set]; exact h5, h6, by rw [Array.size_setIfInBounds]; exact h7, ?_⟩⟩
    rw [flat_set hw l i j x y v hi hj hy, ← h8, List.length_set, Array.toList_setIfInBounds, List.take_set]
/-- A row of entries' cells, as data. -/
def kEn : Kd (ByteArray × Value) where
  wd := 2
  is _ _ _ vs d := vs = enC d
  sz _ := 0
  cnt _ := 0
  mrk d _ := d
  len h := by rw [h]; rfl
  keep h _ _ := h
  read h := h
  tight h _ := h
theorem own_en {w : World} {B : Nat} {a : Option Addr} {n c : Nat} {l : List (ByteArray × Value)} (h : OwnL enC 85 2 w B (.slice a n c) l) (hl : l.length ≤ 2 ^ 30) : (kRow kEn).is false w (fun k => B ≤ k) [.slice a n c] l :=
  Kd.read _ (own_kRow (K := kEn) (fun _ => rfl) h (by unfold maxLen; omega) (fun x hx W S => rfl))
/-- append(v, row...) of entries. -/
theorem app_ens {w : World} {ops : Array Oper} {rest : List Oper} {o : Oper} {a : Act} {Q : Exit → Act → World → Prop} (hgd : o.guard = none) (s x : Operand)
    (ho : o.op = .call { callee := .builtin .append, args := #[s, x], argTypes := #[25, 25] })
    (B : Nat) (v : Value) (l : List (ByteArray × Value)) (hs : a.eval s = v) (hown : OwnL enC 85 2 w B v l) (ra : Option Addr) (n c : Nat) (S : Nat → Prop) (l' : List (ByteArray × Value)) (hx : a.eval x = .slice ra n c) (hr : (kRow kEn).is false w S [.slice ra n c] l')
    (h1 : ∀ y ∈ l', y.2.oneCell' = true)
    (hL : l.length + l'.length ≤ 2 ^ 30) (hbase : B ≤ w.heap.size)
    (h : ∀ v' w', OwnL enC 85 2 w' B v' (l ++ l') → Below B w w' → GrewO w w' v v' → wpList Try.prog ops Q rest (a.put o.dst v') w') : wpList Try.prog ops Q (o :: rest) a w := by
  obtain ⟨i0, hi, hz0, hz1, hz2⟩ := info_parts infoEnA
  have hn := row_len hr
  cases ra with
  | none =>
    have hl' := row_none hr
    subst hl'
    have hn0 : n = 0 := hn
    subst hn0
    refine wpList_plain hgd fun K' hK => ?_
    unfold Oper.wp execOp
    simp only [ho, resolve, invoke, builtin, Sem.run_bind, Sem.run_pure, Result.andThen_ok, List.map_toArray, List.map_cons, List.map_nil, hs, hx, app_zero B 25 o.type 85 i0 2 Try.underlying25 hi v l.length (l.flatMap enC) hown none c]
    refine hK _ _ ?_
    refine h v w ?_ (Below.refl _ _) (GrewO.refl _ _)
    rw [List.append_nil]
    exact hown
  | some ad =>
    have hbm : (l.length + n) * 40 ≤ 140737488355328 := by omega
    refine wpList_append_own_at w hgd s x 25 ho B 85 i0 _ 2 40 Try.underlying25 hi hz0 hz1 hz2 rfl (by decide) v l.length (l.flatMap enC) hs hown ad n c (l'.flatMap enC) hx (by rw [flat_len (cs := enC) (n := 2) (fun _ => rfl), hn]) (row_cells (K := kEn) (fun _ => rfl) (by decide) (fun h => h) hr) (fun u hu => ?_) (by unfold maxLen; omega) hbm hbase fun v' w' h2 h3 _ h5 => h v' w' ?_ ?_ (Grew.o ⟨h3.size, ⟨h3.os, h3.tape, h3.output, h3.size, fun k hk hn => h3.block k hk (fun e => hn e.symm)⟩, h5⟩)
    · obtain ⟨y, hy, hu'⟩ := List.mem_flatMap.1 hu
      simp [enC] at hu'
      rcases hu' with rfl | rfl
      · rfl
      · exact h1 y hy
    · unfold OwnL
      rw [List.length_append, List.flatMap_append, ← hn]
      exact h2
    · exact ⟨h3.os, h3.tape, h3.output, h3.size, fun k hk => h3.block k (by omega) (fun e => by have := (World.ownsRow.lt hown k e.symm).1; omega)⟩
/-- Its values are slices. -/
theorem PL.one {w : World} {S : Nat → Prop} {L : List (ByteArray × Value)} {es : List DEntry} (h : PL w S L es) : ∀ y ∈ L, y.2.oneCell' = true := fun y hy => by
  obtain ⟨i, hi⟩ := List.getElem?_of_mem hy
  obtain ⟨a, c, e, _⟩ := (h.own y.1).form
  rw [getD_at h.riseL (x := y.1) (v := y.2) hi] at e
  rw [e]
  rfl
/-- A list of one, laid anew. -/
theorem own_newP (W : World) (t m : Int) : OwnL poC 43 2 (W.alloc (.cells #[.int .i64 t, .int .i64 m] 43)) 0 (.slice (some ⟨W.heap.size, 0, none⟩) 1 1) [(t, m)] :=
  ⟨rfl, .inr ⟨W.heap.size, 1, _, rfl, Nat.zero_le _, World.alloc_heap_new W _, Nat.le_refl _, by unfold maxLen; omega, rfl, rfl⟩⟩
theorem setK_self {β : Type} {x : ByteArray} {v : β} {l : List (ByteArray × β)} (h : RiseK l) (hx : getK x l = some v) : setK x v l = l := by
  refine rise_ext (setK_rise h) h fun y => ?_
  rw [getK_setK h]
  by_cases e : y = x
  · rw [if_pos e, e, hx]
  · rw [if_neg e]
theorem set_split {β : Type} {l : List (ByteArray × β)} (h : RiseK l) {k : Nat} {x : ByteArray} {u v : β} (hk : l[k]? = some (x, u)) : setK x v l = l.set k (x, v) := by
  have hlt : k < l.length := (List.getElem?_eq_some_iff.1 hk).1
  have e : l = l.take k ++ (x, u) :: l.drop (k + 1) := by
    have h1 := List.take_append_drop k l
    rw [List.drop_eq_getElem_cons hlt, (List.getElem?_eq_some_iff.1 hk).2] at h1
    exact h1.symm
  have h2 : RiseK (l.take k ++ (x, u) :: l.drop (k + 1)) := by rw [← e]; exact h
  have h3 := setK_over (v := v) h2
  rw [← e] at h3
  rw [h3, List.set_eq_take_append_cons_drop, if_pos hlt]
/-- A word that is new stands between those that are less and those that are not. -/
theorem set_new {β : Type} {l : List (ByteArray × β)} (h : RiseK l) {k : Nat} {x : ByteArray} {v : β} (h1 : ∀ i p, i < k → l[i]? = some p → lessB p.1 x = true) (h2 : ∀ p, l[k]? = some p → lessB p.1 x = false ∧ p.1 ≠ x) : setK x v l = l.take k ++ (x, v) :: l.drop k := by
  have hs : RiseK (l.take k ++ l.drop k) := by rw [List.take_append_drop]; exact h
  have := setK_split (v := v) hs (x := x) (fun q hq => ?_) (fun q hq => ?_)
  · rw [List.take_append_drop] at this
    exact this
  · obtain ⟨i, hi⟩ := List.getElem?_of_mem hq
    rw [List.getElem?_take] at hi
    split at hi
    · next hik => exact h1 i q hik hi
    · cases hi
  · obtain ⟨i, hi⟩ := List.getElem?_of_mem hq
    rw [List.getElem?_drop] at hi
    have hkl : k < l.length := by have := (List.getElem?_eq_some_iff.1 hi).1; omega
    obtain ⟨e1, e2⟩ := h2 l[k] (List.getElem?_eq_getElem hkl)
    have hx : lessB x (l[k]).1 = true := by
      cases hc : lessB x (l[k]).1 with
      | true => rfl
      | false => exact absurd (lessB_total e1 hc) e2
    by_cases hi0 : i = 0
    · subst hi0
      rw [Nat.add_zero, List.getElem?_eq_getElem hkl] at hi
      injection hi with hi
      rw [← hi]
      exact hx
    · have hil : k + i < l.length := (List.getElem?_eq_some_iff.1 hi).1
      have := List.pairwise_iff_getElem.1 h k (k + i) hkl hil (by omega)
      rw [(List.getElem?_eq_some_iff.1 hi).2] at this
      exact lessB_trans hx this
theorem get_new {β : Type} {l : List (ByteArray × β)} (h : RiseK l) {k : Nat} {x : ByteArray} {z : β} (h1 : ∀ i p, i < k → l[i]? = some p → lessB p.1 x = true) (h2 : ∀ p, l[k]? = some p → lessB p.1 x = false ∧ p.1 ≠ x) : getD x z l = z := by
  unfold getD
  rw [getK_none.2 fun q hq e => ?_]
  · rfl
  obtain ⟨i, hi⟩ := List.getElem?_of_mem hq
  by_cases hik : i < k
  · exact lessB_ne (h1 i q hik hi) e
  · have hil : i < l.length := (List.getElem?_eq_some_iff.1 hi).1
    have hkl : k < l.length := by omega
    obtain ⟨e1, e2⟩ := h2 l[k] (List.getElem?_eq_getElem hkl)
    by_cases hi0 : i = k
    · subst hi0
      rw [List.getElem?_eq_getElem hkl] at hi
      injection hi with hi
      rw [hi] at e2
      exact e2 e
    · have := List.pairwise_iff_getElem.1 h k i hkl hil (by omega)
      rw [(List.getElem?_eq_some_iff.1 hi).2, e] at this
      rw [this] at e1
      cases e1
end Go.Proofs.Ytikgcgfigcolmaa
