/- What is sorted and then compacted: each once, in order; and a search by halving: the mathematics. No condition. -/
import Derived.Test.YtkboblfjchkedaaSxN
import Derived.Shelf.SlSortCmp.NoneTotal
import Derived.Lib.SlicesCompact
import Derived.Test.YtkboblfjchkedaaLib
namespace Go.Proofs.Ytkboblfjchkedaa
open Go.RowKit Go.Sort
set_option linter.unusedVariables false

section
variable {α : Type} [Inhabited α] {lt : α → α → Bool}
theorem bang_at {l : List α} {i : Nat} {x : α} (h : l[i]? = some x) : l.toArray[i]! = x := by
  obtain ⟨hi, e⟩ := List.getElem?_eq_some_iff.1 h
  rw [getElem!_pos l.toArray i (by simpa using hi)]
  simpa using e
theorem upTo_uni [DecidableEq α] (S : STO lt) {l : List α} (hs : l.Pairwise (fun a b => lt b a = false)) : ∀ m, m ≤ l.length → Ris lt (Lib.compactUpTo l.toArray m) ∧ ∀ x, x ∈ Lib.compactUpTo l.toArray m ↔ x ∈ l.take m
  | 0, _ => by simp [Lib.compactUpTo, Ris]
  | m + 1, hm => by
    obtain ⟨ih1, ih2⟩ := upTo_uni S hs m (by omega)
    obtain ⟨x, hx⟩ : ∃ x, l[m]? = some x := ⟨_, List.getElem?_eq_getElem (by omega)⟩
    have hb := bang_at hx
    have ht : l.take (m + 1) = l.take m ++ [x] := by rw [List.take_add_one, hx]; rfl
    rw [Lib.compactUpTo_succ, hb, ht]
    cases m with
    | zero => simp [Lib.compactUpTo, Lib.keeps, Ris]
    | succ p =>
      obtain ⟨y, hy⟩ : ∃ y, l[p]? = some y := ⟨_, List.getElem?_eq_getElem (by omega)⟩
      have hb2 := bang_at hy
      have hle : ∀ i j a b, i < j → l[i]? = some a → l[j]? = some b → lt b a = false := fun i j a b hij hi hj => by
        obtain ⟨h1, rfl⟩ := List.getElem?_eq_some_iff.1 hi
        obtain ⟨h2, rfl⟩ := List.getElem?_eq_some_iff.1 hj
        exact List.pairwise_iff_getElem.1 hs i j h1 h2 hij
      by_cases e : x = y
      · have hk : Lib.keeps l.toArray (p + 1) = false := Lib.keeps_neg (by omega) (by rw [hb, show p + 1 - 1 = p by omega, hb2, e])
        rw [if_neg (by rw [hk]; exact Bool.false_ne_true), List.append_nil]
        refine ⟨ih1, fun z => ?_⟩
        rw [ih2, List.mem_append, List.mem_singleton]
        constructor
        · exact .inl
        · rintro (h | rfl)
          · exact h
          · subst e
            refine List.mem_of_getElem? (i := p) ?_
            rw [List.getElem?_take_of_lt (by omega)]
            exact hy
      · have hk : Lib.keeps l.toArray (p + 1) = true := Lib.keeps_pos (by rw [hb, show p + 1 - 1 = p by omega, hb2]; exact e)
        rw [if_pos hk]
        have hyx : lt y x = true := by
          cases q : lt y x with
          | true => rfl
          | false => exact absurd (S.tot (hle p (p + 1) y x (by omega) hy hx) q) e
        refine ⟨List.pairwise_append.2 ⟨ih1, List.pairwise_singleton _ _, fun z hz v hv => ?_⟩, fun z => by rw [List.mem_append, List.mem_append, ih2]⟩
        rw [List.mem_singleton] at hv
        subst hv
        obtain ⟨i, hi⟩ := List.getElem?_of_mem ((ih2 z).1 hz)
        have hip : i < p + 1 := by
          have := (List.getElem?_eq_some_iff.1 hi).1
          rw [List.length_take] at this
          omega
        rw [List.getElem?_take_of_lt hip] at hi
        by_cases c : i = p
        · subst c
          rw [hy] at hi
          injection hi with hi
          rw [← hi]
          exact hyx
        · have h1 := hle i p z y (by omega) hi hy
          cases q : lt z y with
          | true => exact S.trans q hyx
          | false => rw [S.tot q h1]; exact hyx
theorem compact_uni [DecidableEq α] (S : STO lt) {l m : List α} (hs : l.Pairwise (fun a b => lt b a = false)) (hp : l.Perm m) : Lib.compact l = uni lt m := by
  have h := upTo_uni S hs l.length (Nat.le_refl _)
  rw [List.take_length] at h
  exact uni_is S h.1 fun x => (h.2 x).trans hp.mem_iff
omit [Inhabited α] in
theorem sto_swo (S : STO lt) {cf : α → α → Int} (h : ∀ x y, ltOf cf x y = lt x y) : SWO (ltOf cf) where
  irrefl x := by rw [h]; exact S.irr x
  trans x y z h1 h2 := by rw [h] at *; exact S.trans h1 h2
  ntrans x y z h1 h2 := by
    rw [h] at *
    cases q : lt x z with
    | false => rfl
    | true =>
      cases r : lt y x with
      | true => rw [S.trans r q] at h2; cases h2
      | false => have e := S.tot h1 r; subst e; rw [q] at h2; cases h2
omit [Inhabited α] in
theorem merge_le (S : STO lt) {cf : α → α → Int} (h : ∀ x y, ltOf cf x y = lt x y) (l : List α) : (l.mergeSort fun x y => !(ltOf cf) y x).Pairwise (fun a b => lt b a = false) := by
  have hO := sto_swo S h
  have hp : (l.mergeSort fun x y => !(ltOf cf) y x).Pairwise fun a b => (!(ltOf cf) b a) = true := by
    refine List.pairwise_mergeSort (fun a b c h1 h2 => ?_) (fun a b => ?_) l
    · simp only [Bool.not_eq_true'] at *
      exact hO.ntrans c b a h2 h1
    · cases q : ltOf cf b a with
      | false => rfl
      | true =>
        cases r : ltOf cf a b with
        | false => rfl
        | true => have := hO.trans _ _ _ q r; rw [hO.irrefl] at this; cases this
  exact hp.imp fun {a b} q => by rw [h] at q; simpa using q
theorem sort_uni [DecidableEq α] (S : STO lt) {cf : α → α → Int} (h : ∀ x y, ltOf cf x y = lt x y) (l : List α) : Lib.compact (l.mergeSort fun x y => !(ltOf cf) y x) = uni lt l :=
  compact_uni S (merge_le S h l) (List.mergeSort_perm l _)
end

section
variable {α : Type} {lt : α → α → Bool}
/-- How far a search has come. -/
def Nr (lt : α → α → Bool) (x : α) (u : List α) (lo hi : Nat) : Prop := (∀ i y, i < lo → u[i]? = some y → lt y x = true) ∧ ∀ i y, hi ≤ i → u[i]? = some y → lt y x = false
theorem Nr.start (lt : α → α → Bool) (x : α) (u : List α) : Nr lt x u 0 u.length := ⟨fun i y hi => by omega, fun i y hi hy => by have := (List.getElem?_eq_some_iff.1 hy).1; omega⟩
theorem Nr.up {x y : α} {u : List α} {lo hi m : Nat} (S : STO lt) (hu : Ris lt u) (h : Nr lt x u lo hi) (hm : u[m]? = some y) (hy : lt y x = true) : Nr lt x u (m + 1) hi := by
  refine ⟨fun i z hi hz => ?_, h.2⟩
  by_cases e : i = m
  · subst e; rw [hm] at hz; injection hz with e; rw [← e]; exact hy
  · exact S.trans (ris_at hu (by omega) hz hm) hy
theorem Nr.down {x y : α} {u : List α} {lo hi m : Nat} (S : STO lt) (hu : Ris lt u) (h : Nr lt x u lo hi) (hm : u[m]? = some y) (hy : lt y x = false) : Nr lt x u lo m := by
  refine ⟨h.1, fun i z hi hz => ?_⟩
  by_cases e : i = m
  · subst e; rw [hm] at hz; injection hz with e; rw [← e]; exact hy
  · cases q : lt z x with
    | false => rfl
    | true => rw [S.trans (ris_at hu (by omega) hm hz) q] at hy; cases hy
theorem Nr.found {x : α} {u : List α} {k : Nat} (S : STO lt) (hu : Ris lt u) (h : Nr lt x u k k) (hx : x ∈ u) : u[k]? = some x := by
  obtain ⟨j, hj⟩ := List.getElem?_of_mem hx
  have h1 : ¬ j < k := fun e => by have := h.1 j x e hj; rw [S.irr] at this; cases this
  have hl := (List.getElem?_eq_some_iff.1 hj).1
  obtain ⟨y, hy⟩ : ∃ y, u[k]? = some y := ⟨_, List.getElem?_eq_getElem (by omega)⟩
  by_cases e : j = k
  · rw [← e]; exact hj
  · have h2 := h.2 k y (Nat.le_refl _) hy
    rw [ris_at hu (show k < j by omega) hy hj] at h2
    cases h2
end
theorem cmpT_less (a b : List UInt8) : Lib.compareBytes a b = if bl a b = true then -1 else if bl b a = true then 1 else 0 := by
  induction a generalizing b with
  | nil => cases b <;> simp [Lib.compareBytes, Op.bytesLess, bl]
  | cons x a ih =>
    cases b with
    | nil => simp [Lib.compareBytes, Op.bytesLess, bl]
    | cons y b =>
      unfold Lib.compareBytes bl Op.bytesLess
      by_cases h1 : x < y
      · simp [h1]
      · by_cases h2 : y < x
        · simp [h1, h2]
          intro e
          subst e
          exact absurd h2 (UInt8.lt_irrefl _)
        · have e : x = y := by simp only [UInt8.lt_iff_toNat_lt] at h1 h2; exact UInt8.toNat.inj (by omega)
          subst e
          simp [ih, bl]
theorem cmpT_neg (a b : List UInt8) : Lib.compareBytes a b < 0 ↔ bl a b = true := by
  rw [cmpT_less]
  split
  · simp_all
  · split <;> simp_all
theorem cmpT_lt (a b : List UInt8) : ltOf Lib.compareBytes a b = bl a b := by
  unfold ltOf
  cases h : bl a b with
  | true => exact decide_eq_true ((cmpT_neg a b).2 h)
  | false => exact decide_eq_false (fun e => by rw [(cmpT_neg a b).1 e] at h; cases h)
end Go.Proofs.Ytkboblfjchkedaa
