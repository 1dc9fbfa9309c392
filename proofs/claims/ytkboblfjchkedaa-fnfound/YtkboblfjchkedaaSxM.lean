/- Texts in their order, lists that rise, and ranks: the mathematics. No condition. -/
import Derived.Test.YtkboblfjchkedaaBase0
namespace Go.Proofs.Ytkboblfjchkedaa
open Go.RowKit
set_option linter.unusedVariables false

/-- Less, of bytes. -/
abbrev bl (a b : List UInt8) : Bool := Op.bytesLess a b
theorem bl_nil (a : List UInt8) : bl a [] = false := by cases a <;> rfl
theorem bl_nil_cons (x : UInt8) (a : List UInt8) : bl [] (x :: a) = true := rfl
theorem bl_cons (x y : UInt8) (a b : List UInt8) : bl (x :: a) (y :: b) = (decide (x < y) || (x == y && bl a b)) := rfl
theorem bl_irr : ∀ a : List UInt8, bl a a = false
  | [] => rfl
  | x :: a => by rw [bl_cons, bl_irr a]; simp
theorem bl_cons_iff {x y : UInt8} {a b : List UInt8} : bl (x :: a) (y :: b) = true ↔ x < y ∨ (x = y ∧ bl a b = true) := by
  rw [bl_cons]; simp
theorem bl_trans : ∀ {a b c : List UInt8}, bl a b = true → bl b c = true → bl a c = true
  | a, b, [], _, h => by rw [bl_nil] at h; cases h
  | [], b, z :: c, _, _ => rfl
  | x :: a, [], z :: c, h, _ => by rw [bl_nil] at h; cases h
  | x :: a, y :: b, z :: c, h, k => by
    rw [bl_cons_iff] at h k ⊢
    rcases h with h | ⟨rfl, h⟩
    · rcases k with k | ⟨rfl, k⟩
      · left; simp only [UInt8.lt_iff_toNat_lt] at *; omega
      · exact .inl h
    · rcases k with k | ⟨rfl, k⟩
      · exact .inl k
      · exact .inr ⟨rfl, bl_trans h k⟩
theorem bl_total : ∀ {a b : List UInt8}, bl a b = false → bl b a = false → a = b
  | [], [], _, _ => rfl
  | [], y :: b, h, _ => by rw [bl_nil_cons] at h; cases h
  | x :: a, [], _, h => by rw [bl_nil_cons] at h; cases h
  | x :: a, y :: b, h, k => by
    have h' : ¬ bl (x :: a) (y :: b) = true := by rw [h]; exact Bool.false_ne_true
    have k' : ¬ bl (y :: b) (x :: a) = true := by rw [k]; exact Bool.false_ne_true
    rw [bl_cons_iff] at h' k'
    have e : x = y := by
      have h1 : ¬ x < y := fun e => h' (.inl e)
      have h2 : ¬ y < x := fun e => k' (.inl e)
      simp only [UInt8.lt_iff_toNat_lt] at h1 h2
      exact UInt8.toNat.inj (by omega)
    subst e
    have h2 : bl a b = false := by cases q : bl a b with | false => rfl | true => exact absurd (.inr ⟨rfl, q⟩) h'
    have h3 : bl b a = false := by cases q : bl b a with | false => rfl | true => exact absurd (.inr ⟨rfl, q⟩) k'
    rw [bl_total h2 h3]
theorem bl_asymm {a b : List UInt8} (h : bl a b = true) : bl b a = false := by
  cases k : bl b a with
  | false => rfl
  | true => have := bl_trans h k; rw [bl_irr] at this; cases this
/-- By fewer bytes, so by more. -/
theorem bl_take : ∀ (k : Nat) {a b : List UInt8}, bl (a.take k) (b.take k) = true → bl a b = true
  | 0, a, b, h => by rw [List.take_zero, List.take_zero] at h; cases h
  | k + 1, a, [], h => by rw [List.take_nil, bl_nil] at h; cases h
  | k + 1, [], y :: b, h => rfl
  | k + 1, x :: a, y :: b, h => by
    rw [List.take_succ_cons, List.take_succ_cons, bl_cons_iff] at h
    rw [bl_cons_iff]
    rcases h with h | ⟨rfl, h⟩
    · exact .inl h
    · exact .inr ⟨rfl, bl_take k h⟩
/-- First by so many bytes, then by those behind. -/
theorem bl_split : ∀ (k : Nat) (a b : List UInt8), (bl a b = true) ↔ (bl (a.take k) (b.take k) = true ∨ (a.take k = b.take k ∧ bl (a.drop k) (b.drop k) = true))
  | 0, a, b => by simp [bl, Op.bytesLess]
  | k + 1, a, [] => by rw [List.take_nil, List.drop_nil, bl_nil, bl_nil, bl_nil]; simp
  | k + 1, [], y :: b => by simp [bl, Op.bytesLess]
  | k + 1, x :: a, y :: b => by
    rw [List.take_succ_cons, List.take_succ_cons, bl_cons_iff, bl_cons_iff, List.drop_succ_cons, List.drop_succ_cons, bl_split k a b, List.cons.injEq]
    constructor
    · rintro (h | ⟨rfl, h | ⟨h1, h2⟩⟩)
      · exact .inl (.inl h)
      · exact .inl (.inr ⟨rfl, h⟩)
      · exact .inr ⟨⟨rfl, h1⟩, h2⟩
    · rintro ((h | ⟨rfl, h⟩) | ⟨⟨rfl, h1⟩, h2⟩)
      · exact .inl h
      · exact .inr ⟨rfl, .inl h⟩
      · exact .inr ⟨rfl, .inr ⟨h1, h2⟩⟩

section
variable {α : Type} {lt : α → α → Bool}
/-- A strict order that parts any two. -/
structure STO (lt : α → α → Bool) : Prop where
  irr : ∀ a, lt a a = false
  trans : ∀ {a b c}, lt a b = true → lt b c = true → lt a c = true
  tot : ∀ {a b}, lt a b = false → lt b a = false → a = b
/-- It rises. -/
def Ris (lt : α → α → Bool) (l : List α) : Prop := l.Pairwise (fun a b => lt a b = true)
theorem ris_unique (irr : ∀ a, lt a a = false) (trans : ∀ {a b c}, lt a b = true → lt b c = true → lt a c = true) : ∀ {l m : List α}, Ris lt l → Ris lt m → (∀ x, x ∈ l ↔ x ∈ m) → l = m
  | [], [], _, _, _ => rfl
  | [], y :: m, _, _, h => by have := (h y).2 (by simp); simp at this
  | x :: l, [], _, _, h => by have := (h x).1 (by simp); simp at this
  | x :: l, y :: m, hl, hm, h => by
    obtain ⟨l1, l2⟩ := List.pairwise_cons.1 hl
    obtain ⟨m1, m2⟩ := List.pairwise_cons.1 hm
    have no : ∀ {a b}, lt a b = true → lt b a = true → False := fun h k => by have := trans h k; rw [irr] at this; cases this
    have e : x = y := by
      rcases List.mem_cons.1 ((h x).1 (by simp)) with e | e
      · exact e
      · rcases List.mem_cons.1 ((h y).2 (by simp)) with e2 | e2
        · exact e2.symm
        · exact (no (m1 x e) (l1 y e2)).elim
    subst e
    rw [ris_unique irr trans l2 m2 fun z => ?_]
    have hz := h z
    constructor
    · intro k
      rcases List.mem_cons.1 (hz.1 (List.mem_cons_of_mem _ k)) with e | e
      · subst e; have := l1 z k; rw [irr] at this; cases this
      · exact e
    · intro k
      rcases List.mem_cons.1 (hz.2 (List.mem_cons_of_mem _ k)) with e | e
      · subst e; have := m1 z k; rw [irr] at this; cases this
      · exact e
theorem ris_at {l : List α} (h : Ris lt l) {i j : Nat} {a b : α} (hij : i < j) (hi : l[i]? = some a) (hj : l[j]? = some b) : lt a b = true := by
  obtain ⟨h1, rfl⟩ := List.getElem?_eq_some_iff.1 hi
  obtain ⟨h2, rfl⟩ := List.getElem?_eq_some_iff.1 hj
  exact List.pairwise_iff_getElem.1 h i j h1 h2 hij
theorem ris_lt (irr : ∀ a, lt a a = false) (trans : ∀ {a b c}, lt a b = true → lt b c = true → lt a c = true) {l : List α} (h : Ris lt l) {i j : Nat} {a b : α} (hi : l[i]? = some a) (hj : l[j]? = some b) : i < j ↔ lt a b = true := by
  refine ⟨fun q => ris_at h q hi hj, fun q => ?_⟩
  rcases Nat.lt_trichotomy i j with k | k | k
  · exact k
  · subst k; rw [hi] at hj; injection hj with e; subst e; rw [irr] at q; cases q
  · have := trans q (ris_at h k hj hi); rw [irr] at this; cases this
theorem ris_same (irr : ∀ a, lt a a = false) {l : List α} (h : Ris lt l) {i j : Nat} {a : α} (hi : l[i]? = some a) (hj : l[j]? = some a) : i = j := by
  rcases Nat.lt_trichotomy i j with k | k | k
  · have := ris_at h k hi hj; rw [irr] at this; cases this
  · exact k
  · have := ris_at h k hj hi; rw [irr] at this; cases this

/-- Put to its place, once. -/
def insU (lt : α → α → Bool) (x : α) : List α → List α
  | [] => [x]
  | y :: r => if lt x y = true then x :: y :: r else if lt y x = true then y :: insU lt x r else y :: r
def uni (lt : α → α → Bool) (l : List α) : List α := l.foldr (insU lt) []
theorem insU_mem (S : STO lt) {x z : α} : ∀ {l : List α}, z ∈ insU lt x l ↔ z = x ∨ z ∈ l
  | [] => by simp [insU]
  | y :: r => by
    unfold insU
    split
    · simp
    · split
      · simp only [List.mem_cons, insU_mem S (l := r)]
        constructor <;> (rintro (h | h | h) <;> simp [h])
      · next h1 h2 =>
        have e : x = y := S.tot (by simpa using h1) (by simpa using h2)
        subst e
        simp
theorem insU_ris (S : STO lt) {x : α} : ∀ {l : List α}, Ris lt l → Ris lt (insU lt x l)
  | [], _ => by simp [insU, Ris]
  | y :: r, h => by
    obtain ⟨h1, h2⟩ := List.pairwise_cons.1 h
    unfold insU
    split
    · next hl =>
      refine List.pairwise_cons.2 ⟨fun q hq => ?_, h⟩
      rcases List.mem_cons.1 hq with rfl | hq
      · exact hl
      · exact S.trans hl (h1 q hq)
    · split
      · next _ hl =>
        refine List.pairwise_cons.2 ⟨fun q hq => ?_, insU_ris S h2⟩
        rcases (insU_mem S).1 hq with rfl | hq
        · exact hl
        · exact h1 q hq
      · exact h
theorem uni_mem (S : STO lt) {z : α} : ∀ {l : List α}, z ∈ uni lt l ↔ z ∈ l
  | [] => by simp [uni]
  | y :: r => by
    show z ∈ insU lt y (uni lt r) ↔ _
    rw [insU_mem S, uni_mem S (l := r), List.mem_cons]
theorem uni_ris (S : STO lt) : ∀ {l : List α}, Ris lt (uni lt l)
  | [] => by simp [uni, Ris]
  | y :: r => insU_ris S (uni_ris S (l := r))
theorem insU_len (x : α) : ∀ l : List α, (insU lt x l).length ≤ l.length + 1
  | [] => by simp [insU]
  | y :: r => by
    unfold insU
    split
    · simp
    · split
      · have := insU_len x r; simp only [List.length_cons]; omega
      · simp only [List.length_cons]; omega
theorem uni_len : ∀ l : List α, (uni lt l).length ≤ l.length
  | [] => by simp [uni]
  | y :: r => by
    show (insU lt y (uni lt r)).length ≤ _
    have h1 := insU_len (lt := lt) y (uni lt r)
    have h2 := uni_len r
    simp only [List.length_cons]
    omega
theorem uni_is (S : STO lt) {l u : List α} (h : Ris lt u) (hm : ∀ x, x ∈ u ↔ x ∈ l) : u = uni lt l :=
  ris_unique S.irr S.trans h (uni_ris S) fun x => by rw [hm, uni_mem S]
end

/-- The ranks of places: less means less, and none is left out. -/
def IsRank (n : Nat) (r : Nat → Nat) (L : Nat → Nat → Prop) : Prop := (∀ i j, i < n → j < n → (r i < r j ↔ L i j)) ∧ ∀ i, i < n → ∀ v, v < r i → ∃ j, j < n ∧ r j = v
theorem rank_unique {n : Nat} {r r' : Nat → Nat} {L : Nat → Nat → Prop} (h : IsRank n r L) (h' : IsRank n r' L) : ∀ i, i < n → r i = r' i := by
  suffices ∀ v i, i < n → r i = v → r' i = v from fun i hi => (this _ i hi rfl).symm
  intro v
  induction v using Nat.strongRecOn with
  | _ v ih =>
    intro i hi hv
    have h1 : v ≤ r' i := by
      refine Nat.le_of_not_lt fun hlt => ?_
      obtain ⟨j, hj, e⟩ := h.2 i hi (r' i) (by omega)
      have e2 := ih (r' i) hlt j hj e
      have : r j < r i := by omega
      have := (h'.1 j i hj hi).2 ((h.1 j i hj hi).1 this)
      omega
    rcases Nat.lt_or_ge v (r' i) with hlt | hge
    · obtain ⟨j, hj, e⟩ := h'.2 i hi v hlt
      have : r' j < r' i := by omega
      have h2 := (h.1 j i hj hi).2 ((h'.1 j i hj hi).1 this)
      have := ih (r j) (by omega) j hj rfl
      omega
    · omega
/-- The rank of one among those of a list. -/
def rkIn {α : Type} [DecidableEq α] (lt : α → α → Bool) (l : List α) (x : α) : Nat := (uni lt l).idxOf x
theorem rkIn_at {α : Type} [DecidableEq α] {lt : α → α → Bool} (S : STO lt) {l : List α} {x : α} (h : x ∈ l) : (uni lt l)[rkIn lt l x]? = some x := by
  have hm : x ∈ uni lt l := (uni_mem S).2 h
  have hlt := List.idxOf_lt_length_iff.2 hm
  unfold rkIn
  rw [List.getElem?_eq_getElem hlt]
  simp
theorem rkIn_lt {α : Type} [DecidableEq α] {lt : α → α → Bool} (S : STO lt) {l : List α} {x : α} (h : x ∈ l) : rkIn lt l x < l.length := by
  have := (List.getElem?_eq_some_iff.1 (rkIn_at S h)).1
  have := uni_len (lt := lt) l
  omega
theorem rkIn_rank {α : Type} [DecidableEq α] {lt : α → α → Bool} (S : STO lt) (n : Nat) (f : Nat → α) : IsRank n (fun i => rkIn lt ((List.range n).map f) (f i)) (fun i j => lt (f i) (f j) = true) := by
  have hm : ∀ i, i < n → f i ∈ (List.range n).map f := fun i hi => List.mem_map.2 ⟨i, by simpa using hi, rfl⟩
  refine ⟨fun i j hi hj => ris_lt S.irr S.trans (uni_ris S) (rkIn_at S (hm i hi)) (rkIn_at S (hm j hj)), fun i hi v hv => ?_⟩
  have hv' : v < rkIn lt ((List.range n).map f) (f i) := hv
  have hl := (List.getElem?_eq_some_iff.1 (rkIn_at S (hm i hi))).1
  obtain ⟨y, hy⟩ : ∃ y, (uni lt ((List.range n).map f))[v]? = some y := ⟨_, List.getElem?_eq_getElem (by omega)⟩
  obtain ⟨j, hj, rfl⟩ := List.mem_map.1 ((uni_mem S).1 (List.mem_of_getElem? hy))
  have hj' : j < n := by simpa using hj
  exact ⟨j, hj', ris_same S.irr (uni_ris S) (rkIn_at S (hm j hj')) hy⟩

theorem bl_sto : STO bl := ⟨bl_irr, bl_trans, bl_total⟩
end Go.Proofs.Ytkboblfjchkedaa
