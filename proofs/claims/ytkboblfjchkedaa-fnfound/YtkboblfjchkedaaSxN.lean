/- Stretches of a text, their ranks by so many bytes and by twice as many, and all endings in their order: the mathematics. No condition. -/
import Derived.Test.YtkboblfjchkedaaSxM
namespace Go.Proofs.Ytkboblfjchkedaa
open Go.RowKit
set_option linter.unusedVariables false

/-- At most k bytes from a place on. -/
def stL (t : List UInt8) (k i : Nat) : List UInt8 := (t.drop i).take k
/-- The ranks of places by k bytes. -/
def rkS (t : List UInt8) (k i : Nat) : Nat := rkIn bl ((List.range t.length).map (stL t k)) (stL t k i)
theorem rkS_rank (t : List UInt8) (k : Nat) : IsRank t.length (rkS t k) (fun i j => bl (stL t k i) (stL t k j) = true) := rkIn_rank bl_sto t.length (stL t k)
theorem rkS_lt (t : List UInt8) (k i : Nat) (h : i < t.length) : rkS t k i < t.length := by
  have := rkIn_lt bl_sto (l := (List.range t.length).map (stL t k)) (x := stL t k i) (List.mem_map.2 ⟨i, by simpa using h, rfl⟩)
  unfold rkS
  simpa using this
theorem rkS_same {t : List UInt8} {k i j : Nat} (hi : i < t.length) (hj : j < t.length) : rkS t k i = rkS t k j ↔ stL t k i = stL t k j := by
  have h1 := (rkS_rank t k).1 i j hi hj
  have h2 := (rkS_rank t k).1 j i hj hi
  constructor
  · intro e
    refine bl_total ?_ ?_
    · cases q : bl (stL t k i) (stL t k j) with | false => rfl | true => have := h1.2 q; omega
    · cases q : bl (stL t k j) (stL t k i) with | false => rfl | true => have := h2.2 q; omega
  · intro e
    unfold rkS
    rw [e]

/-- Pairs of numbers in their order. -/
def ltP (a b : Int × Int) : Bool := decide (a.1 < b.1) || (decide (a.1 = b.1) && decide (a.2 < b.2))
theorem ltP_iff {a b : Int × Int} : ltP a b = true ↔ a.1 < b.1 ∨ (a.1 = b.1 ∧ a.2 < b.2) := by
  unfold ltP; simp
theorem ltP_not {a b : Int × Int} : ltP a b = false ↔ ¬ (a.1 < b.1 ∨ (a.1 = b.1 ∧ a.2 < b.2)) := by
  rw [← ltP_iff]; simp
theorem ltP_sto : STO ltP where
  irr a := by rw [ltP_not]; omega
  trans h k := by rw [ltP_iff] at *; omega
  tot h k := by rw [ltP_not] at h k; exact Prod.ext (by omega) (by omega)
/-- The rank of a place, and of the one k behind it. -/
def prS (t : List UInt8) (k : Nat) (r : Nat → Nat) (i : Nat) : Int × Int := (r i, if i + k < t.length then (r (i + k) : Int) else -1)

theorem stL_add (t : List UInt8) (k i : Nat) : stL t (2 * k) i = stL t k i ++ stL t k (i + k) := by
  unfold stL
  rw [show 2 * k = k + k by omega, List.take_add, List.drop_drop]
theorem stL_take (t : List UInt8) (k i : Nat) : (stL t (2 * k) i).take k = stL t k i := by
  unfold stL
  rw [List.take_take, show min k (2 * k) = k by omega]
theorem stL_drop (t : List UInt8) (k i : Nat) : (stL t (2 * k) i).drop k = stL t k (i + k) := by
  unfold stL
  rw [List.drop_take, List.drop_drop, show 2 * k - k = k by omega]
theorem stL_end {t : List UInt8} {k i : Nat} (h : t.length ≤ i) : stL t k i = [] := by
  unfold stL
  rw [List.drop_eq_nil_of_le h, List.take_nil]
theorem stL_in {t : List UInt8} {k i : Nat} (hk : 0 < k) (h : i < t.length) : stL t k i ≠ [] := by
  intro e
  have := congrArg List.length e
  unfold stL at this
  simp at this
  omega
/-- Ranks by so many bytes and so many behind tell ranks by twice as many. -/
theorem double_less {t : List UInt8} {k i j : Nat} (hk : 0 < k) (hi : i < t.length) (hj : j < t.length) : ltP (prS t k (rkS t k) i) (prS t k (rkS t k) j) = true ↔ bl (stL t (2 * k) i) (stL t (2 * k) j) = true := by
  have hR : ∀ i j, i < t.length → j < t.length → (rkS t k i < rkS t k j ↔ bl (stL t k i) (stL t k j) = true) := (rkS_rank t k).1
  rw [bl_split k, stL_take, stL_take, stL_drop, stL_drop, ltP_iff]
  have h1 : ((rkS t k i : Nat) : Int) < (rkS t k j : Nat) ↔ bl (stL t k i) (stL t k j) = true := by rw [← hR i j hi hj]; omega
  have h2 : ((rkS t k i : Nat) : Int) = (rkS t k j : Nat) ↔ stL t k i = stL t k j := by rw [← rkS_same hi hj]; omega
  have h3 : (prS t k (rkS t k) i).2 < (prS t k (rkS t k) j).2 ↔ bl (stL t k (i + k)) (stL t k (j + k)) = true := by
    unfold prS
    simp only
    by_cases a : i + k < t.length
    · rw [if_pos a]
      by_cases b : j + k < t.length
      · rw [if_pos b, ← hR _ _ a b]; omega
      · rw [if_neg b, stL_end (i := j + k) (by omega), bl_nil]
        constructor
        · intro h; omega
        · intro h; cases h
    · rw [if_neg a, stL_end (i := i + k) (by omega)]
      by_cases b : j + k < t.length
      · rw [if_pos b]
        refine ⟨fun _ => ?_, fun _ => by omega⟩
        cases e : stL t k (j + k) with
        | nil => exact absurd e (stL_in hk b)
        | cons x l => rfl
      · rw [if_neg b, stL_end (i := j + k) (by omega), bl_nil]
        constructor
        · intro h; omega
        · intro h; cases h
  show ((rkS t k i : Nat) : Int) < (rkS t k j : Nat) ∨ (((rkS t k i : Nat) : Int) = (rkS t k j : Nat) ∧ (prS t k (rkS t k) i).2 < (prS t k (rkS t k) j).2) ↔ _
  rw [h1, h2, h3]
theorem double_rank {t : List UInt8} {k : Nat} (hk : 0 < k) : ∀ i, i < t.length → rkIn ltP ((List.range t.length).map (prS t k (rkS t k))) (prS t k (rkS t k) i) = rkS t (2 * k) i := by
  have h1 := rkIn_rank ltP_sto t.length (prS t k (rkS t k))
  have h2 := rkS_rank t (2 * k)
  refine rank_unique (r := fun i => rkIn ltP ((List.range t.length).map (prS t k (rkS t k))) (prS t k (rkS t k) i)) ⟨fun i j hi hj => ?_, h1.2⟩ h2
  exact (h1.1 i j hi hj).trans (double_less hk hi hj)

/-- Where nothing changes any two places alike are alike to the end. -/
theorem stay_drop {t : List UInt8} {k : Nat} (hk : 0 < k) (h : ∀ i, i < t.length → rkS t k i = rkS t (2 * k) i) : ∀ (n i j : Nat), t.length - i ≤ n → stL t k i = stL t k j → t.drop i = t.drop j
  | 0, i, j, hn, e => by
    have hi : t.length ≤ i := by omega
    rw [stL_end hi] at e
    by_cases hj : j < t.length
    · exact absurd e.symm (stL_in hk hj)
    · rw [List.drop_eq_nil_of_le hi, List.drop_eq_nil_of_le (by omega)]
  | n + 1, i, j, hn, e => by
    by_cases hi : i < t.length
    · by_cases hj : j < t.length
      · have e2 : rkS t k i = rkS t k j := (rkS_same hi hj).2 e
        rw [h i hi, h j hj, rkS_same hi hj] at e2
        have e3 : stL t k (i + k) = stL t k (j + k) := by rw [← stL_drop, ← stL_drop, e2]
        have e4 := stay_drop hk h n (i + k) (j + k) (by omega) e3
        rw [← List.take_append_drop k (t.drop i), ← List.take_append_drop k (t.drop j), List.drop_drop, List.drop_drop, e4]
        exact congrArg (· ++ _) e
      · rw [stL_end (i := j) (by omega)] at e
        exact absurd e (stL_in hk hi)
    · rw [stL_end (i := i) (by omega)] at e
      by_cases hj : j < t.length
      · exact absurd e.symm (stL_in hk hj)
      · rw [List.drop_eq_nil_of_le (by omega), List.drop_eq_nil_of_le (by omega)]
theorem drop_inj {t : List UInt8} {i j : Nat} (hi : i < t.length) (hj : j < t.length) (e : t.drop i = t.drop j) : i = j := by
  have := congrArg List.length e
  simp at this
  omega
theorem stay_inj {t : List UInt8} {k : Nat} (hk : 0 < k) (h : ∀ i, i < t.length → rkS t k i = rkS t (2 * k) i) {i j : Nat} (hi : i < t.length) (hj : j < t.length) (e : rkS t k i = rkS t k j) : i = j :=
  drop_inj hi hj (stay_drop hk h _ i j (Nat.le_refl _) ((rkS_same hi hj).1 e))
/-- By as many bytes as there are nothing changes. -/
theorem stay_end {t : List UInt8} {k : Nat} (h : t.length ≤ k) (i : Nat) : rkS t k i = rkS t (2 * k) i := by
  have e : ∀ j, stL t k j = stL t (2 * k) j := fun j => by
    unfold stL
    rw [List.take_of_length_le (by simp; omega), List.take_of_length_le (by simp; omega)]
  unfold rkS
  rw [show stL t k = stL t (2 * k) from funext e]

/-- The ending at i is ahead of that at j. -/
def ltE (t : List UInt8) (i j : Nat) : Bool := bl (t.drop i) (t.drop j)
theorem ltE_irr (t : List UInt8) (i : Nat) : ltE t i i = false := bl_irr _
theorem ltE_trans {t : List UInt8} {i j k : Nat} (h : ltE t i j = true) (h' : ltE t j k = true) : ltE t i k = true := bl_trans h h'
/-- A place put ahead of the first that is not less. -/
def insE (t : List UInt8) (i : Nat) : List Nat → List Nat
  | [] => [i]
  | y :: r => if ltE t y i = true then y :: insE t i r else i :: y :: r
/-- How many at the front are less. -/
def posE (t : List UInt8) (i : Nat) : List Nat → Nat
  | [] => 0
  | y :: r => if ltE t y i = true then posE t i r + 1 else 0
theorem insE_is (t : List UInt8) (i : Nat) : ∀ l : List Nat, insE t i l = l.take (posE t i l) ++ i :: l.drop (posE t i l)
  | [] => rfl
  | y :: r => by
    unfold insE posE
    split
    · rw [insE_is t i r]; rfl
    · rfl
theorem posE_le (t : List UInt8) (i : Nat) : ∀ l : List Nat, posE t i l ≤ l.length
  | [] => Nat.le_refl _
  | y :: r => by
    unfold posE
    split
    · have := posE_le t i r; simp only [List.length_cons]; omega
    · exact Nat.zero_le _
theorem posE_drop {t : List UInt8} {i p y : Nat} {l : List Nat} (h : l[p]? = some y) : posE t i (l.drop p) = if ltE t y i = true then posE t i (l.drop (p + 1)) + 1 else 0 := by
  obtain ⟨hp, e⟩ := List.getElem?_eq_some_iff.1 h
  rw [List.drop_eq_getElem_cons hp, e]
  rfl
theorem insE_mem {t : List UInt8} {i z : Nat} : ∀ {l : List Nat}, z ∈ insE t i l ↔ z = i ∨ z ∈ l
  | [] => by simp [insE]
  | y :: r => by
    unfold insE
    split
    · simp only [List.mem_cons, insE_mem (l := r)]
      constructor <;> (rintro (h | h | h) <;> simp [h])
    · simp
theorem insE_len (t : List UInt8) (i : Nat) : ∀ l : List Nat, (insE t i l).length = l.length + 1
  | [] => rfl
  | y :: r => by
    unfold insE
    split
    · simp [insE_len t i r]
    · rfl
theorem insE_ris {t : List UInt8} {i : Nat} (hi : i < t.length) : ∀ {l : List Nat}, Ris (ltE t) l → (∀ z ∈ l, i < z ∧ z < t.length) → Ris (ltE t) (insE t i l)
  | [], _, _ => by simp [insE, Ris]
  | y :: r, h, hz => by
    obtain ⟨h1, h2⟩ := List.pairwise_cons.1 h
    unfold insE
    split
    · next hl =>
      refine List.pairwise_cons.2 ⟨fun q hq => ?_, insE_ris hi h2 fun z k => hz z (by simp [k])⟩
      rcases insE_mem.1 hq with rfl | hq
      · exact hl
      · exact h1 q hq
    · next hl =>
      have hiy : ltE t i y = true := by
        cases q : ltE t i y with
        | true => rfl
        | false =>
          have := hz y (by simp)
          have := drop_inj hi this.2 (bl_total q (Bool.eq_false_iff.2 hl))
          omega
      refine List.pairwise_cons.2 ⟨fun q hq => ?_, h⟩
      rcases List.mem_cons.1 hq with rfl | hq
      · exact hiy
      · exact ltE_trans hiy (h1 q hq)
/-- The places from i on, in the order of what begins there. -/
def sufFrom (t : List UInt8) : Nat → List Nat
  | 0 => []
  | m + 1 => insE t (t.length - (m + 1)) (sufFrom t m)
def sufL (t : List UInt8) : List Nat := sufFrom t t.length
theorem sufFrom_len (t : List UInt8) : ∀ m, (sufFrom t m).length = m
  | 0 => rfl
  | m + 1 => by rw [sufFrom, insE_len, sufFrom_len t m]
theorem sufFrom_mem {t : List UInt8} {z : Nat} : ∀ {m : Nat}, m ≤ t.length → (z ∈ sufFrom t m ↔ t.length - m ≤ z ∧ z < t.length)
  | 0, _ => by simp [sufFrom]
  | m + 1, h => by
    rw [sufFrom, insE_mem, sufFrom_mem (m := m) (by omega)]
    omega
theorem sufFrom_ris {t : List UInt8} : ∀ {m : Nat}, m ≤ t.length → Ris (ltE t) (sufFrom t m)
  | 0, _ => by simp [sufFrom, Ris]
  | m + 1, h => insE_ris (by omega) (sufFrom_ris (m := m) (by omega)) fun z hz => by
    have := (sufFrom_mem (m := m) (by omega)).1 hz
    omega
theorem sufL_len (t : List UInt8) : (sufL t).length = t.length := sufFrom_len t _
theorem sufL_mem {t : List UInt8} {z : Nat} : z ∈ sufL t ↔ z < t.length := by
  unfold sufL
  rw [sufFrom_mem (Nat.le_refl _)]
  omega
theorem sufL_ris (t : List UInt8) : Ris (ltE t) (sufL t) := sufFrom_ris (Nat.le_refl _)
theorem sufL_is {t : List UInt8} {l : List Nat} (h : Ris (ltE t) l) (hm : ∀ z, z ∈ l ↔ z < t.length) : l = sufL t :=
  ris_unique (ltE_irr t) ltE_trans h (sufL_ris t) fun z => by rw [hm, sufL_mem]

theorem few_below : ∀ (p : Nat) (l : List Nat), l.Nodup → (∀ x ∈ l, x < p) → l.length ≤ p
  | 0, [], _, _ => Nat.le_refl _
  | 0, x :: l, _, h => by have := h x (by simp); omega
  | p + 1, l, hn, h => by
    have h1 := few_below p (l.erase p) (hn.erase p) fun x hx => by
      have h2 := (hn.mem_erase_iff).1 hx
      have := h x h2.2
      omega
    by_cases hm : p ∈ l
    · rw [List.length_erase_of_mem hm] at h1; omega
    · rw [List.erase_of_not_mem hm] at h1; omega
/-- Each place laid at its rank: what comes of it. -/
theorem lay_ranks {t : List UInt8} {k : Nat} (hk : 0 < k) (h : ∀ i, i < t.length → rkS t k i = rkS t (2 * k) i) {l : List Nat} (hl : l.length = t.length) (hp : ∀ i, i < t.length → l[rkS t k i]? = some i) : l = sufL t := by
  have hinj := @stay_inj t k hk h
  have hR := rkS_rank t k
  -- every number below the length is a rank
  have hsur : ∀ p, p < t.length → ∃ i, i < t.length ∧ rkS t k i = p := by
    intro p hp'
    refine Classical.byContradiction fun hno => ?_
    have hlt : ∀ i, i < t.length → rkS t k i < p := fun i hi => by
      refine Nat.lt_of_not_le fun hge => hno ?_
      rcases Nat.lt_or_eq_of_le hge with h1 | h1
      · exact hR.2 i hi p h1
      · exact ⟨i, hi, h1.symm⟩
    have hnd : ((List.range t.length).map (rkS t k)).Nodup := by
      refine List.pairwise_map.2 ?_
      refine List.Pairwise.imp_of_mem ?_ List.nodup_range
      intro a b ha hb hab e
      exact hab (hinj (by simpa using ha) (by simpa using hb) e)
    have := few_below p _ hnd fun x hx => by
      obtain ⟨i, hi, rfl⟩ := List.mem_map.1 hx
      exact hlt i (by simpa using hi)
    simp at this
    omega
  refine sufL_is (List.pairwise_iff_getElem.2 fun p q hp' hq' hpq => ?_) fun z => ?_
  · obtain ⟨i, hi, rfl⟩ := hsur p (by omega)
    obtain ⟨j, hj, rfl⟩ := hsur q (by omega)
    have e1 := (List.getElem?_eq_some_iff.1 (hp i hi)).2
    have e2 := (List.getElem?_eq_some_iff.1 (hp j hj)).2
    rw [e1, e2]
    exact bl_take k ((hR.1 i j hi hj).1 hpq)
  · constructor
    · intro hz
      obtain ⟨p, hp'⟩ := List.getElem?_of_mem hz
      obtain ⟨i, hi, e⟩ := hsur p (by have := (List.getElem?_eq_some_iff.1 hp').1; omega)
      have := hp i hi
      rw [e, hp'] at this
      injection this with this
      omega
    · intro hz
      exact List.mem_of_getElem? (hp z hz)
end Go.Proofs.Ytkboblfjchkedaa
