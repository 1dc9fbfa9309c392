/- Votes that must meet: what is reckoned of copies. No condition. -/
import Derived.Test.YtbkdkiodkcpbeaaKVoting
import Derived.Test.YtbkdkiodkcpbeaaKCopy
namespace Go.Proofs.Ytbkdkiodkcpbeaa
open Go.RowKit
set_option linter.unusedVariables false

/-- A copy is as said. -/
def CpOk (c : DCopy) : Prop := 1 ≤ c.1 ∧ c.1 ≤ 10 ∧ 0 ≤ c.2.1 ∧ c.2.1 ≤ 1000000 ∧ c.2.2.size ≤ 12
instance (c : DCopy) : Decidable (CpOk c) := by unfold CpOk; infer_instance
/-- Two have one version and not one text. -/
def cpUn (c o : DCopy) : Bool := decide (c.2.1 = o.2.1 ∧ c.2.2 ≠ o.2.2)
theorem cpUn_comm (c o : DCopy) : cpUn c o = cpUn o c := by
  unfold cpUn
  rw [decide_eq_decide]
  exact ⟨fun h => ⟨h.1.symm, fun e => h.2 e.symm⟩, fun h => ⟨h.1.symm, fun e => h.2 e.symm⟩⟩
def noC : DCopy := (0, 0, ⟨#[]⟩)
/-- The copy with a number. -/
def cp (l : List DCopy) (k : Nat) : DCopy := l.getD k noC
theorem cp_of {l : List DCopy} {k : Nat} {c : DCopy} (h : l[k]? = some c) : cp l k = c := by unfold cp; rw [List.getD_eq_getElem?_getD, h]; rfl
theorem cp_at {l : List DCopy} {k : Nat} (h : k < l.length) : l[k]? = some (cp l k) := by rw [cp_of (List.getElem?_eq_getElem h), List.getElem?_eq_getElem h]
/-- One is as said, and agrees with those ahead of it. -/
def cpAt (l : List DCopy) (i : Nat) : Bool := decide (CpOk (cp l i)) && (l.take i).all fun o => !cpUn (cp l i) o
def okTil (l : List DCopy) : Nat → Bool
  | 0 => true
  | i + 1 => okTil l i && cpAt l i
theorem okTil_at {l : List DCopy} : ∀ {n i : Nat}, okTil l n = true → i < n → cpAt l i = true
  | n + 1, i, h, hi => by
    unfold okTil at h
    rw [Bool.and_eq_true] at h
    by_cases e : i = n
    · exact e ▸ h.2
    · exact okTil_at h.1 (by omega)
theorem okTil_of {l : List DCopy} : ∀ {n : Nat}, (∀ i, i < n → cpAt l i = true) → okTil l n = true
  | 0, _ => rfl
  | n + 1, h => by
    unfold okTil
    rw [okTil_of (n := n) (fun i hi => h i (by omega)), h n (by omega)]
    rfl
theorem okTil_le {l : List DCopy} {n m : Nat} (h : okTil l n = true) (hm : m ≤ n) : okTil l m = true := okTil_of fun i hi => okTil_at h (by omega)
theorem okTil_no {l : List DCopy} {n i : Nat} (h : cpAt l i = false) (hi : i < n) : okTil l n = false := by
  cases e : okTil l n with
  | false => rfl
  | true => rw [okTil_at e hi] at h; cases h
theorem cpAt_ok {l : List DCopy} {i : Nat} (h : cpAt l i = true) : CpOk (cp l i) := by
  unfold cpAt at h
  rw [Bool.and_eq_true] at h
  exact of_decide_eq_true h.1
theorem cpAt_one {l : List DCopy} {i j : Nat} (h : cpAt l i = true) (hj : j < i) (hi : i < l.length) (hv : (cp l i).2.1 = (cp l j).2.1) : (cp l i).2.2 = (cp l j).2.2 := by
  unfold cpAt at h
  rw [Bool.and_eq_true, List.all_eq_true] at h
  have := h.2 (cp l j) (List.mem_of_getElem? (i := j) (by rw [List.getElem?_take, if_pos hj]; exact cp_at (by omega)))
  unfold cpUn at this
  rw [Bool.not_eq_true', decide_eq_false_iff_not] at this
  by_cases e : (cp l i).2.2 = (cp l j).2.2
  · exact e
  · exact absurd ⟨hv, e⟩ this
theorem okTil_one {l : List DCopy} {n i j : Nat} (h : okTil l n = true) (hn : n ≤ l.length) (hi : i < n) (hj : j < n) (hv : (cp l i).2.1 = (cp l j).2.1) : (cp l i).2.2 = (cp l j).2.2 := by
  rcases Nat.lt_trichotomy i j with e | e | e
  · exact (cpAt_one (okTil_at h hj) e (by omega) hv.symm).symm
  · rw [e]
  · exact cpAt_one (okTil_at h hi) e (by omega) hv
theorem cpAt_of {l : List DCopy} {i : Nat} (hi : i < l.length) (h : CpOk (cp l i)) (h2 : ∀ j, j < i → (cp l i).2.1 = (cp l j).2.1 → (cp l i).2.2 = (cp l j).2.2) : cpAt l i = true := by
  unfold cpAt
  rw [Bool.and_eq_true, List.all_eq_true]
  refine ⟨decide_eq_true h, fun o ho => ?_⟩
  obtain ⟨j, hj⟩ := List.mem_iff_getElem?.1 ho
  rw [List.getElem?_take] at hj
  split at hj
  · next e =>
    have := cp_of hj
    unfold cpUn
    rw [Bool.not_eq_true', decide_eq_false_iff_not, ← this]
    rintro ⟨a, b⟩
    exact b (h2 j e a)
  · cases hj

/-- What those of the first i weigh that are meant. -/
def ws (p : Nat → Bool) (l : List DCopy) : Nat → Int
  | 0 => 0
  | i + 1 => if p i = true then ws p l i + (cp l i).1 else ws p l i
theorem ws_bd {p : Nat → Bool} {l : List DCopy} : ∀ {n : Nat}, okTil l n = true → 0 ≤ ws p l n ∧ ws p l n ≤ 10 * (n : Int)
  | 0, _ => by simp [ws]
  | n + 1, h => by
    have h1 := ws_bd (p := p) (okTil_le h (show n ≤ n + 1 by omega))
    obtain ⟨a, b, _⟩ := cpAt_ok (okTil_at h (show n < n + 1 by omega))
    unfold ws
    split <;> omega
theorem ws_ext {p q : Nat → Bool} {l m : List DCopy} : ∀ {n : Nat}, (∀ i, i < n → p i = q i) → (∀ i, i < n → (cp l i).1 = (cp m i).1) → ws p l n = ws q m n
  | 0, _, _ => rfl
  | n + 1, h, g => by
    unfold ws
    rw [ws_ext (fun i hi => h i (by omega)) (fun i hi => g i (by omega)), h n (by omega), g n (by omega)]
/-- Any that weigh more together than all have one in common. -/
theorem ws_meet {p q : Nat → Bool} {l : List DCopy} : ∀ {n : Nat}, okTil l n = true → ws (fun _ => true) l n < ws p l n + ws q l n → ∃ k, k < n ∧ p k = true ∧ q k = true
  | 0, _, h => by simp [ws] at h
  | n + 1, h, g => by
    by_cases e : p n = true ∧ q n = true
    · exact ⟨n, by omega, e⟩
    · obtain ⟨a, b, _⟩ := cpAt_ok (okTil_at h (show n < n + 1 by omega))
      have h' := okTil_le h (show n ≤ n + 1 by omega)
      have : ws (fun _ => true) l n < ws p l n + ws q l n := by
        unfold ws at g
        simp only [if_true] at g
        split at g
        · split at g
          · next e1 e2 => exact absurd ⟨e1, e2⟩ e
          · omega
        · split at g <;> omega
      obtain ⟨k, hk, hp⟩ := ws_meet h' this
      exact ⟨k, by omega, hp⟩

/-- The greatest version of the first i. -/
def tp (l : List DCopy) : Nat → Int
  | 0 => 0
  | i + 1 => if tp l i < (cp l i).2.1 then (cp l i).2.1 else tp l i
theorem tp_ge {l : List DCopy} : ∀ {n i : Nat}, i < n → (cp l i).2.1 ≤ tp l n
  | n + 1, i, h => by
    unfold tp
    by_cases e : i = n
    · subst e
      split <;> omega
    · have := tp_ge (l := l) (show i < n by omega)
      split <;> omega
theorem tp_nn {l : List DCopy} : ∀ n : Nat, 0 ≤ tp l n
  | 0 => by simp [tp]
  | n + 1 => by
    have := tp_nn (l := l) n
    unfold tp
    split <;> omega
theorem tp_le {l : List DCopy} {B : Int} (hB : 0 ≤ B) : ∀ {n : Nat}, (∀ i, i < n → (cp l i).2.1 ≤ B) → tp l n ≤ B
  | 0, _ => by simpa [tp] using hB
  | n + 1, h => by
    have := tp_le hB (n := n) (fun i hi => h i (by omega))
    have := h n (by omega)
    unfold tp
    split <;> omega
/-- The first of the first i that has the greatest. -/
def mxc (l : List DCopy) : Nat → DCopy
  | 0 => cp l 0
  | i + 1 => if (mxc l i).2.1 < (cp l i).2.1 then cp l i else mxc l i
theorem mxc_one (l : List DCopy) : mxc l 1 = cp l 0 := by simp [mxc]
theorem mxc_tp {l : List DCopy} : ∀ {n : Nat}, 0 < n → 0 ≤ (cp l 0).2.1 → (mxc l n).2.1 = tp l n
  | 1, _, h0 => by
    rw [mxc_one]
    show _ = if 0 < (cp l 0).2.1 then (cp l 0).2.1 else 0
    by_cases e : 0 < (cp l 0).2.1
    · rw [if_pos e]
    · rw [if_neg e]; omega
  | n + 2, _, h0 => by
    have := mxc_tp (l := l) (n := n + 1) (by omega) h0
    show (if (mxc l (n + 1)).2.1 < (cp l (n + 1)).2.1 then cp l (n + 1) else mxc l (n + 1)).2.1 = (if tp l (n + 1) < (cp l (n + 1)).2.1 then (cp l (n + 1)).2.1 else tp l (n + 1))
    rw [this]
    split
    · rfl
    · exact this
theorem mxc_cp (l : List DCopy) : ∀ {n : Nat}, 0 < n → ∃ i, i < n ∧ mxc l n = cp l i
  | 1, _ => ⟨0, by omega, mxc_one l⟩
  | n + 2, _ => by
    obtain ⟨i, hi, e⟩ := mxc_cp l (n := n + 1) (by omega)
    show ∃ j, _ ∧ (if (mxc l (n + 1)).2.1 < (cp l (n + 1)).2.1 then cp l (n + 1) else mxc l (n + 1)) = _
    split
    · exact ⟨n + 1, by omega, rfl⟩
    · exact ⟨i, by omega, e⟩

/-- What all weigh together. -/
def allW (l : List DCopy) : Int := ws (fun _ => true) l l.length
/-- What the newest weigh. -/
def newW (l : List DCopy) : Int := ws (fun k => decide ((cp l k).2.1 = tp l l.length)) l l.length
def MeetOk (a r s : Int) : Prop := 1 ≤ r ∧ r ≤ a ∧ 1 ≤ s ∧ s ≤ a ∧ a < r + s ∧ a < 2 * s
instance (a r s : Int) : Decidable (MeetOk a r s) := by unfold MeetOk; infer_instance
/-- GoodVoting. -/
def fGoodVoting (v : DVoting) : Bool := decide (1 ≤ v.1.length ∧ v.1.length ≤ 7) && (okTil v.1 v.1.length && (decide (MeetOk (allW v.1) v.2.1 v.2.2) && decide (v.2.2 ≤ newW v.1)))
structure VG (v : DVoting) : Prop where
  lo : 1 ≤ v.1.length
  hi : v.1.length ≤ 7
  ok : okTil v.1 v.1.length = true
  meet : MeetOk (allW v.1) v.2.1 v.2.2
  new : v.2.2 ≤ newW v.1
theorem vg_iff (v : DVoting) : fGoodVoting v = true ↔ VG v := by
  unfold fGoodVoting
  simp only [Bool.and_eq_true, decide_eq_true_eq]
  exact ⟨fun ⟨⟨a, b⟩, c, d, e⟩ => ⟨a, b, c, d, e⟩, fun h => ⟨⟨h.lo, h.hi⟩, h.ok, h.meet, h.new⟩⟩
theorem vg_not {v : DVoting} (h : ¬ VG v) : fGoodVoting v = false := by
  cases e : fGoodVoting v with
  | false => rfl
  | true => exact absurd ((vg_iff v).1 e) h

/-- Rising numbers of copies. -/
def lastS (s : List Int) : Nat → Int
  | 0 => -1
  | j + 1 => s.getD j 0
def someTil (s : List Int) (n : Nat) : Nat → Bool
  | 0 => true
  | j + 1 => someTil s n j && (decide (lastS s j < s.getD j 0) && decide (s.getD j 0 < n))
def someOk (s : List Int) (n : Nat) : Bool := someTil s n s.length
theorem someTil_at {s : List Int} {n : Nat} : ∀ {m j : Nat}, someTil s n m = true → j < m → lastS s j < s.getD j 0 ∧ s.getD j 0 < n
  | m + 1, j, h, hj => by
    unfold someTil at h
    simp only [Bool.and_eq_true, decide_eq_true_eq] at h
    by_cases e : j = m
    · exact e ▸ h.2
    · exact someTil_at h.1 (by omega)
theorem someTil_of {s : List Int} {n : Nat} : ∀ {m : Nat}, (∀ j, j < m → lastS s j < s.getD j 0 ∧ s.getD j 0 < n) → someTil s n m = true
  | 0, _ => rfl
  | m + 1, h => by
    unfold someTil
    rw [someTil_of (m := m) (fun j hj => h j (by omega))]
    simp only [Bool.true_and, Bool.and_eq_true, decide_eq_true_eq]
    exact h m (by omega)
theorem someTil_no {s : List Int} {n m j : Nat} (hj : j < m) (h : ¬ (lastS s j < s.getD j 0 ∧ s.getD j 0 < n)) : someTil s n m = false := by
  cases e : someTil s n m with
  | false => rfl
  | true => exact absurd (someTil_at e hj) h
theorem some_nn {s : List Int} {n m : Nat} (h : someTil s n m = true) : ∀ j, j < m → 0 ≤ s.getD j 0
  | 0, hj => by have h1 : (-1 : Int) < s.getD 0 0 := (someTil_at h hj).1; omega
  | j + 1, hj => by
    have h1 : s.getD j 0 < s.getD (j + 1) 0 := (someTil_at h hj).1
    have h2 := some_nn h j (by omega)
    omega
theorem some_lt {s : List Int} {n m : Nat} (h : someTil s n m = true) {i : Nat} : ∀ j : Nat, i < j → j < m → s.getD i 0 < s.getD j 0
  | 0, hi, _ => by omega
  | j + 1, hi, hj => by
    have h1 : s.getD j 0 < s.getD (j + 1) 0 := (someTil_at h hj).1
    by_cases e : i = j
    · exact e ▸ h1
    · have := some_lt (i := i) h j (by omega) (show j < m by omega)
      omega
/-- The number at a place. -/
def nat (s : List Int) (j : Nat) : Nat := (s.getD j 0).toNat
theorem some_nat {s : List Int} {n m : Nat} (h : someTil s n m = true) {j : Nat} (hj : j < m) : s.getD j 0 = (nat s j : Int) ∧ nat s j < n := by
  have h1 := some_nn h j hj
  have h2 := (someTil_at h hj).2
  unfold nat
  omega
theorem getD_of {s : List Int} {j : Nat} {k : Int} (h : s[j]? = some k) : s.getD j 0 = k := by rw [List.getD_eq_getElem?_getD, h]; rfl
theorem getD_at {s : List Int} {j : Nat} (h : j < s.length) : s[j]? = some (s.getD j 0) := by rw [getD_of (List.getElem?_eq_getElem h), List.getElem?_eq_getElem h]
/-- What they weigh, one behind the other. -/
def wS (l : List DCopy) (s : List Int) : Nat → Int
  | 0 => 0
  | j + 1 => wS l s j + (cp l (nat s j)).1
def has (s : List Int) (m : Nat) (k : Nat) : Bool := (s.take m).contains (k : Int)
theorem has_iff {s : List Int} {m k : Nat} : has s m k = true ↔ ∃ j, j < m ∧ j < s.length ∧ s.getD j 0 = (k : Int) := by
  unfold has
  rw [List.contains_iff_mem, List.mem_iff_getElem?]
  constructor
  · rintro ⟨j, hj⟩
    rw [List.getElem?_take] at hj
    split at hj
    · next e => exact ⟨j, e, (List.getElem?_eq_some_iff.1 hj).1, getD_of hj⟩
    · cases hj
  · rintro ⟨j, hj, hl, e⟩
    exact ⟨j, by rw [List.getElem?_take, if_pos hj, getD_at hl, e]⟩
theorem has_zero (s : List Int) (k : Nat) : has s 0 k = false := by simp [has]
theorem has_all (s : List Int) (k : Nat) : has s s.length k = s.contains (k : Int) := by simp [has]
theorem has_next {s : List Int} {n m : Nat} (h : someTil s n s.length = true) (hm : m < s.length) (k : Nat) : has s (m + 1) k = (has s m k || decide (k = nat s m)) := by
  have e := (some_nat h hm).1
  rw [Bool.eq_iff_iff, Bool.or_eq_true, has_iff, has_iff, decide_eq_true_eq]
  constructor
  · rintro ⟨j, hj, hl, ej⟩
    by_cases hjm : j = m
    · subst hjm
      exact .inr (by omega)
    · exact .inl ⟨j, by omega, hl, ej⟩
  · rintro (⟨j, hj, hl, ej⟩ | rfl)
    · exact ⟨j, by omega, hl, ej⟩
    · exact ⟨m, by omega, hm, e⟩
theorem has_not {s : List Int} {n m : Nat} (h : someTil s n s.length = true) (hm : m < s.length) : has s m (nat s m) = false := by
  cases e : has s m (nat s m) with
  | false => rfl
  | true =>
    obtain ⟨j, hj, hl, ej⟩ := has_iff.1 e
    have := some_lt h m hj hm
    have := (some_nat h hm).1
    omega
theorem ws_put {l : List DCopy} {p q : Nat → Bool} {x : Nat} (hp : p x = false) (hq : ∀ k, q k = (p k || decide (k = x))) : ∀ n : Nat, ws q l n = ws p l n + if x < n then (cp l x).1 else 0
  | 0 => by simp [ws]
  | n + 1 => by
    have ih := ws_put hp hq (l := l) n
    unfold ws
    rw [hq n, ih]
    by_cases e : n = x
    · subst e
      rw [hp]
      simp
    · have e1 : decide (n = x) = false := decide_eq_false e
      rw [e1, Bool.or_false]
      have e3 : (if x < n + 1 then (cp l x).1 else 0) = if x < n then (cp l x).1 else 0 := by
        by_cases e2 : x < n
        · rw [if_pos e2, if_pos (show x < n + 1 by omega)]
        · rw [if_neg e2, if_neg (show ¬ x < n + 1 by omega)]
      rw [e3]
      by_cases e4 : p n = true
      · rw [if_pos e4, if_pos e4]; omega
      · rw [if_neg e4, if_neg e4]
theorem wS_ws {l : List DCopy} {s : List Int} {n : Nat} (h : someTil s n s.length = true) : ∀ {m : Nat}, m ≤ s.length → wS l s m = ws (has s m) l n
  | 0, _ => by
    have : ∀ n : Nat, ws (has s 0) l n = 0 := fun n => by
      induction n with
      | zero => rfl
      | succ n ih => unfold ws; rw [has_zero, if_neg (by simp), ih]
    rw [this]
    rfl
  | m + 1, hm => by
    rw [ws_put (has_not h (by omega)) (has_next h (by omega)) n, if_pos (some_nat h (by omega)).2, ← wS_ws h (by omega)]
    rfl
/-- WeightIn. -/
def wIn (v : DVoting) (s : List Int) : Int := wS v.1 s s.length
theorem wIn_ws {v : DVoting} {s : List Int} (h : someOk s v.1.length = true) : wIn v s = ws (fun k => s.contains (k : Int)) v.1 v.1.length := by
  unfold wIn
  rw [wS_ws h (Nat.le_refl _)]
  exact ws_ext (fun i _ => has_all s i) (fun _ _ => rfl)
def fWeightIn (v : DVoting) (s : List Int) : Int × Bool := if fGoodVoting v = true ∧ someOk s v.1.length = true then (wIn v s, true) else (0, false)
/-- Enough of them. -/
def enough (v : DVoting) (s : List Int) (least : Int) : Bool := fGoodVoting v && (someOk s v.1.length && decide (least ≤ wIn v s))
end Go.Proofs.Ytbkdkiodkcpbeaa
