/- What halving finds: all places of a text, by halving, in their order: the mathematics. No condition. -/
import Derived.Test.YtkboblfjchkedaaSxFb
namespace Go.Proofs.Ytkboblfjchkedaa
open Go.RowKit Go.Sort
set_option linter.unusedVariables false

/-- How many of a list, from the front on, are below a number. -/
def posN (i : Nat) : List Nat → Nat
  | [] => 0
  | y :: t => if y < i then posN i t + 1 else 0
/-- A number put in ahead of the first that is not below it. -/
def putN (i : Nat) (l : List Nat) : List Nat := l.take (posN i l) ++ i :: l.drop (posN i l)
theorem posN_le (i : Nat) : ∀ l : List Nat, posN i l ≤ l.length
  | [] => Nat.le_refl _
  | y :: t => by
    have := posN_le i t
    unfold posN
    split <;> simp only [List.length_cons] <;> omega
theorem posN_drop {i p y : Nat} {l : List Nat} (h : l[p]? = some y) : posN i (l.drop p) = if y < i then posN i (l.drop (p + 1)) + 1 else 0 := by
  obtain ⟨h1, rfl⟩ := List.getElem?_eq_some_iff.1 h
  rw [List.drop_eq_getElem_cons h1, posN]
theorem putN_cons (i y : Nat) (t : List Nat) : putN i (y :: t) = if y < i then y :: putN i t else i :: y :: t := by
  unfold putN
  by_cases h : y < i
  · simp [posN, h]
  · simp [posN, h]
theorem putN_perm (i : Nat) (l : List Nat) : (putN i l).Perm (i :: l) := by
  unfold putN
  have h : (l.take (posN i l) ++ i :: l.drop (posN i l)).Perm (i :: (l.take (posN i l) ++ l.drop (posN i l))) := List.perm_middle
  rwa [List.take_append_drop] at h
theorem putN_le {i : Nat} : ∀ {l : List Nat}, l.Pairwise (· ≤ ·) → (putN i l).Pairwise (· ≤ ·)
  | [], _ => by simp [putN, posN]
  | y :: t, h => by
    rw [putN_cons]
    have h1 := List.pairwise_cons.1 h
    by_cases c : y < i
    · rw [if_pos c]
      refine List.pairwise_cons.2 ⟨fun z hz => ?_, putN_le h1.2⟩
      rcases List.mem_cons.1 ((putN_perm i t).mem_iff.1 hz) with rfl | hz
      · omega
      · exact h1.1 z hz
    · rw [if_neg c]
      refine List.pairwise_cons.2 ⟨fun z hz => ?_, h⟩
      rcases List.mem_cons.1 hz with rfl | hz
      · omega
      · have := h1.1 z hz
        omega
/-- Numbers put in one by one. -/
def srtN (l : List Nat) : List Nat := l.foldl (fun a k => putN k a) []
theorem srtN_len0 : ∀ (l a : List Nat), (l.foldl (fun a k => putN k a) a).Perm (a ++ l)
  | [], a => by simp
  | k :: l, a => by
    simp only [List.foldl_cons]
    refine (srtN_len0 l (putN k a)).trans ?_
    have h := (putN_perm k a).append_right l
    refine h.trans ?_
    exact (List.perm_middle (a := k) (l₁ := a) (l₂ := l)).symm
theorem srtN_perm (l : List Nat) : (srtN l).Perm l := srtN_len0 l []
theorem srtN_le0 : ∀ (l a : List Nat), a.Pairwise (· ≤ ·) → (l.foldl (fun a k => putN k a) a).Pairwise (· ≤ ·)
  | [], a, h => h
  | k :: l, a, h => by simp only [List.foldl_cons]; exact srtN_le0 l _ (putN_le h)
theorem srtN_le (l : List Nat) : (srtN l).Pairwise (· ≤ ·) := srtN_le0 l [] List.Pairwise.nil
theorem srtN_next {l : List Nat} {q k : Nat} (h : l[q]? = some k) : srtN (l.take (q + 1)) = putN k (srtN (l.take q)) := by
  unfold srtN
  rw [List.take_add_one, h, List.foldl_append]
  rfl
theorem srtI_le (l : List Int) : (srtI l).Pairwise (· ≤ ·) := by
  have h := List.pairwise_mergeSort (le := fun x y : Int => decide (x ≤ y)) (fun a b c h1 h2 => by simp at *; omega) (fun a b => by simp; omega) l
  exact h.imp fun hab => by simpa using hab
theorem srtI_nts (l : List Nat) : srtI (nts l) = nts (srtN l) := by
  refine List.Perm.eq_of_pairwise (le := fun a b : Int => a ≤ b) (fun a b _ _ h1 h2 => by omega) (srtI_le _) ?_ ?_
  · unfold nts
    rw [List.pairwise_map]
    exact (srtN_le l).imp fun h => by omega
  · exact (List.mergeSort_perm _ _).trans ((srtN_perm l).map _).symm

/-- Numbers that rise with the same members are the same list. -/
theorem rise_same {l m : List Nat} (hl : l.Pairwise (· < ·)) (hm : m.Pairwise (· < ·)) (h : ∀ x, x ∈ l ↔ x ∈ m) : l = m := by
  have e : ∀ {l : List Nat}, l.Pairwise (· < ·) → Ris (fun a b => decide (a < b)) l := fun h => h.imp fun hab => by simpa using hab
  exact ris_unique (lt := fun a b : Nat => decide (a < b)) (fun a => by simp) (fun h1 h2 => by simp at *; omega) (e hl) (e hm) h

/-- Halving finds where a predicate turns. -/
theorem hal_turn (P : Nat → Bool) : ∀ (n lo hi : Nat), hi - lo ≤ n → lo ≤ hi → (∀ i j, lo ≤ i → i ≤ j → j < hi → P j = true → P i = true) → (∀ k, lo ≤ k → k < (hal P lo hi).1 → P k = true) ∧ (∀ k, (hal P lo hi).1 ≤ k → k < hi → P k = false)
  | 0, lo, hi, hn, hl, _ => by
    rw [hal_done P (by omega)]
    exact ⟨fun k h1 h2 => by simp only at h2; omega, fun k h1 h2 => by simp only at h1; omega⟩
  | n + 1, lo, hi, hn, hl, hm => by
    by_cases h : lo < hi
    · obtain ⟨m, hmm⟩ : ∃ m, m = (lo + hi) / 2 := ⟨_, rfl⟩
      cases hp : P m with
      | true =>
        rw [hal_up P h hmm hp]
        obtain ⟨a, b⟩ := hal_turn P n (m + 1) hi (by omega) (by omega) (fun i j h1 h2 h3 => hm i j (by omega) h2 h3)
        refine ⟨fun k h1 h2 => ?_, b⟩
        by_cases c : k ≤ m
        · exact hm k m h1 c (by omega) hp
        · exact a k (by omega) h2
      | false =>
        rw [hal_down P h hmm hp]
        obtain ⟨a, b⟩ := hal_turn P n lo m (by omega) (by omega) (fun i j h1 h2 h3 => hm i j h1 h2 (by omega))
        refine ⟨a, fun k h1 h2 => ?_⟩
        by_cases c : k < m
        · exact b k h1 c
        · cases hk : P k with
          | false => rfl
          | true => rw [hm m k (by omega) (by omega) h2 hk] at hp; cases hp
    · rw [hal_done P h]
      exact ⟨fun k h1 h2 => by simp only at h2; omega, fun k h1 h2 => by simp only at h1; omega⟩
/-- How often a number may be halved. -/
def halv (n : Nat) : Nat := if h : 0 < n then halv (n / 2) + 1 else 0
termination_by n
decreasing_by omega
theorem halv_zero : halv 0 = 0 := by rw [halv]; simp
theorem halv_pos {n : Nat} (h : 0 < n) : halv n = halv (n / 2) + 1 := by rw [halv, dif_pos h]
theorem halv_mono : ∀ (n a b : Nat), b ≤ n → a ≤ b → halv a ≤ halv b
  | 0, a, b, hb, hab => by
    obtain rfl : a = b := by omega
    exact Nat.le_refl _
  | n + 1, a, b, hb, hab => by
    by_cases h : 0 < a
    · rw [halv_pos h, halv_pos (show 0 < b by omega)]
      have := halv_mono n (a / 2) (b / 2) (by omega) (by omega)
      omega
    · obtain rfl : a = 0 := by omega
      rw [halv_zero]
      exact Nat.zero_le _
theorem halv_le : ∀ n : Nat, halv n ≤ n
  | 0 => by rw [halv_zero]; exact Nat.le_refl _
  | n + 1 => by
    rw [halv_pos (by omega)]
    have := halv_le ((n + 1) / 2)
    omega
theorem hal_looks (P : Nat → Bool) : ∀ (n lo hi : Nat), hi - lo ≤ n → (hal P lo hi).2 ≤ halv (hi - lo)
  | 0, lo, hi, hn => by rw [hal_done P (by omega)]; exact Nat.zero_le _
  | n + 1, lo, hi, hn => by
    by_cases h : lo < hi
    · obtain ⟨m, hmm⟩ : ∃ m, m = (lo + hi) / 2 := ⟨_, rfl⟩
      rw [halv_pos (show 0 < hi - lo by omega)]
      cases hp : P m with
      | true =>
        rw [hal_up P h hmm hp]
        have h1 := hal_looks P n (m + 1) hi (by omega)
        have h2 := halv_mono _ (hi - (m + 1)) ((hi - lo) / 2) (Nat.le_refl _) (by omega)
        simp only
        omega
      | false =>
        rw [hal_down P h hmm hp]
        have h1 := hal_looks P n lo m (by omega)
        have h2 := halv_mono _ (m - lo) ((hi - lo) / 2) (Nat.le_refl _) (by omega)
        simp only
        omega
    · rw [hal_done P h]; exact Nat.zero_le _

/-- Below a text, cut to its length. -/
theorem bl_cut (d p : List UInt8) : bl d p = bl (d.take p.length) p := by
  have h := bl_split p.length d p
  rw [List.drop_length, List.take_length] at h
  cases c : bl (d.take p.length) p with
  | true => exact h.2 (.inl c)
  | false =>
    cases e : bl d p with
    | false => rfl
    | true =>
      rcases h.1 e with h | ⟨_, h⟩
      · rw [c] at h; exact h.symm
      · rw [bl_nil] at h; cases h
/-- Cut alike, the order is kept. -/
theorem bl_cut_le {a b : List UInt8} (k : Nat) (h : bl a b = true) : bl (b.take k) (a.take k) = false := by
  cases c : bl (b.take k) (a.take k) with
  | false => rfl
  | true => have := bl_take k c; rw [bl_asymm h] at this; cases this
theorem bl_le_lt {a b c : List UInt8} (h1 : bl b a = false) (h2 : bl b c = true) : bl a c = true := by
  cases h : bl a b with
  | true => exact bl_trans h h2
  | false => rw [bl_total h h1]; exact h2
theorem bl_lt_le {a b c : List UInt8} (h1 : bl a b = true) (h2 : bl c b = false) : bl a c = true := by
  cases h : bl b c with
  | true => exact bl_trans h1 h
  | false => rw [← bl_total h h2]; exact h1
theorem getD_of {l : List Nat} {k x : Nat} (h : l[k]? = some x) : l.getD k 0 = x := by rw [List.getD_eq_getElem?_getD, h]; rfl
theorem suf_get {t : List UInt8} {k : Nat} (h : k < t.length) : (sufL t)[k]? = some ((sufL t).getD k 0) := by
  rw [List.getD_eq_getElem?_getD, List.getElem?_eq_getElem (by rw [sufL_len]; exact h)]
  rfl
theorem suf_less {t : List UInt8} {i j : Nat} (hij : i < j) (hj : j < t.length) : bl (t.drop ((sufL t).getD i 0)) (t.drop ((sufL t).getD j 0)) = true :=
  (suf_at_lt (suf_get (by omega)) (suf_get hj)).1 hij

/-- Which places are found. -/
theorem found_mem (s p : ByteArray) (hp : 1 ≤ p.size) (x : Nat) : x ∈ foundL s p (sufL (tx s)) ↔ stL (tx s) p.size x = tx p := by
  have hlen : (sufL (tx s)).length = (tx s).length := sufL_len _
  have m1 : ∀ i j, 0 ≤ i → i ≤ j → j < (sufL (tx s)).length → isA1 s p (sufL (tx s)) j = true → isA1 s p (sufL (tx s)) i = true := fun i j _ hij hj h => by
    unfold isA1 at h ⊢
    rcases Nat.lt_or_eq_of_le hij with c | rfl
    · exact bl_trans (suf_less c (by omega)) h
    · exact h
  have m2 : ∀ i j, (find1 s p (sufL (tx s))).1 ≤ i → i ≤ j → j < (sufL (tx s)).length → isA2 s p (sufL (tx s)) j = true → isA2 s p (sufL (tx s)) i = true := fun i j _ hij hj h => by
    unfold isA2 at h ⊢
    rcases Nat.lt_or_eq_of_le hij with c | rfl
    · have h1 : bl (stL (tx s) p.size ((sufL (tx s)).getD j 0)) (stL (tx s) p.size ((sufL (tx s)).getD i 0)) = false := bl_cut_le p.size (suf_less (t := tx s) c (by omega))
      cases e : bl (tx p) (stL (tx s) p.size ((sufL (tx s)).getD i 0)) with
      | false => rfl
      | true => rw [bl_lt_le e h1] at h; cases h
    · exact h
  have b1 := hal_bd (isA1 s p (sufL (tx s))) _ 0 (sufL (tx s)).length (Nat.le_refl _) (Nat.zero_le _)
  have t1 := hal_turn (isA1 s p (sufL (tx s))) _ 0 (sufL (tx s)).length (Nat.le_refl _) (Nat.zero_le _) m1
  have t2 := hal_turn (isA2 s p (sufL (tx s))) _ (find1 s p (sufL (tx s))).1 (sufL (tx s)).length (Nat.le_refl _) b1.2.1 m2
  have b2 := hal_bd (isA2 s p (sufL (tx s))) _ (find1 s p (sufL (tx s))).1 (sufL (tx s)).length (Nat.le_refl _) b1.2.1
  have e1 : hal (isA1 s p (sufL (tx s))) 0 (sufL (tx s)).length = find1 s p (sufL (tx s)) := rfl
  have e2 : hal (isA2 s p (sufL (tx s))) (find1 s p (sufL (tx s))).1 (sufL (tx s)).length = find2 s p (sufL (tx s)) := rfl
  rw [e1] at b1 t1
  rw [e2] at b2 t2
  have key : ∀ k, k < (tx s).length → (stL (tx s) p.size ((sufL (tx s)).getD k 0) = tx p ↔ isA1 s p (sufL (tx s)) k = false ∧ isA2 s p (sufL (tx s)) k = true) := fun k hk => by
    unfold isA1 isA2
    rw [bl_cut]
    show _ ↔ bl (stL (tx s) p.size _) (tx p) = false ∧ _
    constructor
    · intro e
      rw [e, bl_irr]
      exact ⟨rfl, rfl⟩
    · rintro ⟨h1, h2⟩
      exact bl_total h1 (by simpa using h2)
  unfold foundL
  constructor
  · intro hx
    obtain ⟨q, hq⟩ := List.getElem?_of_mem hx
    rw [List.getElem?_drop, List.getElem?_take] at hq
    split at hq
    · rename_i hlt
      have hk : (find1 s p (sufL (tx s))).1 + q < (tx s).length := by omega
      have := (key _ hk).2 ⟨t1.2 _ (by omega) (by omega), t2.1 _ (by omega) hlt⟩
      rwa [getD_of hq] at this
    · cases hq
  · intro hx
    have hxl : x < (tx s).length := by
      rcases Nat.lt_or_ge x (tx s).length with h | h
      · exact h
      · rw [stL_end h] at hx
        have := congrArg List.length hx
        rw [tx_len] at this
        simp at this
        omega
    obtain ⟨k, hk⟩ := suf_pos hxl
    have hkl : k < (tx s).length := by have := (List.getElem?_eq_some_iff.1 hk).1; omega
    have h := (key k hkl).1 (by rw [getD_of hk]; exact hx)
    have g1 : (find1 s p (sufL (tx s))).1 ≤ k := by
      rcases Nat.lt_or_ge k (find1 s p (sufL (tx s))).1 with c | c
      · rw [t1.1 k (Nat.zero_le _) c] at h; cases h.1
      · exact c
    have g2 : k < (find2 s p (sufL (tx s))).1 := by
      rcases Nat.lt_or_ge k (find2 s p (sufL (tx s))).1 with c | c
      · exact c
      · rw [t2.2 k c (by omega)] at h; cases h.2
    refine List.mem_of_getElem? (i := k - (find1 s p (sufL (tx s))).1) ?_
    rw [List.getElem?_drop, List.getElem?_take, show (find1 s p (sufL (tx s))).1 + (k - (find1 s p (sufL (tx s))).1) = k by omega, if_pos g2]
    exact hk
/-- The places of a text, one by one. -/
def placesL (s p : ByteArray) : List Nat := (List.range (s.size + 1 - p.size)).filter fun i => stL (tx s) p.size i == tx p
theorem found_places (s p : ByteArray) (hp : 1 ≤ p.size) : srtN (foundL s p (sufL (tx s))) = placesL s p := by
  have hnd : (sufL (tx s)).Nodup := by
    have h := sufL_ris (tx s)
    exact h.imp fun {a b} hab e => by subst e; rw [ltE_irr] at hab; cases hab
  have hfd : (foundL s p (sufL (tx s))).Nodup := by
    unfold foundL
    exact (hnd.sublist (List.take_sublist _ _)).sublist (List.drop_sublist _ _)
  have hsd : (srtN (foundL s p (sufL (tx s)))).Nodup := (srtN_perm _).nodup_iff.2 hfd
  refine rise_same ?_ ?_ ?_
  · have h1 := srtN_le (foundL s p (sufL (tx s)))
    have h2 : (srtN (foundL s p (sufL (tx s)))).Pairwise (· ≠ ·) := hsd
    exact (h1.and h2).imp fun h => by have := h.1; have := h.2; omega
  · exact List.Pairwise.filter _ List.pairwise_lt_range
  · intro x
    rw [(srtN_perm _).mem_iff, found_mem s p hp]
    unfold placesL
    rw [List.mem_filter, List.mem_range]
    constructor
    · intro h
      refine ⟨?_, by simpa using h⟩
      have := congrArg List.length h
      unfold stL at this
      rw [List.length_take, List.length_drop, tx_len, tx_len] at this
      omega
    · rintro ⟨_, h⟩
      simpa using h
end Go.Proofs.Ytkboblfjchkedaa
