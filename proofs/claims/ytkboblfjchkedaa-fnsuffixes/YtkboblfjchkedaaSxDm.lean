/- How many unlike texts stand in a text: the mathematics. No condition. -/
import Derived.Test.YtkboblfjchkedaaSxFm
import Derived.Test.YtkboblfjchkedaaSxX
namespace Go.Proofs.Ytkboblfjchkedaa
open Go.RowKit Go.Sort
set_option linter.unusedVariables false

theorem com_take : ∀ a b : List UInt8, a.take (com a b) = b.take (com a b)
  | [], b => by simp [com]
  | x :: a, [] => by simp [com]
  | x :: a, y :: b => by
    unfold com
    by_cases h : x = y
    · rw [if_pos h, List.take_succ_cons, List.take_succ_cons, com_take a b, h]
    · rw [if_neg h]; rfl
theorem com_max : ∀ (q : Nat) (a b : List UInt8), q ≤ a.length → q ≤ b.length → a.take q = b.take q → q ≤ com a b
  | 0, a, b, _, _, _ => Nat.zero_le _
  | q + 1, [], b, h, _, _ => by simp at h
  | q + 1, x :: a, [], _, h, _ => by simp at h
  | q + 1, x :: a, y :: b, h1, h2, e => by
    rw [List.take_succ_cons, List.take_succ_cons] at e
    injection e with e1 e2
    unfold com
    rw [if_pos e1]
    have := com_max q a b (by simpa using h1) (by simpa using h2) e2
    omega
/-- Between two texts that begin alike lies none that begins otherwise. -/
theorem mid_take {a b c x : List UInt8} (q : Nat) (h1 : bl b a = false) (h2 : bl c b = false) (ha : a.take q = x) (hc : c.take q = x) : b.take q = x := by
  have e1 : bl (b.take q) (a.take q) = false := by
    cases e : bl (b.take q) (a.take q) with
    | false => rfl
    | true => rw [bl_take q e] at h1; cases h1
  have e2 : bl (c.take q) (b.take q) = false := by
    cases e : bl (c.take q) (b.take q) with
    | false => rfl
    | true => rw [bl_take q e] at h2; cases h2
  rw [ha] at e1
  rw [hc] at e2
  exact bl_total e1 e2
theorem suf_not {t : List UInt8} {i j : Nat} (hij : i ≤ j) (hj : j < t.length) : bl (t.drop ((sufL t).getD j 0)) (t.drop ((sufL t).getD i 0)) = false := by
  rcases Nat.lt_or_eq_of_le hij with c | rfl
  · exact bl_asymm (suf_less c hj)
  · exact bl_irr _
theorem suf_bd {t : List UInt8} {k : Nat} (h : k < t.length) : (sufL t).getD k 0 < t.length := suf_lt (suf_get h)

/-- What the ending of rank p begins with, that none ahead does. -/
def newL (t : List UInt8) (p : Nat) : List (List UInt8) := (List.range (t.length - (sufL t).getD p 0 - comAt t (sufL t) p)).map fun q => (t.drop ((sufL t).getD p 0)).take (comAt t (sufL t) p + 1 + q)
/-- What the first p endings begin with, each once. -/
def allL (t : List UInt8) : Nat → List (List UInt8)
  | 0 => []
  | p + 1 => allL t p ++ newL t p
theorem comAt_bd {t : List UInt8} {p : Nat} (h : p < t.length) : comAt t (sufL t) p + (sufL t).getD p 0 ≤ t.length := by
  have h1 := suf_bd h
  unfold comAt
  split
  · omega
  · have := com_le2 (t.drop ((sufL t).getD (p - 1) 0)) (t.drop ((sufL t).getD p 0))
    rw [List.length_drop] at this
    omega
theorem allL_ok (t : List UInt8) : ∀ p, p ≤ t.length → (allL t p).Nodup ∧ ((allL t p).length : Int) = disI t (sufL t) p ∧ ∀ x, x ∈ allL t p ↔ ∃ i q, i < p ∧ 1 ≤ q ∧ q + (sufL t).getD i 0 ≤ t.length ∧ x = (t.drop ((sufL t).getD i 0)).take q
  | 0, _ => ⟨List.nodup_nil, rfl, fun x => by simp [allL]⟩
  | p + 1, hp => by
    obtain ⟨h1, h2, h3⟩ := allL_ok t p (by omega)
    have hb := comAt_bd (t := t) (p := p) (by omega)
    have hs := suf_bd (t := t) (k := p) (by omega)
    have hlen : ∀ {i q : Nat}, q + i ≤ t.length → ((t.drop i).take q).length = q := fun h => by rw [List.length_take, List.length_drop]; omega
    have hnew : ∀ x, x ∈ newL t p ↔ ∃ q, comAt t (sufL t) p < q ∧ q + (sufL t).getD p 0 ≤ t.length ∧ x = (t.drop ((sufL t).getD p 0)).take q := fun x => by
      unfold newL
      rw [List.mem_map]
      constructor
      · rintro ⟨q, hq, rfl⟩
        rw [List.mem_range] at hq
        exact ⟨comAt t (sufL t) p + 1 + q, by omega, by omega, rfl⟩
      · rintro ⟨q, h1, h2, rfl⟩
        exact ⟨q - comAt t (sufL t) p - 1, List.mem_range.2 (by omega), by rw [show comAt t (sufL t) p + 1 + (q - comAt t (sufL t) p - 1) = q by omega]⟩
    have hcom : ∀ q, 1 ≤ q → q + (sufL t).getD p 0 ≤ t.length → (q ≤ comAt t (sufL t) p ↔ ∃ i, i < p ∧ q + (sufL t).getD i 0 ≤ t.length ∧ (t.drop ((sufL t).getD i 0)).take q = (t.drop ((sufL t).getD p 0)).take q) := fun q hq hql => by
      constructor
      · intro h
        unfold comAt at h
        split at h
        · omega
        · rename_i hp0
          have c1 := com_le1 (t.drop ((sufL t).getD (p - 1) 0)) (t.drop ((sufL t).getD p 0))
          have c2 := com_take (t.drop ((sufL t).getD (p - 1) 0)) (t.drop ((sufL t).getD p 0))
          rw [List.length_drop] at c1
          have hs1 := suf_bd (t := t) (k := p - 1) (by omega)
          refine ⟨p - 1, by omega, by omega, ?_⟩
          have := congrArg (List.take q) c2
          rwa [List.take_take, List.take_take, Nat.min_eq_left h] at this
      · rintro ⟨i, hi, hil, he⟩
        unfold comAt
        rw [if_neg (by omega)]
        have hm : (t.drop ((sufL t).getD (p - 1) 0)).take q = (t.drop ((sufL t).getD p 0)).take q :=
          mid_take q (suf_not (by omega) (by omega)) (suf_not (by omega) (by omega)) he rfl
        refine com_max q _ _ ?_ (by rw [List.length_drop]; omega) hm
        have := congrArg List.length hm
        rw [hlen hql, List.length_take] at this
        omega
    refine ⟨?_, ?_, ?_⟩
    · show (allL t p ++ newL t p).Nodup
      rw [List.nodup_append]
      refine ⟨h1, ?_, ?_⟩
      · unfold newL
        refine List.Pairwise.map _ (R := fun a b : Nat => a ∈ List.range (t.length - (sufL t).getD p 0 - comAt t (sufL t) p) ∧ b ∈ List.range (t.length - (sufL t).getD p 0 - comAt t (sufL t) p) ∧ a ≠ b) ?_ ?_
        · rintro a b ⟨ha, hb', hab⟩ e
          rw [List.mem_range] at ha hb'
          have := congrArg List.length e
          rw [hlen (by omega), hlen (by omega)] at this
          omega
        · exact (List.Pairwise.and_mem.1 (List.nodup_range (n := t.length - (sufL t).getD p 0 - comAt t (sufL t) p))).imp fun h => h
      · intro x hx y hy e
        subst e
        obtain ⟨i, q, hi, hq1, hq2, rfl⟩ := (h3 x).1 hx
        obtain ⟨q', hc, hq3, he⟩ := (hnew _).1 hy
        have hqq : q = q' := by have := congrArg List.length he; rwa [hlen hq2, hlen hq3] at this
        subst hqq
        have := (hcom q hq1 hq3).2 ⟨i, hi, hq2, he⟩
        omega
    · show ((allL t p ++ newL t p).length : Int) = disI t (sufL t) p + _
      rw [← h2, List.length_append]
      unfold newL
      rw [List.length_map, List.length_range]
      omega
    · intro x
      show x ∈ allL t p ++ newL t p ↔ _
      rw [List.mem_append, h3, hnew]
      constructor
      · rintro (⟨i, q, hi, hq⟩ | ⟨q, hc, hq⟩)
        · exact ⟨i, q, by omega, hq⟩
        · exact ⟨p, q, by omega, by omega, hq⟩
      · rintro ⟨i, q, hi, hq1, hq2, rfl⟩
        rcases Nat.lt_or_eq_of_le (show i ≤ p by omega) with c | rfl
        · exact .inl ⟨i, q, c, hq1, hq2, rfl⟩
        · rcases Nat.lt_or_ge (comAt t (sufL t) i) q with c | c
          · exact .inr ⟨q, c, hq2, rfl⟩
          · obtain ⟨i', hi', hl', he⟩ := (hcom q hq1 hq2).1 c
            exact .inl ⟨i', q, hi', hq1, hl', he.symm⟩
theorem nodup_sub {α : Type} [DecidableEq α] : ∀ {l m : List α}, l.Nodup → (∀ x ∈ l, x ∈ m) → l.length ≤ m.length
  | [], m, _, _ => Nat.zero_le _
  | x :: l, m, h, hs => by
    have hx : x ∈ m := hs x (by simp)
    have hn := List.nodup_cons.1 h
    have := nodup_sub (l := l) (m := m.erase x) hn.2 fun y hy => (List.mem_erase_of_ne (fun e : y = x => by subst e; exact hn.1 hy)).2 (hs y (by simp [hy]))
    rw [List.length_erase_of_mem hx] at this
    have : 0 < m.length := List.length_pos_of_mem hx
    simp only [List.length_cons]
    omega
/-- All texts from places ahead of i on, and from i on to ahead of j. -/
def Dis (t : List UInt8) (i j : Nat) (all : List (List UInt8)) : Prop := all.Nodup ∧ ∀ x, x ∈ all ↔ ∃ a b, a < b ∧ b ≤ t.length ∧ (a < i ∨ (a = i ∧ b < j)) ∧ x = (t.drop a).take (b - a)
theorem Dis.start (t : List UInt8) : Dis t 0 1 [] := ⟨List.nodup_nil, fun x => Iff.intro (fun h => by cases h) (fun ⟨a, b, h1, h2, h3, _⟩ => absurd h3 (by omega))⟩
theorem Dis.old {t : List UInt8} {i j : Nat} {all : List (List UInt8)} (h : Dis t i j all) (hj : j ≤ t.length) (hij : i < j) (hx : (t.drop i).take (j - i) ∈ all) : Dis t i (j + 1) all := by
  refine ⟨h.1, fun x => ⟨fun hm => ?_, ?_⟩⟩
  · obtain ⟨a, b, h1, h2, h3, h4⟩ := (h.2 x).1 hm
    exact ⟨a, b, h1, h2, by omega, h4⟩
  · rintro ⟨a, b, h1, h2, h3, rfl⟩
    by_cases c : a = i ∧ b = j
    · rw [c.1, c.2]; exact hx
    · exact (h.2 _).2 ⟨a, b, h1, h2, by omega, rfl⟩
theorem Dis.new {t : List UInt8} {i j : Nat} {all : List (List UInt8)} (h : Dis t i j all) (hj : j ≤ t.length) (hij : i < j) (hx : (t.drop i).take (j - i) ∉ all) : Dis t i (j + 1) (all ++ [(t.drop i).take (j - i)]) := by
  refine ⟨?_, fun x => ?_⟩
  · rw [List.nodup_append]
    refine ⟨h.1, by simp, fun x hm y hy e => ?_⟩
    have : y = (t.drop i).take (j - i) := by simpa using hy
    subst this
    subst e
    exact hx hm
  · rw [List.mem_append, h.2]
    constructor
    · rintro (⟨a, b, h1, h2, h3, h4⟩ | hm)
      · exact ⟨a, b, h1, h2, by omega, h4⟩
      · exact ⟨i, j, hij, hj, by omega, by simpa using hm⟩
    · rintro ⟨a, b, h1, h2, h3, rfl⟩
      by_cases c : a = i ∧ b = j
      · rw [c.1, c.2]; exact .inr (by simp)
      · exact .inl ⟨a, b, h1, h2, by omega, rfl⟩
theorem Dis.row {t : List UInt8} {i : Nat} {all : List (List UInt8)} (h : Dis t i (t.length + 1) all) : Dis t (i + 1) (i + 1 + 1) all := by
  refine ⟨h.1, fun x => ?_⟩
  rw [h.2]
  constructor
  · rintro ⟨a, b, h1, h2, h3, h4⟩; exact ⟨a, b, h1, h2, by omega, h4⟩
  · rintro ⟨a, b, h1, h2, h3, h4⟩; exact ⟨a, b, h1, h2, by omega, h4⟩
theorem Dis.end {t : List UInt8} {j : Nat} {all : List (List UInt8)} (h : Dis t t.length j all) : (all.length : Int) = disI t (sufL t) t.length := by
  obtain ⟨g1, g2, g3⟩ := allL_ok t t.length (Nat.le_refl _)
  have same : ∀ x, x ∈ all ↔ x ∈ allL t t.length := fun x => by
    rw [h.2, g3]
    constructor
    · rintro ⟨a, b, h1, h2, h3, rfl⟩
      obtain ⟨p, hp⟩ := suf_pos (t := t) (i := a) (by omega)
      have hpl : p < t.length := by have := (List.getElem?_eq_some_iff.1 hp).1; rwa [sufL_len] at this
      exact ⟨p, b - a, hpl, by omega, by rw [getD_of hp]; omega, by rw [getD_of hp]⟩
    · rintro ⟨i, q, hi, hq1, hq2, rfl⟩
      exact ⟨(sufL t).getD i 0, (sufL t).getD i 0 + q, by omega, by omega, .inl (suf_bd hi), by rw [show (sufL t).getD i 0 + q - (sufL t).getD i 0 = q by omega]⟩
  have a1 := nodup_sub h.1 fun x hx => (same x).1 hx
  have a2 := nodup_sub g1 fun x hx => (same x).2 hx
  rw [← g2]
  omega
theorem Dis.len {t : List UInt8} {i j : Nat} {all : List (List UInt8)} (h : Dis t i j all) : all.length ≤ (allL t t.length).length := by
  obtain ⟨g1, g2, g3⟩ := allL_ok t t.length (Nat.le_refl _)
  refine nodup_sub h.1 fun x hx => ?_
  obtain ⟨a, b, h1, h2, h3, rfl⟩ := (h.2 x).1 hx
  obtain ⟨p, hp⟩ := suf_pos (t := t) (i := a) (by omega)
  have hpl : p < t.length := by have := (List.getElem?_eq_some_iff.1 hp).1; rwa [sufL_len] at this
  exact (g3 _).2 ⟨p, b - a, hpl, by omega, by rw [getD_of hp]; omega, by rw [getD_of hp]⟩
end Go.Proofs.Ytkboblfjchkedaa
