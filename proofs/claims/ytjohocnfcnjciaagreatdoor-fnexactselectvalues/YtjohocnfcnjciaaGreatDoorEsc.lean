/- Names as they are written in a path: what all replacements of the library make of them, and what is read back. No program in this text. -/
import Derived.Lib.Replace
namespace Go.Proofs.YtjohocnfcnjciaaGreatDoor

theorem rep_eq {old new : List UInt8} (hne : old ≠ new) (s : List UInt8) : Lib.replaceAll s old new = Lib.replaceK old new (Lib.count s old) s := by
  unfold Lib.replaceAll Lib.replace Lib.replaceNum
  rw [if_neg (by simpa using hne), if_pos (Or.inl (by decide))]

theorem rep_nil {old new : List UInt8} (h0 : old ≠ []) (hne : old ≠ new) : Lib.replaceAll [] old new = [] := by
  have hi : Lib.index [] old = -1 := by
    cases old with
    | nil => exact absurd rfl h0
    | cons a t => rfl
  rw [rep_eq hne, Lib.count_miss hi]
  rfl

theorem rep_hit {old new : List UInt8} (h0 : old ≠ []) (hne : old ≠ new) (r : List UInt8) : Lib.replaceAll (old ++ r) old new = new ++ Lib.replaceAll r old new := by
  have hi : Lib.index (old ++ r) old = ((0 : Nat) : Int) := Lib.index_first (Nat.zero_le _) (by simp [Lib.occAt]) (fun j hj => absurd hj (Nat.not_lt_zero j))
  rw [rep_eq hne, rep_eq hne, Lib.count_hit h0 hi, Nat.add_comm, Lib.replaceK_hit _ _ _ _ 0 hi]
  simp

theorem rep_miss {old new : List UInt8} (h0 : old ≠ []) (hne : old ≠ new) (b : UInt8) (l : List UInt8) (hp : old.isPrefixOf (b :: l) = false) : Lib.replaceAll (b :: l) old new = b :: Lib.replaceAll l old new := by
  have hl : 0 < old.length := by cases old with | nil => exact absurd rfl h0 | cons a t => simp
  have hix : Lib.index (b :: l) old = if Lib.index l old == -1 then -1 else Lib.index l old + 1 := by rw [Lib.index, hp]; simp
  rw [rep_eq hne, rep_eq hne]
  by_cases hm : Lib.index l old = -1
  · rw [Lib.count_miss hm, Lib.count_miss (by rw [hix, if_pos (beq_iff_eq.2 hm)])]
    rfl
  · have hge := Lib.index_ge l old
    obtain ⟨j, hj⟩ : ∃ j : Nat, Lib.index l old = j := ⟨(Lib.index l old).toNat, by omega⟩
    have hix' : Lib.index (b :: l) old = ((j + 1 : Nat) : Int) := by rw [hix, if_neg (fun e => hm (beq_iff_eq.1 e)), hj]; omega
    rw [Lib.count_hit h0 hj, Lib.count_hit h0 hix', Nat.add_comm 1, Nat.add_comm 1, Lib.replaceK_hit _ _ _ _ _ hix', Lib.replaceK_hit _ _ _ _ _ hj]
    have e : j + 1 + old.length = (j + old.length) + 1 := by omega
    rw [e]
    simp

/-- A name as it is written in a path. -/
def pesc : List UInt8 → List UInt8
  | [] => []
  | b :: r => (if b = 126 then [126, 48] else if b = 47 then [126, 49] else [b]) ++ pesc r

/-- What is read of what was written; none where a sign of its own is wrong. -/
def unesc : List UInt8 → Option (List UInt8)
  | [] => some []
  | [b] => if b = 126 then none else some [b]
  | b :: c :: r => if b = 126 then (if c = 48 then (unesc r).map (126 :: ·) else if c = 49 then (unesc r).map (47 :: ·) else none) else (unesc (c :: r)).map (b :: ·)

def tilOnly : List UInt8 → List UInt8
  | [] => []
  | b :: r => (if b = 126 then [126, 48] else [b]) ++ tilOnly r

theorem miss1 {a b : UInt8} (t l : List UInt8) (h : a ≠ b) : (a :: t).isPrefixOf (b :: l) = false := by
  simp [List.isPrefixOf, h]

theorem miss2 {a b c : UInt8} (l : List UInt8) (h : b ≠ c) : ([a, b] : List UInt8).isPrefixOf (a :: c :: l) = false := by
  simp [List.isPrefixOf, h]

theorem rep_til (s : List UInt8) : Lib.replaceAll s [126] [126, 48] = tilOnly s := by
  induction s with
  | nil => exact rep_nil (by decide) (by decide)
  | cons b r ih =>
    by_cases h : b = 126
    · subst h
      have := rep_hit (old := [126]) (new := [126, 48]) (by decide) (by decide) r
      simp only [List.cons_append, List.nil_append] at this
      rw [this, ih]
      rfl
    · rw [rep_miss (by decide) (by decide) b r (miss1 _ _ (Ne.symm h)), ih, tilOnly, if_neg h]
      rfl

theorem rep_esc (s : List UInt8) : Lib.replaceAll (tilOnly s) [47] [126, 49] = pesc s := by
  induction s with
  | nil => exact rep_nil (by decide) (by decide)
  | cons b r ih =>
    by_cases h : b = 126
    · subst h
      rw [tilOnly, pesc, if_pos rfl, if_pos rfl]
      simp only [List.cons_append, List.nil_append]
      rw [rep_miss (by decide) (by decide) _ _ (miss1 _ _ (by decide)), rep_miss (by decide) (by decide) _ _ (miss1 _ _ (by decide)), ih]
    · rw [tilOnly, pesc, if_neg h, if_neg h]
      by_cases h2 : b = 47
      · subst h2
        rw [if_pos rfl, rep_hit (old := [47]) (by decide) (by decide), ih]
      · rw [if_neg h2]
        simp only [List.cons_append, List.nil_append]
        rw [rep_miss (by decide) (by decide) _ _ (miss1 _ _ (Ne.symm h2)), ih]

/-- What writeName makes of a name. -/
theorem write_is (s : List UInt8) : Lib.replaceAll (Lib.replaceAll s [126] [126, 48]) [47] [126, 49] = pesc s := by
  rw [rep_til, rep_esc]

theorem rep_til1 (s : List UInt8) : Lib.replaceAll (pesc s) [126, 49] [47] = tilOnly s := by
  induction s with
  | nil => exact rep_nil (by decide) (by decide)
  | cons b r ih =>
    by_cases h : b = 126
    · subst h
      rw [tilOnly, pesc, if_pos rfl, if_pos rfl]
      simp only [List.cons_append, List.nil_append]
      rw [rep_miss (by decide) (by decide) _ _ (miss2 _ (by decide)), rep_miss (by decide) (by decide) _ _ (miss1 _ _ (by decide)), ih]
    · rw [tilOnly, pesc, if_neg h, if_neg h]
      by_cases h2 : b = 47
      · subst h2
        rw [if_pos rfl, rep_hit (old := [126, 49]) (by decide) (by decide), ih]
      · rw [if_neg h2]
        simp only [List.cons_append, List.nil_append]
        rw [rep_miss (by decide) (by decide) _ _ (miss1 _ _ (Ne.symm h)), ih]

theorem rep_til0 (s : List UInt8) : Lib.replaceAll (tilOnly s) [126, 48] [126] = s := by
  induction s with
  | nil => exact rep_nil (by decide) (by decide)
  | cons b r ih =>
    by_cases h : b = 126
    · subst h
      rw [tilOnly, if_pos rfl, rep_hit (old := [126, 48]) (by decide) (by decide), ih]
      rfl
    · rw [tilOnly, if_neg h]
      simp only [List.cons_append, List.nil_append]
      rw [rep_miss (by decide) (by decide) _ _ (miss1 _ _ (Ne.symm h)), ih]

/-- What readName makes of what is written. -/
def readN (s : List UInt8) : List UInt8 := Lib.replaceAll (Lib.replaceAll s [126, 49] [47]) [126, 48] [126]

theorem read_pesc (s : List UInt8) : readN (pesc s) = s := by
  rw [readN, rep_til1, rep_til0]

theorem unesc_esc : ∀ s : List UInt8, unesc (pesc s) = some s := by
  intro s
  induction s with
  | nil => rfl
  | cons b r ih =>
    by_cases h : b = 126
    · subst h
      rw [pesc, if_pos rfl]
      show unesc (126 :: 48 :: pesc r) = _
      rw [unesc, if_pos rfl, if_pos rfl, ih]; rfl
    · rw [pesc, if_neg h]
      by_cases h2 : b = 47
      · subst h2
        rw [if_pos rfl]
        show unesc (126 :: 49 :: pesc r) = _
        rw [unesc, if_pos rfl, if_neg (by decide), if_pos rfl, ih]; rfl
      · rw [if_neg h2]
        show unesc (b :: pesc r) = _
        cases he : pesc r with
        | nil =>
          rw [he] at ih
          rw [unesc, if_neg h]
          simp [unesc] at ih
          simp [ih]
        | cons c t => rw [unesc, if_neg h, ← he, ih]; rfl

theorem pesc_unesc : ∀ (w n : List UInt8), (∀ b ∈ w, b ≠ 47) → unesc w = some n → pesc n = w
  | [], n, _, h => by simp [unesc] at h; subst h; rfl
  | [b], n, hs, h => by
    by_cases hb : b = 126
    · rw [unesc, if_pos hb] at h; exact absurd h (by simp)
    · rw [unesc, if_neg hb] at h
      simp at h; subst h
      have := hs b (by simp)
      simp [pesc, hb, this]
  | b :: c :: r, n, hs, h => by
    rw [unesc] at h
    by_cases hb : b = 126
    · rw [if_pos hb] at h
      by_cases h0 : c = 48
      · rw [if_pos h0] at h
        obtain ⟨m, hm, rfl⟩ := Option.map_eq_some_iff.1 h
        have ih := pesc_unesc r m (fun x hx => hs x (by simp [hx])) hm
        subst hb; subst h0
        rw [pesc, ih]; rfl
      · rw [if_neg h0] at h
        by_cases h1 : c = 49
        · rw [if_pos h1] at h
          obtain ⟨m, hm, rfl⟩ := Option.map_eq_some_iff.1 h
          have ih := pesc_unesc r m (fun x hx => hs x (by simp [hx])) hm
          subst hb; subst h1
          rw [pesc, ih]; rfl
        · rw [if_neg h1] at h; exact absurd h (by simp)
    · rw [if_neg hb] at h
      obtain ⟨m, hm, rfl⟩ := Option.map_eq_some_iff.1 h
      have ih := pesc_unesc (c :: r) m (fun x hx => hs x (by simp only [List.mem_cons] at hx ⊢; exact Or.inr hx)) hm
      have h2 := hs b (by simp)
      rw [pesc, ih, if_neg hb, if_neg h2]; rfl

/-- What is written of a name, and nothing else, reads back as it is written. -/
theorem read_iff (w : List UInt8) (hs : ∀ b ∈ w, b ≠ 47) : unesc w = if pesc (readN w) = w then some (readN w) else none := by
  cases h : unesc w with
  | none =>
    rw [if_neg]
    intro e
    have := unesc_esc (readN w)
    rw [e, h] at this
    exact absurd this (by simp)
  | some n =>
    have e := pesc_unesc w n hs h
    have : readN w = n := by rw [← e, read_pesc]
    rw [this, if_pos e]

theorem pesc_append (a b : List UInt8) : pesc (a ++ b) = pesc a ++ pesc b := by
  induction a with
  | nil => rfl
  | cons x r ih => simp only [List.cons_append, pesc, ih, List.append_assoc]

theorem pesc_length (s : List UInt8) : (pesc s).length ≤ 2 * s.length := by
  induction s with
  | nil => decide
  | cons x r ih =>
    rw [pesc]
    split
    · simp; omega
    · split
      · simp; omega
      · simp; omega

theorem tilOnly_length (s : List UInt8) : (tilOnly s).length ≤ 2 * s.length := by
  induction s with
  | nil => decide
  | cons x r ih =>
    rw [tilOnly]
    split
    · simp; omega
    · simp; omega

end Go.Proofs.YtjohocnfcnjciaaGreatDoor
