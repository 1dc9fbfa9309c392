/- A path cut at its slashes, and the names that it tells. No program in this text. -/
import Derived.Test.YtjohocnfcnjciaaGreatDoorEsc
namespace Go.Proofs.YtjohocnfcnjciaaGreatDoor

/-- The stretches between slashes. -/
def segs : List UInt8 → List (List UInt8)
  | [] => [[]]
  | b :: r => if b = 47 then [] :: segs r else match segs r with
    | [] => [[b]]
    | g :: gs => (b :: g) :: gs

theorem segs_slash (r : List UInt8) : segs (47 :: r) = [] :: segs r := by rw [segs, if_pos rfl]
theorem segs_end {g : List UInt8} (h : ∀ b ∈ g, b ≠ 47) : segs g = [g] := by
  induction g with
  | nil => rfl
  | cons b r ih => rw [segs, if_neg (h b (by simp)), ih (fun x hx => h x (by simp [hx]))]
theorem segs_more {g : List UInt8} (h : ∀ b ∈ g, b ≠ 47) (t : List UInt8) : segs (g ++ 47 :: t) = g :: segs t := by
  induction g with
  | nil => exact segs_slash t
  | cons b r ih => rw [List.cons_append, segs, if_neg (h b (by simp)), ih (fun x hx => h x (by simp [hx]))]

/-- The first stretch, and what follows it. -/
theorem segs_first (r : List UInt8) : ∃ g, (∀ b ∈ g, b ≠ 47) ∧ ((r = g ∧ segs r = [g]) ∨ ∃ t, r = g ++ 47 :: t ∧ segs r = g :: segs t) := by
  induction r with
  | nil => exact ⟨[], by simp, .inl ⟨rfl, rfl⟩⟩
  | cons b r ih =>
    by_cases hb : b = 47
    · subst hb
      exact ⟨[], by simp, .inr ⟨r, rfl, segs_slash r⟩⟩
    · obtain ⟨g, hg, ⟨rfl, _⟩ | ⟨t, rfl, _⟩⟩ := ih
      · have h' : ∀ x ∈ b :: r, x ≠ 47 := fun x hx => by rcases List.mem_cons.1 hx with rfl | hx; exact hb; exact hg x hx
        exact ⟨b :: r, h', .inl ⟨rfl, segs_end h'⟩⟩
      · have h' : ∀ x ∈ b :: g, x ≠ 47 := fun x hx => by rcases List.mem_cons.1 hx with rfl | hx; exact hb; exact hg x hx
        exact ⟨b :: g, h', .inr ⟨t, rfl, segs_more h' t⟩⟩

theorem segs_none47 (r : List UInt8) : ∀ g ∈ segs r, ∀ b ∈ g, b ≠ 47 := by
  suffices h : ∀ n (r : List UInt8), r.length ≤ n → ∀ g ∈ segs r, ∀ b ∈ g, b ≠ 47 from h _ r (Nat.le_refl _)
  intro n
  induction n with
  | zero =>
    intro r hr g hg b hb
    obtain rfl : r = [] := List.eq_nil_of_length_eq_zero (by omega)
    simp [segs] at hg; subst hg; simp at hb
  | succ n ih =>
    intro r hr
    obtain ⟨g, hg, ⟨rfl, e⟩ | ⟨t, rfl, e⟩⟩ := segs_first r
    · rw [e]; intro x hx; simp at hx; subst hx; exact hg
    · rw [e]
      intro x hx
      rcases List.mem_cons.1 hx with rfl | hx
      · exact hg
      · exact ih t (by simp at hr; omega) x hx

/-- What the library's Cut at a slash says. -/
theorem cut_none {g : List UInt8} (h : ∀ b ∈ g, b ≠ 47) : Lib.cut g [47] = (g, [], false) := by
  have hi : Lib.index g [47] = -1 := Lib.index_none fun j _ => by
    cases hq : Lib.occAt g [47] j with
    | false => rfl
    | true =>
      have := Lib.occAt_head rfl hq
      exact absurd rfl (h 47 (List.mem_of_getElem? this))
  unfold Lib.cut
  rw [hi, if_neg (by decide)]
theorem cut_some {g : List UInt8} (h : ∀ b ∈ g, b ≠ 47) (t : List UInt8) : Lib.cut (g ++ 47 :: t) [47] = (g, t, true) := by
  have hi : Lib.index (g ++ 47 :: t) [47] = (g.length : Int) := Lib.index_first (by simp) (by simp [Lib.occAt, List.isPrefixOf]) fun j hj => by
    cases hq : Lib.occAt (g ++ 47 :: t) [47] j with
    | false => rfl
    | true =>
      have := Lib.occAt_head rfl hq
      rw [List.getElem?_append_left hj] at this
      exact absurd rfl (h 47 (List.mem_of_getElem? this))
  unfold Lib.cut
  rw [hi, if_pos (by omega)]
  simp

def okL (n : List UInt8) : Bool := decide (n.length ≤ 24) && n.all fun c => decide (32 ≤ c.toNat) && decide (c.toNat ≤ 126)

/-- The name that a stretch tells. -/
def prN (g : List UInt8) : Option (List UInt8) := (unesc g).bind fun n => if okL n then some n else none
def allN : List (List UInt8) → Option (List (List UInt8))
  | [] => some []
  | g :: gs => (prN g).bind fun n => (allN gs).map (n :: ·)
def segsOf : List UInt8 → List (List UInt8)
  | [] => []
  | _ :: t => segs t
/-- THE NAMES OF A PATH; none of what is no path. -/
def namesL (s : List UInt8) : Option (List (List UInt8)) := if s.length ≤ 60 ∧ (s = [] ∨ s.head? = some 47) then allN (segsOf s) else none

/-- The program's own test of a stretch. -/
def okP (g : List UInt8) : Bool := okL (readN g) && decide (pesc (readN g) = g)
theorem prN_is {g : List UInt8} (h : ∀ b ∈ g, b ≠ 47) : prN g = if okP g then some (readN g) else none := by
  unfold prN okP
  rw [read_iff g h]
  by_cases e : pesc (readN g) = g
  · rw [if_pos e]
    simp [e]
  · rw [if_neg e]
    simp [e]

theorem unesc_append : ∀ (a b x : List UInt8), unesc a = some x → unesc (a ++ b) = (unesc b).map (x ++ ·)
  | [], b, x, h => by
    simp [unesc] at h; subst h
    rw [List.nil_append]
    cases hb : unesc b <;> simp
  | [p], b, x, h => by
    by_cases hp : p = 126
    · rw [unesc, if_pos hp] at h; exact absurd h (by simp)
    · rw [unesc, if_neg hp] at h
      simp at h; subst h
      cases b with
      | nil => simp [unesc, hp]
      | cons c r =>
        show unesc (p :: c :: r) = _
        rw [unesc, if_neg hp]
        rfl
  | p :: c :: r, b, x, h => by
    rw [unesc] at h
    show unesc (p :: c :: (r ++ b)) = _
    rw [unesc]
    by_cases hp : p = 126
    · rw [if_pos hp] at h ⊢
      by_cases h0 : c = 48
      · rw [if_pos h0] at h ⊢
        obtain ⟨m, hm, rfl⟩ := Option.map_eq_some_iff.1 h
        rw [unesc_append r b m hm]
        cases unesc b <;> simp
      · rw [if_neg h0] at h ⊢
        by_cases h1 : c = 49
        · rw [if_pos h1] at h ⊢
          obtain ⟨m, hm, rfl⟩ := Option.map_eq_some_iff.1 h
          rw [unesc_append r b m hm]
          cases unesc b <;> simp
        · rw [if_neg h1] at h; exact absurd h (by simp)
    · rw [if_neg hp] at h ⊢
      obtain ⟨m, hm, rfl⟩ := Option.map_eq_some_iff.1 h
      have := unesc_append (c :: r) b m hm
      rw [List.cons_append] at this
      rw [this]
      cases unesc b <;> simp

theorem unesc_one {b : UInt8} (h : b ≠ 126) : unesc [b] = some [b] := by rw [unesc, if_neg h]
theorem unesc_t0 : unesc [126, 48] = some [126] := rfl
theorem unesc_t1 : unesc [126, 49] = some [47] := rfl
/-- A sign that stands for nothing. -/
theorem unesc_bad {t : List UInt8} (h : t = [] ∨ ∃ c r, t = c :: r ∧ c ≠ 48 ∧ c ≠ 49) : unesc (126 :: t) = none := by
  rcases h with rfl | ⟨c, r, rfl, h0, h1⟩
  · rfl
  · rw [unesc, if_pos rfl, if_neg h0, if_neg h1]

/-- What the specification has read of a stretch, a step on. -/
theorem read_on {g1 a x y : List UInt8} (h : unesc g1 = some x) (k : unesc a = some y) : unesc (g1 ++ a) = some (x ++ y) := by
  rw [unesc_append g1 a x h, k]; rfl
/-- It has come to a sign that stands for nothing. -/
theorem read_bad {g1 x r3 : List UInt8} (hg : ∀ b ∈ g1, b ≠ 47) (h : unesc g1 = some x) (h3 : r3 = [] ∨ ∃ c r, r3 = c :: r ∧ c ≠ 48 ∧ c ≠ 49) : allN (segs (g1 ++ 126 :: r3)) = none := by
  obtain ⟨g, hg3, hr⟩ := segs_first r3
  have hh : ∀ b ∈ g1 ++ 126 :: g, b ≠ 47 := fun b hb => by
    rcases List.mem_append.1 hb with hb | hb
    · exact hg b hb
    · rcases List.mem_cons.1 hb with rfl | hb
      · decide
      · exact hg3 b hb
  have hbad : prN (g1 ++ 126 :: g) = none := by
    unfold prN
    rw [unesc_append g1 _ x h, unesc_bad]
    · rfl
    · rcases hr with ⟨rfl, _⟩ | ⟨t, rfl, _⟩
      · exact h3
      · cases g with
        | nil => exact .inl rfl
        | cons c r =>
          rcases h3 with h3 | ⟨c', r', e, h0, h1⟩
          · simp at h3
          · simp at e
            exact .inr ⟨c, r, rfl, by rw [e.1]; exact h0, by rw [e.1]; exact h1⟩
  rcases hr with ⟨rfl, _⟩ | ⟨t, rfl, _⟩
  · rw [segs_end hh, allN, hbad]; rfl
  · rw [show g1 ++ 126 :: (g ++ 47 :: t) = (g1 ++ 126 :: g) ++ 47 :: t by simp, segs_more hh, allN, hbad]; rfl
/-- It has come to the stretch's end. -/
theorem read_end {g1 x r3 : List UInt8} (hg : ∀ b ∈ g1, b ≠ 47) (h : unesc g1 = some x) (h3 : r3 = [] ∨ ∃ r, r3 = 47 :: r) : allN (segs (g1 ++ r3)) = if okL x then (allN (segsOf r3)).map (x :: ·) else none := by
  have e : prN g1 = if okL x then some x else none := by unfold prN; rw [h]; rfl
  rcases h3 with rfl | ⟨r, rfl⟩
  · rw [List.append_nil, segs_end hg, allN, e]
    by_cases ok : okL x = true
    · simp [ok, segsOf, allN]
    · simp [ok]
  · rw [segs_more hg, allN, e]
    by_cases ok : okL x = true
    · simp [ok, segsOf]
    · simp [ok]

/-- The pairs that the program's iterator tells. -/
def pairsL (s : List UInt8) : List (List UInt8 × Bool) := if s = [] then [] else if s.head? = some 47 then (segsOf s).map fun g => (readN g, okP g) else [([], false)]

theorem allN_pairs (gs : List (List UInt8)) (h : ∀ g ∈ gs, ∀ b ∈ g, b ≠ 47) : allN gs = if (gs.all okP) then some (gs.map readN) else none := by
  induction gs with
  | nil => rfl
  | cons g gs ih =>
    rw [allN, prN_is (h g (by simp)), ih (fun x hx => h x (by simp [hx]))]
    by_cases o : okP g = true
    · by_cases o2 : gs.all okP = true
      · simp [o, o2]
      · simp [o, o2]
    · simp [o]
theorem names_pairs (s : List UInt8) (h : s.length ≤ 60) : namesL s = if (pairsL s).all (·.2) then some ((pairsL s).map (·.1)) else none := by
  unfold namesL pairsL
  by_cases h0 : s = []
  · subst h0; simp [segsOf, allN]
  · by_cases h1 : s.head? = some 47
    · rw [if_pos ⟨h, .inr h1⟩, if_neg h0, if_pos h1]
      cases s with
      | nil => exact absurd rfl h0
      | cons b t =>
        rw [segsOf, allN_pairs _ (segs_none47 t), List.all_map, List.map_map]
        rfl
    · rw [if_neg (fun k => by rcases k.2 with k | k; exact h0 k; exact h1 k), if_neg h0, if_neg h1]
      rfl

end Go.Proofs.YtjohocnfcnjciaaGreatDoor
