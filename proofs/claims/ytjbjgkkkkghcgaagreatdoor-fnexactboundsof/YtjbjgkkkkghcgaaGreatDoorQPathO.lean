/- Names as they are written in a path: what all replacements of the library make of them, and what is read back. No program in this text. A name written into a path: the program's writeName. A path cut at its slashes, and the names that it tells. No program in this text. A name read from what is written in a path: the program's readName. The names of a path, one by one: the program's iterator namesIn. The names of a path: the program's PathOf. -/
import Derived.Lib.Replace
import Derived.Test.YtjbjgkkkkghcgaaGreatDoorText
import Derived.Test.YtjbjgkkkkghcgaaGreatDoorStrs0
import Derived.Test.YtjbjgkkkkghcgaaGreatDoorLib3
import Derived.RangeFuncNested
import Derived.RangeFuncBound
import Derived.RangeFuncCalls
import Derived.RangeFuncLeaves
import Derived.RangeFuncBox
import Derived.Shelf.Abstract
import Derived.Shelf.RegionOpen
import Derived.WalkKit
import Derived.OwnWalkIn
import Derived.TacticsInMore
import Derived.LoopNIn
import Derived.LoopIn
import Derived.Maps.AppendAt
namespace Go.Proofs.YtjbjgkkkkghcgaaGreatDoor

theorem rep_eq {old new : List UInt8} (hne : old ≠ new) (s : List UInt8) : Lib.replaceAll s old new = Lib.replaceK old new (Lib.count s old) s := by
  unfold Lib.replaceAll Lib.replace Lib.replaceNum
  rw [if_neg (by simpa using hne), if_pos (Or.inl (by decide))]

theorem rep_nil {old new : List UInt8} (h0 : old ≠ []) (hne : old ≠ new) : Lib.replaceAll [] old new = [] := by
  have hi : Lib.index [] old = -1 := by
    cases old with
    | nil => exact absurd rfl h0
    | cons a t => rfl
  rw [rep_eq hne, Lib.count_miss hi]
  rfl

theorem rep_hit {old new : List UInt8} (h0 : old ≠ []) (hne : old ≠ new) (r : List UInt8) : Lib.replaceAll (old ++ r) old new = new ++ Lib.replaceAll r old new := by
  have hi : Lib.index (old ++ r) old = ((0 : Nat) : Int) := Lib.index_first (Nat.zero_le _) (by simp [Lib.occAt]) (fun j hj => absurd hj (Nat.not_lt_zero j))
  rw [rep_eq hne, rep_eq hne, Lib.count_hit h0 hi, Nat.add_comm, Lib.replaceK_hit _ _ _ _ 0 hi]
  simp

theorem rep_miss {old new : List UInt8} (h0 : old ≠ []) (hne : old ≠ new) (b : UInt8) (l : List UInt8) (hp : old.isPrefixOf (b :: l) = false) : Lib.replaceAll (b :: l) old new = b :: Lib.replaceAll l old new := by
  have hl : 0 < old.length := by cases old with | nil => exact absurd rfl h0 | cons a t => simp
  have hix : Lib.index (b :: l) old = if Lib.index l old == -1 then -1 else Lib.index l old + 1 := by rw [Lib.index, hp]; simp
  rw [rep_eq hne, rep_eq hne]
  by_cases hm : Lib.index l old = -1
  · rw [Lib.count_miss hm, Lib.count_miss (by rw [hix, if_pos (beq_iff_eq.2 hm)])]
    rfl
  · have hge := Lib.index_ge l old
    obtain ⟨j, hj⟩ : ∃ j : Nat, Lib.index l old = j := ⟨(Lib.index l old).toNat, by omega⟩
    have hix' : Lib.index (b :: l) old = ((j + 1 : Nat) : Int) := by rw [hix, if_neg (fun e => hm (beq_iff_eq.1 e)), hj]; omega
    rw [Lib.count_hit h0 hj, Lib.count_hit h0 hix', Nat.add_comm 1, Nat.add_comm 1, Lib.replaceK_hit _ _ _ _ _ hix', Lib.replaceK_hit _ _ _ _ _ hj]
    have e : j + 1 + old.length = (j + old.length) + 1 := by omega
    rw [e]
    simp

/-- A name as it is written in a path. -/
def pesc : List UInt8 → List UInt8
  | [] => []
  | b :: r => (if b = 126 then [126, 48] else if b = 47 then [126, 49] else [b]) ++ pesc r

/-- What is read of what was written; none where a sign of its own is wrong. -/
def unesc : List UInt8 → Option (List UInt8)
  | [] => some []
  | [b] => if b = 126 then none else some [b]
  | b :: c :: r => if b = 126 then (if c = 48 then (unesc r).map (126 :: ·) else if c = 49 then (unesc r).map (47 :: ·) else none) else (unesc (c :: r)).map (b :: ·)

def tilOnly : List UInt8 → List UInt8
  | [] => []
  | b :: r => (if b = 126 then [126, 48] else [b]) ++ tilOnly r

theorem miss1 {a b : UInt8} (t l : List UInt8) (h : a ≠ b) : (a :: t).isPrefixOf (b :: l) = false := by
  simp [List.isPrefixOf, h]

theorem miss2 {a b c : UInt8} (l : List UInt8) (h : b ≠ c) : ([a, b] : List UInt8).isPrefixOf (a :: c :: l) = false := by
  simp [List.isPrefixOf, h]

theorem rep_til (s : List UInt8) : Lib.replaceAll s [126] [126, 48] = tilOnly s := by
  induction s with
  | nil => exact rep_nil (by decide) (by decide)
  | cons b r ih =>
    by_cases h : b = 126
    · subst h
      have := rep_hit (old := [126]) (new := [126, 48]) (by decide) (by decide) r
      simp only [List.cons_append, List.nil_append] at this
      rw [this, ih]
      rfl
    · rw [rep_miss (by decide) (by decide) b r (miss1 _ _ (Ne.symm h)), ih, tilOnly, if_neg h]
      rfl

theorem rep_esc (s : List UInt8) : Lib.replaceAll (tilOnly s) [47] [126, 49] = pesc s := by
  induction s with
  | nil => exact rep_nil (by decide) (by decide)
  | cons b r ih =>
    by_cases h : b = 126
    · subst h
      rw [tilOnly, pesc, if_pos rfl, if_pos rfl]
      simp only [List.cons_append, List.nil_append]
      rw [rep_miss (by decide) (by decide) _ _ (miss1 _ _ (by decide)), rep_miss (by decide) (by decide) _ _ (miss1 _ _ (by decide)), ih]
    · rw [tilOnly, pesc, if_neg h, if_neg h]
      by_cases h2 : b = 47
      · subst h2
        rw [if_pos rfl, rep_hit (old := [47]) (by decide) (by decide), ih]
      · rw [if_neg h2]
        simp only [List.cons_append, List.nil_append]
        rw [rep_miss (by decide) (by decide) _ _ (miss1 _ _ (Ne.symm h2)), ih]

/-- What writeName makes of a name. -/
theorem write_is (s : List UInt8) : Lib.replaceAll (Lib.replaceAll s [126] [126, 48]) [47] [126, 49] = pesc s := by
  rw [rep_til, rep_esc]

theorem rep_til1 (s : List UInt8) : Lib.replaceAll (pesc s) [126, 49] [47] = tilOnly s := by
  induction s with
  | nil => exact rep_nil (by decide) (by decide)
  | cons b r ih =>
    by_cases h : b = 126
    · subst h
      rw [tilOnly, pesc, if_pos rfl, if_pos rfl]
      simp only [List.cons_append, List.nil_append]
      rw [rep_miss (by decide) (by decide) _ _ (miss2 _ (by decide)), rep_miss (by decide) (by decide) _ _ (miss1 _ _ (by decide)), ih]
    · rw [tilOnly, pesc, if_neg h, if_neg h]
      by_cases h2 : b = 47
      · subst h2
        rw [if_pos rfl, rep_hit (old := [126, 49]) (by decide) (by decide), ih]
      · rw [if_neg h2]
        simp only [List.cons_append, List.nil_append]
        rw [rep_miss (by decide) (by decide) _ _ (miss1 _ _ (Ne.symm h)), ih]

theorem rep_til0 (s : List UInt8) : Lib.replaceAll (tilOnly s) [126, 48] [126] = s := by
  induction s with
  | nil => exact rep_nil (by decide) (by decide)
  | cons b r ih =>
    by_cases h : b = 126
    · subst h
      rw [tilOnly, if_pos rfl, rep_hit (old := [126, 48]) (by decide) (by decide), ih]
      rfl
    · rw [tilOnly, if_neg h]
      simp only [List.cons_append, List.nil_append]
      rw [rep_miss (by decide) (by decide) _ _ (miss1 _ _ (Ne.symm h)), ih]

/-- What readName makes of what is written. -/
def readN (s : List UInt8) : List UInt8 := Lib.replaceAll (Lib.replaceAll s [126, 49] [47]) [126, 48] [126]

theorem read_pesc (s : List UInt8) : readN (pesc s) = s := by
  rw [readN, rep_til1, rep_til0]

theorem unesc_esc : ∀ s : List UInt8, unesc (pesc s) = some s := by
  intro s
  induction s with
  | nil => rfl
  | cons b r ih =>
    by_cases h : b = 126
    · subst h
      rw [pesc, if_pos rfl]
      show unesc (126 :: 48 :: pesc r) = _
      rw [unesc, if_pos rfl, if_pos rfl, ih]; rfl
    · rw [pesc, if_neg h]
      by_cases h2 : b = 47
      · subst h2
        rw [if_pos rfl]
        show unesc (126 :: 49 :: pesc r) = _
        rw [unesc, if_pos rfl, if_neg (by decide), if_pos rfl, ih]; rfl
      · rw [if_neg h2]
        show unesc (b :: pesc r) = _
        cases he : pesc r with
        | nil =>
          rw [he] at ih
          rw [unesc, if_neg h]
          simp [unesc] at ih
          simp [ih]
        | cons c t => rw [unesc, if_neg h, ← he, ih]; rfl

theorem pesc_unesc : ∀ (w n : List UInt8), (∀ b ∈ w, b ≠ 47) → unesc w = some n → pesc n = w
  | [], n, _, h => by simp [unesc] at h; subst h; rfl
  | [b], n, hs, h => by
    by_cases hb : b = 126
    · rw [unesc, if_pos hb] at h; exact absurd h (by simp)
    · rw [unesc, if_neg hb] at h
      simp at h; subst h
      have := hs b (by simp)
      simp [pesc, hb, this]
  | b :: c :: r, n, hs, h => by
    rw [unesc] at h
    by_cases hb : b = 126
    · rw [if_pos hb] at h
      by_cases h0 : c = 48
      · rw [if_pos h0] at h
        obtain ⟨m, hm, rfl⟩ := Option.map_eq_some_iff.1 h
        have ih := pesc_unesc r m (fun x hx => hs x (by simp [hx])) hm
        subst hb; subst h0
        rw [pesc, ih]; rfl
      · rw [if_neg h0] at h
        by_cases h1 : c = 49
        · rw [if_pos h1] at h
          obtain ⟨m, hm, rfl⟩ := Option.map_eq_some_iff.1 h
          have ih := pesc_unesc r m (fun x hx => hs x (by simp [hx])) hm
          subst hb; subst h1
          rw [pesc, ih]; rfl
        · rw [if_neg h1] at h; exact absurd h (by simp)
    · rw [if_neg hb] at h
      obtain ⟨m, hm, rfl⟩ := Option.map_eq_some_iff.1 h
      have ih := pesc_unesc (c :: r) m (fun x hx => hs x (by simp only [List.mem_cons] at hx ⊢; exact Or.inr hx)) hm
      have h2 := hs b (by simp)
      rw [pesc, ih, if_neg hb, if_neg h2]; rfl

/-- What is written of a name, and nothing else, reads back as it is written. -/
theorem read_iff (w : List UInt8) (hs : ∀ b ∈ w, b ≠ 47) : unesc w = if pesc (readN w) = w then some (readN w) else none := by
  cases h : unesc w with
  | none =>
    rw [if_neg]
    intro e
    have := unesc_esc (readN w)
    rw [e, h] at this
    exact absurd this (by simp)
  | some n =>
    have e := pesc_unesc w n hs h
    have : readN w = n := by rw [← e, read_pesc]
    rw [this, if_pos e]

theorem pesc_append (a b : List UInt8) : pesc (a ++ b) = pesc a ++ pesc b := by
  induction a with
  | nil => rfl
  | cons x r ih => simp only [List.cons_append, pesc, ih, List.append_assoc]

theorem pesc_length (s : List UInt8) : (pesc s).length ≤ 2 * s.length := by
  induction s with
  | nil => decide
  | cons x r ih =>
    rw [pesc]
    split
    · simp; omega
    · split
      · simp; omega
      · simp; omega

theorem tilOnly_length (s : List UInt8) : (tilOnly s).length ≤ 2 * s.length := by
  induction s with
  | nil => decide
  | cons x r ih =>
    rw [tilOnly]
    split
    · simp; omega
    · simp; omega

end Go.Proofs.YtjbjgkkkkghcgaaGreatDoor
namespace Go.Proofs.YtjbjgkkkkghcgaaGreatDoor
open Go.RowKit
set_option linter.unusedVariables false

/-- The library's variable for the greatest length holds a whole number. -/
def ML (w : World) : Prop := ∃ m : Int, w.cell? ⟨1, 0, none⟩ = some (.int .i64 m)
theorem ML.below {w w' : World} (h : ML w) (hb : Below w.heap.size w w') : ML w' := by
  obtain ⟨m, hm⟩ := h
  exact ⟨m, (hb.cell (World.block_lt_of_cell? _ _ hm)).trans hm⟩

theorem room (s old new : ByteArray) (h1 : 1 ≤ old.size) (h2 : new.size ≤ 2) (hs : s.size ≤ 2 ^ 30) : s.size + Lib.countB s old * new.size ≤ 140737488355328 := by
  have h := Lib.countB_le old h1 s.size s (Nat.le_refl _)
  have : Lib.countB s old * new.size ≤ s.size * 2 := Nat.mul_le_mul h h2
  omega

/-- The path of names. -/
def pathL (l : List ByteArray) : List UInt8 := l.flatMap fun n => 47 :: pesc n.data.toList
def lst (f : Nat → ByteArray) (n : Nat) : List ByteArray := (List.range n).map f
theorem lst_succ (f : Nat → ByteArray) (k : Nat) : lst f (k + 1) = lst f k ++ [f k] := by simp [lst, List.range_succ]
theorem lst_length (f : Nat → ByteArray) (k : Nat) : (lst f k).length = k := by simp [lst]
theorem pathL_snoc (l : List ByteArray) (x : ByteArray) : pathL (l ++ [x]) = pathL l ++ 47 :: pesc x.data.toList := by simp [pathL]
theorem pathL_succ (f : Nat → ByteArray) (k : Nat) : pathL (lst f (k + 1)) = pathL (lst f k) ++ 47 :: pesc (f k).data.toList := by rw [lst_succ, pathL_snoc]
theorem pathL_mono (f : Nat → ByteArray) {k n : Nat} (h : k ≤ n) : (pathL (lst f k)).length ≤ (pathL (lst f n)).length := by
  induction n with
  | zero => obtain rfl : k = 0 := by omega
            exact Nat.le_refl _
  | succ n ih =>
    by_cases e : k = n + 1
    · subst e; exact Nat.le_refl _
    · rw [pathL_succ, List.length_append]
      have := ih (by omega)
      omega
theorem pathL_bound (f : Nat → ByteArray) (m : Nat) (n : Nat) (h : ∀ i, i < n → (f i).size ≤ m) : (pathL (lst f n)).length ≤ n * (2 * m + 1) := by
  induction n with
  | zero => simp [lst, pathL]
  | succ n ih =>
    rw [pathL_succ, List.length_append, List.length_cons]
    have h1 := ih fun i hi => h i (by omega)
    have h2 := pesc_length (f n).data.toList
    have h3 : (f n).data.toList.length ≤ m := by have := h n (by omega); rwa [Array.length_toList]
    have e : (n + 1) * (2 * m + 1) = n * (2 * m + 1) + (2 * m + 1) := by rw [Nat.add_mul, Nat.one_mul]
    omega

set_option maxHeartbeats 1000000 in
theorem writeName_any (s : ByteArray) (w : World) (hs : s.size ≤ 2 ^ 24) (hm : ML w) :
    Calls Tryz.prog 83 #[.string s] w fun e w' => e = .returned (.string (strL (pesc s.data.toList))) ∧ Below w.heap.size w w' := by
  have HML : Hid (ML w) := hm
  have HT : Hid ((⟨(tilOnly s.data.toList).toArray⟩ : ByteArray).size ≤ 2 ^ 25) := by
    have h1 := tilOnly_length s.data.toList
    have h2 : s.data.toList.length = s.size := Array.length_toList
    have h3 : (strL (tilOnly s.data.toList)).size = (tilOnly s.data.toList).length := strL_size _
    show (strL (tilOnly s.data.toList)).size ≤ _
    omega
  clear hm
  go_enter Tryz.func83, Tryz.ntmps83
  go_wp2_with fail
  obtain ⟨m, hm⟩ := HML.out
  refine (Tryz.strings_ReplaceAll s ⟨#[126]⟩ ⟨#[126, 48]⟩ m _ (by omega) hm (by decide) (room s _ _ (by decide) (by decide) (by omega))).mono ?_
  rintro e w1 ⟨rfl, hb1⟩
  have HB1 : Hid (Below w.heap.size w w1) := hb1
  have HM1 : Hid (ML w1) := HML.out.below hb1
  clear hb1 hm
  rw [show Lib.replaceAll s.data.toList (⟨#[126]⟩ : ByteArray).data.toList (⟨#[126, 48]⟩ : ByteArray).data.toList = tilOnly s.data.toList from rep_til _]
  go_wp2_with fail
  obtain ⟨m1, hm1⟩ := HM1.out
  refine (Tryz.strings_ReplaceAll ⟨(tilOnly s.data.toList).toArray⟩ ⟨#[47]⟩ ⟨#[126, 49]⟩ m1 _ (by have := HT.out; omega) hm1 (by decide) (room _ _ _ (by decide) (by decide) (by have := HT.out; omega))).mono ?_
  rintro e w2 ⟨rfl, hb2⟩
  have HB2 : Hid (Below w.heap.size w w2) := HB1.out.trans (hb2.mono HB1.out.size)
  clear hb2 hm1
  rw [show Lib.replaceAll (⟨(tilOnly s.data.toList).toArray⟩ : ByteArray).data.toList (⟨#[47]⟩ : ByteArray).data.toList (⟨#[126, 49]⟩ : ByteArray).data.toList = pesc s.data.toList from rep_esc _]
  go_wp2
  go_ret
  exact ⟨rfl, HB2.out⟩

theorem ext_one (s : ByteArray) (k : Nat) (h : k < s.size) : s.extract k (k + 1) = strL [s[k]] := by
  apply ByteArray.ext
  simp [strL]
  apply Array.ext'
  have h' : k < s.data.toList.length := by simpa using h
  simp
  rw [List.drop_eq_getElem_cons h']
  simp
  rfl
theorem byte_eq (c : UInt8) (v : Nat) (hv : v < 256) : ((c.toNat : Int) == (v : Int)) = true ↔ c = UInt8.ofNat v := by
  rw [beq_iff_eq]
  constructor
  · intro h
    apply UInt8.toNat.inj
    rw [UInt8.toNat_ofNat']
    omega
  · intro h
    rw [h, UInt8.toNat_ofNat']
    omega

end Go.Proofs.YtjbjgkkkkghcgaaGreatDoor
namespace Go.Proofs.YtjbjgkkkkghcgaaGreatDoor

/-- The stretches between slashes. -/
def segs : List UInt8 → List (List UInt8)
  | [] => [[]]
  | b :: r => if b = 47 then [] :: segs r else match segs r with
    | [] => [[b]]
    | g :: gs => (b :: g) :: gs

theorem segs_slash (r : List UInt8) : segs (47 :: r) = [] :: segs r := by rw [segs, if_pos rfl]
theorem segs_end {g : List UInt8} (h : ∀ b ∈ g, b ≠ 47) : segs g = [g] := by
  induction g with
  | nil => rfl
  | cons b r ih => rw [segs, if_neg (h b (by simp)), ih (fun x hx => h x (by simp [hx]))]
theorem segs_more {g : List UInt8} (h : ∀ b ∈ g, b ≠ 47) (t : List UInt8) : segs (g ++ 47 :: t) = g :: segs t := by
  induction g with
  | nil => exact segs_slash t
  | cons b r ih => rw [List.cons_append, segs, if_neg (h b (by simp)), ih (fun x hx => h x (by simp [hx]))]

/-- The first stretch, and what follows it. -/
theorem segs_first (r : List UInt8) : ∃ g, (∀ b ∈ g, b ≠ 47) ∧ ((r = g ∧ segs r = [g]) ∨ ∃ t, r = g ++ 47 :: t ∧ segs r = g :: segs t) := by
  induction r with
  | nil => exact ⟨[], by simp, .inl ⟨rfl, rfl⟩⟩
  | cons b r ih =>
    by_cases hb : b = 47
    · subst hb
      exact ⟨[], by simp, .inr ⟨r, rfl, segs_slash r⟩⟩
    · obtain ⟨g, hg, ⟨rfl, _⟩ | ⟨t, rfl, _⟩⟩ := ih
      · have h' : ∀ x ∈ b :: r, x ≠ 47 := fun x hx => by rcases List.mem_cons.1 hx with rfl | hx; exact hb; exact hg x hx
        exact ⟨b :: r, h', .inl ⟨rfl, segs_end h'⟩⟩
      · have h' : ∀ x ∈ b :: g, x ≠ 47 := fun x hx => by rcases List.mem_cons.1 hx with rfl | hx; exact hb; exact hg x hx
        exact ⟨b :: g, h', .inr ⟨t, rfl, segs_more h' t⟩⟩

theorem segs_none47 (r : List UInt8) : ∀ g ∈ segs r, ∀ b ∈ g, b ≠ 47 := by
  suffices h : ∀ n (r : List UInt8), r.length ≤ n → ∀ g ∈ segs r, ∀ b ∈ g, b ≠ 47 from h _ r (Nat.le_refl _)
  intro n
  induction n with
  | zero =>
    intro r hr g hg b hb
    obtain rfl : r = [] := List.eq_nil_of_length_eq_zero (by omega)
    simp [segs] at hg; subst hg; simp at hb
  | succ n ih =>
    intro r hr
    obtain ⟨g, hg, ⟨rfl, e⟩ | ⟨t, rfl, e⟩⟩ := segs_first r
    · rw [e]; intro x hx; simp at hx; subst hx; exact hg
    · rw [e]
      intro x hx
      rcases List.mem_cons.1 hx with rfl | hx
      · exact hg
      · exact ih t (by simp at hr; omega) x hx

/-- What the library's Cut at a slash says. -/
theorem cut_none {g : List UInt8} (h : ∀ b ∈ g, b ≠ 47) : Lib.cut g [47] = (g, [], false) := by
  have hi : Lib.index g [47] = -1 := Lib.index_none fun j _ => by
    cases hq : Lib.occAt g [47] j with
    | false => rfl
    | true =>
      have := Lib.occAt_head rfl hq
      exact absurd rfl (h 47 (List.mem_of_getElem? this))
  unfold Lib.cut
  rw [hi, if_neg (by decide)]
theorem cut_some {g : List UInt8} (h : ∀ b ∈ g, b ≠ 47) (t : List UInt8) : Lib.cut (g ++ 47 :: t) [47] = (g, t, true) := by
  have hi : Lib.index (g ++ 47 :: t) [47] = (g.length : Int) := Lib.index_first (by simp) (by simp [Lib.occAt, List.isPrefixOf]) fun j hj => by
    cases hq : Lib.occAt (g ++ 47 :: t) [47] j with
    | false => rfl
    | true =>
      have := Lib.occAt_head rfl hq
      rw [List.getElem?_append_left hj] at this
      exact absurd rfl (h 47 (List.mem_of_getElem? this))
  unfold Lib.cut
  rw [hi, if_pos (by omega)]
  simp

def okL (n : List UInt8) : Bool := decide (n.length ≤ 24) && n.all fun c => decide (32 ≤ c.toNat) && decide (c.toNat ≤ 126)

/-- The name that a stretch tells. -/
def prN (g : List UInt8) : Option (List UInt8) := (unesc g).bind fun n => if okL n then some n else none
def allN : List (List UInt8) → Option (List (List UInt8))
  | [] => some []
  | g :: gs => (prN g).bind fun n => (allN gs).map (n :: ·)
def segsOf : List UInt8 → List (List UInt8)
  | [] => []
  | _ :: t => segs t
/-- THE NAMES OF A PATH; none of what is no path. -/
def namesL (s : List UInt8) : Option (List (List UInt8)) := if s.length ≤ 60 ∧ (s = [] ∨ s.head? = some 47) then allN (segsOf s) else none

/-- The program's own test of a stretch. -/
def okP (g : List UInt8) : Bool := okL (readN g) && decide (pesc (readN g) = g)
theorem prN_is {g : List UInt8} (h : ∀ b ∈ g, b ≠ 47) : prN g = if okP g then some (readN g) else none := by
  unfold prN okP
  rw [read_iff g h]
  by_cases e : pesc (readN g) = g
  · rw [if_pos e]
    simp [e]
  · rw [if_neg e]
    simp [e]

theorem unesc_append : ∀ (a b x : List UInt8), unesc a = some x → unesc (a ++ b) = (unesc b).map (x ++ ·)
  | [], b, x, h => by
    simp [unesc] at h; subst h
    rw [List.nil_append]
    cases hb : unesc b <;> simp
  | [p], b, x, h => by
    by_cases hp : p = 126
    · rw [unesc, if_pos hp] at h; exact absurd h (by simp)
    · rw [unesc, if_neg hp] at h
      simp at h; subst h
      cases b with
      | nil => simp [unesc, hp]
      | cons c r =>
        show unesc (p :: c :: r) = _
        rw [unesc, if_neg hp]
        rfl
  | p :: c :: r, b, x, h => by
    rw [unesc] at h
    show unesc (p :: c :: (r ++ b)) = _
    rw [unesc]
    by_cases hp : p = 126
    · rw [if_pos hp] at h ⊢
      by_cases h0 : c = 48
      · rw [if_pos h0] at h ⊢
        obtain ⟨m, hm, rfl⟩ := Option.map_eq_some_iff.1 h
        rw [unesc_append r b m hm]
        cases unesc b <;> simp
      · rw [if_neg h0] at h ⊢
        by_cases h1 : c = 49
        · rw [if_pos h1] at h ⊢
          obtain ⟨m, hm, rfl⟩ := Option.map_eq_some_iff.1 h
          rw [unesc_append r b m hm]
          cases unesc b <;> simp
        · rw [if_neg h1] at h; exact absurd h (by simp)
    · rw [if_neg hp] at h ⊢
      obtain ⟨m, hm, rfl⟩ := Option.map_eq_some_iff.1 h
      have := unesc_append (c :: r) b m hm
      rw [List.cons_append] at this
      rw [this]
      cases unesc b <;> simp

theorem unesc_one {b : UInt8} (h : b ≠ 126) : unesc [b] = some [b] := by rw [unesc, if_neg h]
theorem unesc_t0 : unesc [126, 48] = some [126] := rfl
theorem unesc_t1 : unesc [126, 49] = some [47] := rfl
/-- A sign that stands for nothing. -/
theorem unesc_bad {t : List UInt8} (h : t = [] ∨ ∃ c r, t = c :: r ∧ c ≠ 48 ∧ c ≠ 49) : unesc (126 :: t) = none := by
  rcases h with rfl | ⟨c, r, rfl, h0, h1⟩
  · rfl
  · rw [unesc, if_pos rfl, if_neg h0, if_neg h1]

/-- What the specification has read of a stretch, a step on. -/
theorem read_on {g1 a x y : List UInt8} (h : unesc g1 = some x) (k : unesc a = some y) : unesc (g1 ++ a) = some (x ++ y) := by
  rw [unesc_append g1 a x h, k]; rfl
/-- It has come to a sign that stands for nothing. -/
theorem read_bad {g1 x r3 : List UInt8} (hg : ∀ b ∈ g1, b ≠ 47) (h : unesc g1 = some x) (h3 : r3 = [] ∨ ∃ c r, r3 = c :: r ∧ c ≠ 48 ∧ c ≠ 49) : allN (segs (g1 ++ 126 :: r3)) = none := by
  obtain ⟨g, hg3, hr⟩ := segs_first r3
  have hh : ∀ b ∈ g1 ++ 126 :: g, b ≠ 47 := fun b hb => by
    rcases List.mem_append.1 hb with hb | hb
    · exact hg b hb
    · rcases List.mem_cons.1 hb with rfl | hb
      · decide
      · exact hg3 b hb
  have hbad : prN (g1 ++ 126 :: g) = none := by
    unfold prN
    rw [unesc_append g1 _ x h, unesc_bad]
    · rfl
    · rcases hr with ⟨rfl, _⟩ | ⟨t, rfl, _⟩
      · exact h3
      · cases g with
        | nil => exact .inl rfl
        | cons c r =>
          rcases h3 with h3 | ⟨c', r', e, h0, h1⟩
          · simp at h3
          · simp at e
            exact .inr ⟨c, r, rfl, by rw [e.1]; exact h0, by rw [e.1]; exact h1⟩
  rcases hr with ⟨rfl, _⟩ | ⟨t, rfl, _⟩
  · rw [segs_end hh, allN, hbad]; rfl
  · rw [show g1 ++ 126 :: (g ++ 47 :: t) = (g1 ++ 126 :: g) ++ 47 :: t by simp, segs_more hh, allN, hbad]; rfl
/-- It has come to the stretch's end. -/
theorem read_end {g1 x r3 : List UInt8} (hg : ∀ b ∈ g1, b ≠ 47) (h : unesc g1 = some x) (h3 : r3 = [] ∨ ∃ r, r3 = 47 :: r) : allN (segs (g1 ++ r3)) = if okL x then (allN (segsOf r3)).map (x :: ·) else none := by
  have e : prN g1 = if okL x then some x else none := by unfold prN; rw [h]; rfl
  rcases h3 with rfl | ⟨r, rfl⟩
  · rw [List.append_nil, segs_end hg, allN, e]
    by_cases ok : okL x = true
    · simp [ok, segsOf, allN]
    · simp [ok]
  · rw [segs_more hg, allN, e]
    by_cases ok : okL x = true
    · simp [ok, segsOf]
    · simp [ok]

/-- The pairs that the program's iterator tells. -/
def pairsL (s : List UInt8) : List (List UInt8 × Bool) := if s = [] then [] else if s.head? = some 47 then (segsOf s).map fun g => (readN g, okP g) else [([], false)]

theorem allN_pairs (gs : List (List UInt8)) (h : ∀ g ∈ gs, ∀ b ∈ g, b ≠ 47) : allN gs = if (gs.all okP) then some (gs.map readN) else none := by
  induction gs with
  | nil => rfl
  | cons g gs ih =>
    rw [allN, prN_is (h g (by simp)), ih (fun x hx => h x (by simp [hx]))]
    by_cases o : okP g = true
    · by_cases o2 : gs.all okP = true
      · simp [o, o2]
      · simp [o, o2]
    · simp [o]
theorem names_pairs (s : List UInt8) (h : s.length ≤ 60) : namesL s = if (pairsL s).all (·.2) then some ((pairsL s).map (·.1)) else none := by
  unfold namesL pairsL
  by_cases h0 : s = []
  · subst h0; simp [segsOf, allN]
  · by_cases h1 : s.head? = some 47
    · rw [if_pos ⟨h, .inr h1⟩, if_neg h0, if_pos h1]
      cases s with
      | nil => exact absurd rfl h0
      | cons b t =>
        rw [segsOf, allN_pairs _ (segs_none47 t), List.all_map, List.map_map]
        rfl
    · rw [if_neg (fun k => by rcases k.2 with k | k; exact h0 k; exact h1 k), if_neg h0, if_neg h1]
      rfl

end Go.Proofs.YtjbjgkkkkghcgaaGreatDoor
namespace Go.Proofs.YtjbjgkkkkghcgaaGreatDoor
open Go.RowKit
set_option linter.unusedVariables false

set_option maxHeartbeats 1000000 in
theorem clone_any (s : ByteArray) (w : World) (h : s.size ≤ 2 ^ 40) : Calls Tryz.prog 82 #[.string s] w fun e w' => e = .returned (.string s) ∧ Below w.heap.size w w' := by
  go_enter Tryz.func82, Tryz.ntmps82
  go_wp2_with fail
  refine (Tryz.stringslite_Clone s _ (by omega)).mono ?_
  rintro e w1 ⟨rfl, hb1⟩
  have HB : Hid (Below w.heap.size w w1) := hb1
  clear hb1
  go_wp2
  go_ret
  exact ⟨rfl, HB.out⟩

theorem plain_okL (n : List UInt8) : plainB (strL n) = okL n := by
  unfold plainB okL plainTo
  rw [strL_size]
  congr 1
  show ((List.toArray n).toList.take n.length).all okByte = _
  rw [List.toList_toArray, List.take_length]
  rfl

theorem rep_len {old new : List UInt8} (h0 : old ≠ []) (hne : old ≠ new) (hl : new.length ≤ old.length) : ∀ (k : Nat) (s : List UInt8), s.length ≤ k → (Lib.replaceAll s old new).length ≤ s.length := by
  intro k
  induction k with
  | zero =>
    intro s hs
    obtain rfl : s = [] := List.eq_nil_of_length_eq_zero (by omega)
    rw [rep_nil h0 hne]
    exact Nat.le_refl _
  | succ k ih =>
    intro s hs
    cases hp : old.isPrefixOf s with
    | true =>
      obtain ⟨r, rfl⟩ := List.isPrefixOf_iff_prefix.1 hp
      have hpos : 0 < old.length := by cases old with | nil => exact absurd rfl h0 | cons a t => simp
      rw [rep_hit h0 hne, List.length_append, List.length_append]
      rw [List.length_append] at hs
      have := ih r (by omega)
      omega
    | false =>
      cases s with
      | nil => rw [rep_nil h0 hne]; exact Nat.le_refl _
      | cons b l =>
        rw [rep_miss h0 hne b l hp, List.length_cons, List.length_cons]
        simp at hs
        have := ih l hs
        omega
theorem mid_len (s : List UInt8) : (Lib.replaceAll s [126, 49] [47]).length ≤ s.length := rep_len (by decide) (by decide) (by decide) _ s (Nat.le_refl _)
theorem readN_len (s : List UInt8) : (readN s).length ≤ s.length :=
  Nat.le_trans (rep_len (by decide) (by decide) (by decide) _ _ (Nat.le_refl _)) (mid_len s)

theorem eq_lists (a b : ByteArray) : (a.toList == b.toList) = decide (a.data.toList = b.data.toList) := by
  rw [Lib.toList_data, Lib.toList_data]
  rw [Bool.eq_iff_iff]
  simp

set_option maxRecDepth 100000 in
set_option maxHeartbeats 1000000 in
theorem readName_any (g : ByteArray) (w : World) (hs : g.size ≤ 2 ^ 20) (hm : ML w) :
    Calls Tryz.prog 67 #[.string g] w fun e w' => e = .returned (.tuple #[.string (strL (readN g.data.toList)), .bool (okP g.data.toList)]) ∧ Below w.heap.size w w' := by
  have HML : Hid (ML w) := hm
  have hl : g.data.toList.length = g.size := Array.length_toList
  have H1 : Hid ((strL (Lib.replaceAll g.data.toList [126, 49] [47])).size ≤ 2 ^ 20) := by
    show _ ≤ _
    rw [strL_size]
    have := mid_len g.data.toList
    omega
  have H2 : Hid ((strL (readN g.data.toList)).size ≤ 2 ^ 20) := by
    show _ ≤ _
    rw [strL_size]
    have := readN_len g.data.toList
    omega
  clear hm hl
  go_enter Tryz.func67, Tryz.ntmps67
  go_wp2_with fail
  obtain ⟨m, hm⟩ := HML.out
  refine (Tryz.strings_ReplaceAll g ⟨#[126, 49]⟩ ⟨#[47]⟩ m _ (by omega) hm (by decide) (room _ _ _ (by decide) (by decide) (by omega))).mono ?_
  rintro e w1 ⟨rfl, hb1⟩
  have HB1 : Hid (Below w.heap.size w w1) := hb1
  have HM1 : Hid (ML w1) := HML.out.below hb1
  clear hb1 hm
  go_wp2_with fail
  obtain ⟨m1, hm1⟩ := HM1.out
  refine (Tryz.strings_ReplaceAll (strL (Lib.replaceAll g.data.toList [126, 49] [47])) ⟨#[126, 48]⟩ ⟨#[126]⟩ m1 _ (by have := H1.out; omega) hm1 (by decide) (room _ _ _ (by decide) (by decide) (by have := H1.out; omega))).mono ?_
  rintro e w2 ⟨rfl, hb2⟩
  have HB2 : Hid (Below w.heap.size w w2) := HB1.out.trans (hb2.mono HB1.out.size)
  have HM2 : Hid (ML w2) := HM1.out.below hb2
  clear hb2 hm1
  rw [show (⟨(Lib.replaceAll (strL (Lib.replaceAll g.data.toList [126, 49] [47])).data.toList (⟨#[126, 48]⟩ : ByteArray).data.toList (⟨#[126]⟩ : ByteArray).data.toList).toArray⟩ : ByteArray) = strL (readN g.data.toList) from rfl]
  go_wp2_with fail
  refine (clone_any _ _ (by have := H2.out; omega)).mono ?_
  rintro e w3 ⟨rfl, hb3⟩
  have HB3 : Hid (Below w.heap.size w w3) := HB2.out.trans (hb3.mono HB2.out.size)
  have HM3 : Hid (ML w3) := HM2.out.below hb3
  clear hb3
  go_wp2_with fail
  refine (isPlain_any _ _ (by have := H2.out; omega)).mono ?_
  rintro e w0 ⟨rfl, hw0⟩
  have hw := hw0.symm
  subst hw
  clear hw0
  cases hpl : plainB (strL (readN g.data.toList)) with
  | false =>
    have HO : Hid (okP g.data.toList = false) := by show _ = _; unfold okP; rw [← plain_okL, hpl]; rfl
    go_wp2
    exact bodyPost_ret (v := .tuple #[.string (strL (readN g.data.toList)), .bool false]) (by simp [results, Tryz.results67, go_sem]) rfl ⟨by rw [HO.out], HB3.out⟩
  | true =>
    have HO : Hid (okP g.data.toList = decide (pesc (readN g.data.toList) = g.data.toList)) := by show _ = _; unfold okP; rw [← plain_okL, hpl, Bool.true_and]
    go_wp2_with fail
    refine (writeName_any _ _ (by have := H2.out; omega) HM3.out).mono ?_
    rintro e w4 ⟨rfl, hb4⟩
    have HB4 : Hid (Below w.heap.size w w4) := HB3.out.trans (hb4.mono HB3.out.size)
    clear hb4
    go_wp2
    exact bodyPost_ret (v := .tuple #[.string (strL (readN g.data.toList)), .bool ((strL (pesc (strL (readN g.data.toList)).data.toList)).toList == g.toList)]) (by simp [results, Tryz.results67, go_sem]) rfl ⟨by rw [HO.out, eq_lists]; rfl, HB4.out⟩

end Go.Proofs.YtjbjgkkkkghcgaaGreatDoor
namespace Go.Proofs.YtjbjgkkkkghcgaaGreatDoor
open Go.RowKit Go.Shelf
set_option linter.unusedVariables false
attribute [local go_sem] Oper.semAt_some

theorem grow_of {W W' : World} (h : Below W.heap.size W W') : W.grownBy W' none := ⟨h.os, h.tape, h.output, h.size, fun k hk _ => h.block k hk⟩
theorem abide_on {β : Type} {B : Nat} {J : β → World → Prop} (h : AbidesFrom B J) {s : β} {W W' : World} (hs : J s W) (hb : Below W.heap.size W W') : J s W' :=
  h s W W' none hs (grow_of hb) (fun r e => by cases e)

/-- What the iterator hands on: a name, and whether it is one. -/
def encNB (x : List UInt8 × Bool) : Array Value := #[.string (strL x.1), .bool x.2]

/-- How much is still to come, read off the slots. -/
def strSz : Value → Nat
  | .string s => s.size
  | _ => 0
def boolN : Value → Nat
  | .bool true => 1
  | _ => 0

def pairOf (g : List UInt8) : List UInt8 × Bool := (readN g, okP g)

theorem prefix_snoc {α : Type} {a b : List α} {x : α} {r : List α} (h : b = a ++ x :: r) : a ++ [x] <+: b := ⟨r, by rw [h]; simp⟩

set_option maxRecDepth 100000 in
set_option maxHeartbeats 2000000 in
theorem namesIn1_in (n l Bs n₀ : Nat) (s : List UInt8) (hn : 1 ≤ n) (hlen : s.length ≤ 60) (J Jx : List (List UInt8 × Bool) → World → Prop)
    (hY : ∀ pre x W1, J pre W1 → pre.length < 61 → YieldAt Fence.wide (n - 1) Tryz.prog l (encNB x) W1 fun e W' =>
      (e = .returned (.bool true) ∧ J (pre ++ [x]) W' ∧ Below n₀ W1 W') ∨ (e = .returned (.bool false) ∧ Jx (pre ++ [x]) W'))
    (W : World) (hJ : AbidesFrom W.heap.size J) (hBs : W.cell? ⟨Bs, 0, none⟩ = some (.string (strL s))) (hml : ML W) (hg : 1 < n₀) (hn0 : n₀ ≤ W.heap.size) (h0 : J [] W) :
    CallsIn Fence.wide n Tryz.prog 64 #[.func (.yield l) #[] #[], .pointer (some ⟨Bs, 0, none⟩)] W fun e W' => (∃ v, e = .returned v) ∧
      ((∃ ys, ys = pairsL s ∧ J ys W') ∨ (∃ pre, pre <+: pairsL s ∧ Jx pre W')) := by
  have HML : Hid (ML W) := hml
  have HL : Hid (∀ W', Below n₀ W W' → ML W') := fun W' hb => by
    obtain ⟨m, hm⟩ := HML.out
    exact ⟨m, (hb.cell hg).trans hm⟩
  clear hml
  refine callsIn_of_wp Tryz.func64 rfl trivial ?_ rfl
  simp only [Tryz.ntmps64, List.size_toArray, List.length_cons, List.length_nil, Nat.reduceAdd, Nat.reduceSub, Array.replicate_succ, Array.replicate_zero, List.push_toArray, List.append_toArray, List.nil_append, List.cons_append]
  by_cases hs0 : s = []
  · subst hs0
    have he : (strL []).toList.isEmpty = true := by rw [Lib.toList_data]; rfl
    gi_wp2
    refine bodyPost_ret (results_none rfl _ _ _) rfl ?_
    exact ⟨⟨_, rfl⟩, .inl ⟨[], rfl, h0⟩⟩
  have he : (strL s).toList.isEmpty = false := by
    rw [Lib.toList_data]
    cases s with
    | nil => exact absurd rfl hs0
    | cons b t => rfl
  by_cases h47 : s.head? = some 47
  · obtain ⟨t, rfl⟩ : ∃ t, s = 47 :: t := by
      cases s with
      | nil => exact absurd rfl hs0
      | cons b t => exact ⟨t, by simp at h47; rw [h47]⟩
    have HPR : Hid (pairsL (47 :: t) = (segs t).map pairOf) := by
      show _ = _
      unfold pairsL
      rw [if_neg hs0, if_pos h47]
      rfl
    gi_wp2_with fail
    refine ⟨trivial, (callsIn_wide.2 (Tryz.strings_CutPrefix (strL (47 :: t)) ⟨#[47]⟩ _)).mono ?_⟩
    rintro e w0 ⟨rfl, hw0⟩
    have hw := hw0.symm
    subst hw
    clear hw0
    rw [show Lib.hasPrefix (strL (47 :: t)).data.toList (⟨#[47]⟩ : ByteArray).data.toList = true from by simp [Lib.hasPrefix, strL, List.isPrefixOf], show (⟨(Lib.trimPrefix (strL (47 :: t)).data.toList (⟨#[47]⟩ : ByteArray).data.toList).toArray⟩ : ByteArray) = strL t from by simp [Lib.trimPrefix, Lib.hasPrefix, strL, List.isPrefixOf]]
    clear h47 he hs0
    have hlt : t.length ≤ 59 := by simpa using hlen
    gi_wp2_with fail
    gi_loopw [3, 4] (fun r m wr => ∃ (done : List (List UInt8 × Bool)) (u : List UInt8) (mo : Bool), r = .string (strL u) ∧ m = .bool mo ∧ done.length + (if mo then u.length + 1 else 0) ≤ 60 ∧ Hid ((segs t).map pairOf = done ++ (if mo then (segs u).map pairOf else []) ∧ J done wr ∧ Below n₀ W wr))
      (fun r m _ => boolN m * (strSz r + 1))
    case atStart => exact ⟨[], t, true, rfl, rfl, by simp; omega, by simp, h0, Below.refl _ _⟩
    case round =>
      obtain ⟨done, u, mo, rfl, rfl, hl, HR⟩ := hrel
      cases mo with
      | false =>
        gi_wp2
        go_end0
        obtain ⟨h1, h2, h3⟩ := HR.out
        exact ⟨⟨_, rfl⟩, .inl ⟨done, by rw [HPR.out, h1]; simp, h2⟩⟩
      | true =>
        have hl' : done.length + (u.length + 1) ≤ 60 := by simpa using hl
        obtain ⟨g, hg47, hu⟩ := segs_first u
        obtain ⟨c2, c3, HC, HU, hc2⟩ : ∃ (c2 : List UInt8) (c3 : Bool), Hid (Lib.cut u [47] = (g, c2, c3)) ∧ Hid ((segs u).map pairOf = pairOf g :: (if c3 then (segs c2).map pairOf else [])) ∧ g.length + (if c3 then c2.length + 1 else 0) ≤ u.length := by
          rcases hu with ⟨rfl, e⟩ | ⟨v, rfl, e⟩
          · exact ⟨[], false, cut_none hg47, by show _ = _; rw [e]; rfl, by simp⟩
          · exact ⟨v, true, cut_some hg47 v, by show _ = _; rw [e]; rfl, by simp⟩
        have HB0 : Hid (Below n₀ W wr) := HR.out.2.2
        have HM0 : Hid (ML wr) := HL.out wr HB0.out
        clear hu hl
        gi_wp2_with fail
        obtain ⟨m, hm⟩ := HM0.out
        refine ⟨trivial, (callsIn_wide.2 (Tryz.strings_Cut (strL u) ⟨#[47]⟩ m _ (by rw [strL_size]; omega) hm)).mono ?_⟩
        rintro e w1 ⟨rfl, q, rfl⟩
        clear hm
        rw [show Lib.cut (strL u).data.toList (⟨#[47]⟩ : ByteArray).data.toList = (g, c2, c3) from HC.out]
        have B1 : Below wr.heap.size wr (wr.drewN q) := ⟨rfl, rfl, rfl, Nat.le_refl _, fun _ _ => rfl⟩
        have hz0 := HB0.out.size
        have HB1 : Hid (Below n₀ W (wr.drewN q)) := HB0.out.trans (B1.mono (by omega))
        have HJ1 : Hid (J done (wr.drewN q)) := abide_on hJ HR.out.2.1 B1
        have HM1 : Hid (ML (wr.drewN q)) := HL.out _ HB1.out
        clear B1
        dsimp only
        gi_wp2_with fail
        refine ⟨trivial, (callsIn_wide.2 (readName_any (strL g) _ (by rw [strL_size]; omega) HM1.out)).mono ?_⟩
        rintro e w2 ⟨rfl, hb2⟩
        have HB2 : Hid (Below n₀ W w2) := HB1.out.trans (hb2.mono (by show n₀ ≤ wr.heap.size; omega))
        have HJ2 : Hid (J done w2) := abide_on hJ HJ1.out hb2
        clear hb2
        obtain ⟨fn, tmps, assign, body, hy, hR⟩ := hY done (pairOf g) w2 HJ2.out (by omega)
        dsimp only [encNB, pairOf] at hy
        have hy' : Sem.run Tryz.prog (Instr.yield l #[Value.string (strL (readN (strL g).data.toList)), Value.bool (okP (strL g).data.toList)]) w2 = Result.ok (Next.round l fn tmps assign body) w2 := hy
        clear hy
        gi_wp2
        refine hR.mono ?_
        rintro e w3 (⟨rfl, hJ3, hk3⟩ | ⟨rfl, hJx3⟩)
        · have HB3 : Hid (Below n₀ W w3) := HB2.out.trans hk3
          have HJ3 : Hid (J (done ++ [pairOf g]) w3) := hJ3
          have HS : Hid ((segs t).map pairOf = (done ++ [pairOf g]) ++ (if c3 then (segs c2).map pairOf else [])) := by
            show _ = _
            rw [HR.out.1, if_pos trivial, HU.out]
            simp
          clear hJ3 hk3
          gi_wp2
          go_roundw
          case rel => exact ⟨done ++ [pairOf g], c2, c3, rfl, rfl, by rw [List.length_append]; simp only [List.length_cons, List.length_nil]; omega, HS.out, HJ3.out, HB3.out⟩
          case measure =>
            have e1 : strSz (Value.string ⟨c2.toArray⟩) = c2.length := strL_size c2
            have e2 : strSz (Value.string (strL u)) = u.length := strL_size u
            rw [e1, e2]
            cases c3 with
            | false => simp [boolN]
            | true => simp [boolN]; simp at hc2; omega
        · have HX : Hid (done ++ [pairOf g] <+: pairsL (47 :: t)) := prefix_snoc (by rw [HPR.out, HR.out.1, if_pos trivial, HU.out])
          gi_wp2
          refine bodyPost_ret (results_none rfl _ _ _) rfl ?_
          exact ⟨⟨_, rfl⟩, .inr ⟨_, HX.out, hJx3⟩⟩
  · have HPR : Hid (pairsL s = [([], false)]) := by
      show _ = _
      unfold pairsL
      rw [if_neg hs0, if_neg h47]
    have hpf : Lib.hasPrefix (strL s).data.toList (⟨#[47]⟩ : ByteArray).data.toList = false := by
      cases s with
      | nil => exact absurd rfl hs0
      | cons b t =>
        have : (47 : UInt8) ≠ b := fun e => h47 (by rw [← e]; rfl)
        simp [Lib.hasPrefix, strL, List.isPrefixOf, this]
    gi_wp2_with fail
    refine ⟨trivial, (callsIn_wide.2 (Tryz.strings_CutPrefix (strL s) ⟨#[47]⟩ _)).mono ?_⟩
    rintro e w0 ⟨rfl, hw0⟩
    have hw := hw0.symm
    subst hw
    clear hw0
    rw [hpf]
    obtain ⟨fn, tmps, assign, body, hy, hR⟩ := hY [] ([], false) W h0 (by decide)
    have hy' : Sem.run Tryz.prog (Instr.yield l #[Value.string ⟨#[]⟩, Value.bool false]) W = Result.ok (Next.round l fn tmps assign body) W := hy
    clear hy
    gi_wp2
    refine hR.mono ?_
    rintro e w3 (⟨rfl, hJ3, hk3⟩ | ⟨rfl, hJx3⟩)
    · gi_wp2
      refine bodyPost_ret (results_none rfl _ _ _) rfl ?_
      exact ⟨⟨_, rfl⟩, .inl ⟨_, HPR.out.symm, hJ3⟩⟩
    · gi_wp2
      refine bodyPost_ret (results_none rfl _ _ _) rfl ?_
      exact ⟨⟨_, rfl⟩, .inr ⟨_, by rw [HPR.out]; exact List.prefix_rfl, hJx3⟩⟩

set_option maxHeartbeats 1000000 in
/-- namesIn: the text is boxed; the function value captures the box. -/
theorem namesIn_in (n : Nat) (s : ByteArray) (w : World) :
    CallsIn Fence.wide n Tryz.prog 47 #[.string s] w fun e w' => e = .returned (.func (.func 64) #[] #[.pointer (some ⟨w.heap.size, 0, none⟩)]) ∧ w' = w.alloc (.cells #[.string s] 9) := by
  refine callsIn_of_wp Tryz.func47 rfl trivial ?_ rfl
  simp only [Tryz.ntmps47, List.size_toArray, List.length_cons, List.length_nil, Nat.reduceAdd, Nat.reduceSub, Array.replicate_succ, Array.replicate_zero, List.push_toArray, List.append_toArray, List.nil_append, List.cons_append]
  gi_wp2
  go_ret
  exact ⟨rfl, rfl⟩

/-- THE ITERATOR's CONTRACT. -/
theorem names_stops (n Bs n₀ : Nat) (hn : 1 ≤ n) (s : List UInt8) (hlen : s.length ≤ 60) (w : World) (hBs : Bs < w.heap.size) (hg : 1 < n₀) (hn0 : n₀ ≤ w.heap.size) (hc : w.cell? ⟨Bs, 0, none⟩ = some (.string (strL s))) (hml : ML w) :
    SeqStopsK Fence.wide n Tryz.prog 64 #[.pointer (some ⟨Bs, 0, none⟩)] encNB (Below n₀) (fun ys => ys = pairsL s) (fun pre => pre <+: pairsL s) 61 w := fun l J Jx W hW hJ _ hY h0 =>
  namesIn1_in n l Bs n₀ s hn hlen J Jx hY W hJ ((hW.cell (p := ⟨Bs, 0, none⟩) hBs).trans hc) (hml.below hW) hg (Nat.le_trans hn0 hW.size) h0

end Go.Proofs.YtjbjgkkkkghcgaaGreatDoor
namespace Go.Proofs.YtjbjgkkkkghcgaaGreatDoor
open Go.RowKit Go.Shelf
set_option linter.unusedVariables false
attribute [local go_sem] Oper.semAt_some

/-- The names, as texts. -/
def namesF (s : List UInt8) : Nat → ByteArray := fun j => strL (((namesL s).getD []).getD j [])
def namesN (s : List UInt8) : Nat := ((namesL s).getD []).length
/-- WHAT PathOf ANSWERS. -/
def NamesIs (s : List UInt8) (w : World) (e : Ending) (w' : World) : Prop :=
  ∃ v g, e = .returned (.tuple #[v, .bool (namesL s).isSome]) ∧ w.heap.size ≤ g ∧ OwnS w' g v (namesN s) (namesF s) ∧ Below w.heap.size w w'
theorem NamesIs.no {s : List UInt8} {w w' : World} (h : namesL s = none) (hb : Below w.heap.size w w') : NamesIs s w (.returned (.tuple #[.slice none 0 0, .bool false])) w' :=
  ⟨_, w.heap.size, by rw [h]; rfl, Nat.le_refl _, ⟨none, 0, by unfold namesN; rw [h]; rfl, by unfold namesN; rw [h]; simp, .inl (by unfold namesN; rw [h]; rfl)⟩, hb⟩

def strCells (l : List (List UInt8)) : List Value := l.map fun n => Value.string (strL n)
theorem own_rowS {w : World} {B : Nat} {v : Value} {l : List (List UInt8)} (h : w.ownsRow B 9 1 v l.length (strCells l)) (hl : l.length ≤ 2 ^ 30) : ∃ g, B ≤ g ∧ OwnS w g v l.length (fun j => strL (l.getD j [])) := by
  have hlt := h.lt
  have hcells := @World.ownsRow.cells _ _ _ _ _ _ _ h
  obtain ⟨_, h0 | ⟨g, cap, cur, hv, hg, hh, _⟩⟩ := h
  · obtain ⟨hv, hx⟩ := h0
    refine ⟨B, Nat.le_refl _, none, 0, by rw [hx]; exact hv, hl, .inl hx⟩
  · refine ⟨g, hg, _, _, hv, hl, .inr ⟨rfl, (hlt g (by rw [hv]; rfl)).2, fun j hj => ⟨?_, ?_⟩⟩⟩
    · have := hcells (g := g) (by rw [hv]; rfl) j (.string (strL (l.getD j []))) (by simp [strCells, List.getElem?_eq_getElem hj, List.getD_eq_getElem?_getD])
      rw [show ((⟨g, 0, none⟩ : Addr).add j) = ⟨g, j, none⟩ by unfold Addr.add; split <;> simp_all] at this
      exact this
    · simp [World.frozen?, hh]
theorem NamesIs.yes {s : List UInt8} {l : List (List UInt8)} {w w' : World} {v : Value} {B : Nat} (h : namesL s = some l) (hl : l.length ≤ 2 ^ 30) (hB : w.heap.size ≤ B) (ho : w'.ownsRow B 9 1 v l.length (strCells l)) (hb : Below w.heap.size w w') : NamesIs s w (.returned (.tuple #[v, .bool true])) w' := by
  obtain ⟨g, hg, hi⟩ := own_rowS ho hl
  exact ⟨v, g, by rw [h]; rfl, by omega, by unfold namesN namesF; rw [h]; exact hi, hb⟩

theorem pairs_len (s : List UInt8) : (pairsL s).length ≤ s.length + 1 := by
  unfold pairsL
  split
  · simp
  · split
    · rw [List.length_map]
      cases s with
      | nil => simp [segsOf]
      | cons b t =>
        rw [segsOf]
        have : ∀ (k : Nat) (u : List UInt8), u.length ≤ k → (segs u).length ≤ u.length + 1 := by
          intro k
          induction k with
          | zero =>
            intro u hu
            obtain rfl : u = [] := List.eq_nil_of_length_eq_zero (by omega)
            simp [segs]
          | succ k ih =>
            intro u hu
            obtain ⟨g, hg, ⟨rfl, e⟩ | ⟨v, rfl, e⟩⟩ := segs_first u
            · rw [e]; simp
            · rw [e, List.length_cons, List.length_append, List.length_cons]
              rw [List.length_append, List.length_cons] at hu
              have := ih v (by omega)
              omega
        have := this t.length t (Nat.le_refl _)
        simp
        omega
    · simp
theorem infoStr1 : (Tryz.prog.info? 9).map (fun i => (i.zero, i.size, i.bytes)) = some (some (.string ⟨#[]⟩), 1, 16) := by kernel_rfl

def fsts (l : List (List UInt8 × Bool)) : List (List UInt8) := l.map (·.1)
theorem fsts_snoc (l : List (List UInt8 × Bool)) (x : List UInt8 × Bool) : fsts (l ++ [x]) = fsts l ++ [x.1] := by simp [fsts]

set_option maxRecDepth 100000 in
set_option maxHeartbeats 4000000 in
theorem implPathOf_in (s : List UInt8) (w : World) (hml : ML w) (hlen : s.length ≤ 60) :
    CallsIn Fence.wide 5 Tryz.prog 33 #[.string (strL s)] w (NamesIs s w) := by
  have hsz : (strL s).size ≤ 60 := by rw [strL_size]; exact hlen
  have hg1 : 1 < w.heap.size := by obtain ⟨m, hm⟩ := hml; exact World.block_lt_of_cell? _ _ hm
  obtain ⟨i0, hi, hz0, hz1, hz2⟩ := info_parts infoStr1
  refine callsIn_of_wp_marks Tryz.func33 rfl trivial ?_ rfl
  simp only [Tryz.ntmps33, List.size_toArray, List.length_cons, List.length_nil, Nat.reduceAdd, Nat.reduceSub, Array.replicate_succ, Array.replicate_zero, List.push_toArray, List.append_toArray, List.nil_append, List.cons_append]
  gi_wp2_with fail
  refine ⟨trivial, (namesIn_in _ _ _).mono ?_⟩
  rintro e w' ⟨rfl, rfl⟩
  have bR := Boxed.new w 35 (.slice none 0 0)
  have bQ := Boxed.new (w.alloc (.cells #[.slice none 0 0] 35)) 4 (.bool false)
  have bO := Boxed.new ((w.alloc (.cells #[.slice none 0 0] 35)).alloc (.cells #[.bool false] 4)) 35 (.slice none 0 0)
  have bS := Boxed.new (((w.alloc (.cells #[.slice none 0 0] 35)).alloc (.cells #[.bool false] 4)).alloc (.cells #[.slice none 0 0] 35)) 9 (.string (strL s))
  simp only [World.size_alloc] at bQ bO bS
  have hB0 : Below w.heap.size w ((((w.alloc (.cells #[.slice none 0 0] 35)).alloc (.cells #[.bool false] 4)).alloc (.cells #[.slice none 0 0] 35)).alloc (.cells #[.string (strL s)] 9)) := ((((Below.refl _ w).alloc (Nat.le_refl _) _).alloc (by simp) _).alloc (by simp; omega) _).alloc (by simp; omega) _
  have HPN : Hid (namesL s = if (pairsL s).all (·.2) then some (fsts (pairsL s)) else none) := names_pairs s hlen
  have HPL : Hid ((pairsL s).length ≤ 61) := by have := pairs_len s; show _ ≤ _; omega
  gi_wp2_with fail
  refine wpIn_rangeFunc_ownG rfl (by decide) (gf := 64) (lb := #[.pointer (some ⟨w.heap.size + 1 + 1 + 1, 0, none⟩)]) rfl trivial (enters_of Tryz.func64 (by kernel_rfl) rfl)
    (names_stops 4 (w.heap.size + 1 + 1 + 1) w.heap.size (by decide) s hlen _ (by simp) hg1 hB0.size bS.cell (hml.below hB0)) belowK_t (belowK_b (by simp; omega)) (Below.refl _ _) (fun _ => rfl)
    (fun pre W => ((∃ v, Boxed W (w.heap.size + 1 + 1) 35 v ∧ W.ownsRow w.heap.size 9 1 v (fsts pre).length (strCells (fsts pre)) ∧ pre.all (·.2) = true) ∧ (Boxed W w.heap.size 35 (.slice none 0 0) ∧ Boxed W (w.heap.size + 1) 4 (.bool false))) ∧ Below w.heap.size w W)
    (fun c pre W => ((c = .ret ∧ pre.all (·.2) = false) ∧ (Boxed W w.heap.size 35 (.slice none 0 0) ∧ Boxed W (w.heap.size + 1) 4 (.bool false))) ∧ Below w.heap.size w W)
    (OwnFrom.and (OwnFrom.and (Own.from (holdsRow_own w.heap.size (w.heap.size + 1 + 1) 35 9 1 (fun pre => (fsts pre).length) (fun pre => strCells (fsts pre)) (fun pre v => pre.all (·.2) = true)) _) (OwnFrom.and (Own.from (boxed_own _ _ _) _) (Own.from (boxed_own _ _ _) _))) (ownFrom_below (Nat.le_refl _) (by simp; omega)))
    (fun c => OwnFrom.and (OwnFrom.and (ownFrom_pure _ _) (OwnFrom.and (Own.from (boxed_own _ _ _) _) (Own.from (boxed_own _ _ _) _))) (ownFrom_below (Nat.le_refl _) (by simp; omega)))
    ⟨⟨⟨_, bO.alloc _, World.ownsRow_nil _ _ _ _, rfl⟩, ((bR.alloc _).alloc _).alloc _, (bQ.alloc _).alloc _⟩, hB0⟩
    (fun x => { tmps := #[.string (strL s), undef, .pointer (some ⟨w.heap.size, 0, none⟩), .pointer (some ⟨w.heap.size + 1, 0, none⟩), .pointer (some ⟨w.heap.size + 1 + 1, 0, none⟩), .string (strL x.1), .bool x.2, .string (strL s), .int .i64 (strL s).size, .bool (decide (60 < ((strL s).size : Int))), .string (strL s), .func (.func 64) #[] #[.pointer (some ⟨w.heap.size + 1 + 1 + 1, 0, none⟩)], .string (strL x.1), .bool x.2, undef, undef, undef, undef, undef, undef, undef], defers := [] }) ?assign ?body ?done ?stop
  case assign =>
    intro l x W K hK
    dsimp only [encNB]
    gi_wp2
    exact hK
  case body =>
    rintro l pre ⟨nm, ok⟩ W ⟨⟨⟨v, hv, hrow, hall⟩, hbR, hbQ⟩, hB⟩ hlt
    have hpl : (fsts pre).length < 61 := by simpa [fsts] using hlt
    cases ok with
    | false =>
      have cR := hbR.cell
      have fR := hbR.frozen
      have cQ := hbQ.cell
      have fQ := hbQ.frozen
      have hR2 : Boxed ((W.setCell ⟨w.heap.size, 0, none⟩ (.slice none 0 0)).setCell ⟨w.heap.size + 1, 0, none⟩ (.bool false)) w.heap.size 35 (.slice none 0 0) := (hbR.set _).other (by omega) _
      have hQ1 : Boxed (W.setCell ⟨w.heap.size, 0, none⟩ (.slice none 0 0)) (w.heap.size + 1) 4 (.bool false) := hbQ.other (by omega) _
      have hQ2 := hQ1.set (.bool false)
      have cQ1 := hQ1.cell
      have fQ1 := hQ1.frozen
      gi_wp2
      exact ⟨((KeepsOthers.setCell _ _ _).trans (KeepsOthers.setCell _ _ _)).from _, ⟨⟨rfl, by simp⟩, hR2, hQ2⟩, (hB.setCell (p := ⟨w.heap.size, 0, none⟩) (Nat.le_refl _) _).setCell (p := ⟨w.heap.size + 1, 0, none⟩) (by simp) _⟩
    | true =>
      have hc := hv.cell
      gi_wp2_with (gi_at_builtin; refine wpListIn_append_own _ rfl _ _ 35 rfl w.heap.size 9 i0 (.string ⟨#[]⟩) 1 16 Tryz.underlying35 hi hz0 hz1 hz2 rfl (by decide) _ _ _ rfl (hrow.alloc _) ⟨W.heap.size, 0, none⟩ 1 1 [.string (strL nm)] rfl rfl (cell_one_new _ _ _) (by simp [Value.oneCell']) (by unfold maxLen; omega) (by omega) (by have := hB.size; simp; omega) ?_; intro v' w1 hown' hgrow _; obtain ⟨g', cap', rfl⟩ := ownsRow_succ hown'; obtain ⟨hv1, hv2, hr2, hk2, hb2⟩ := hv.appended (by decide) hrow hB.size (by omega) hown' hgrow; have hc1 := hv1.cell; have hf1 := hv1.frozen)
      have hR1 := (((hbR.alloc _).kept hgrow (hbR.not_row (by decide) hrow)).other (show w.heap.size ≠ w.heap.size + 1 + 1 by omega) (.slice (some ⟨g', 0, none⟩) ((fsts pre).length + 1) cap'))
      have hQ1 := (((hbQ.alloc _).kept hgrow (hbQ.not_row (by decide) hrow)).other (show w.heap.size + 1 ≠ w.heap.size + 1 + 1 by omega) (.slice (some ⟨g', 0, none⟩) ((fsts pre).length + 1) cap'))
      exact ⟨hk2.from _, hb2, ⟨⟨_, hv2, by rw [fsts_snoc]; simpa [strCells] using hr2, by simp [hall]⟩, hR1, hQ1⟩, hB.trans hb2⟩
  case done =>
    rintro D ys W hD rfl ⟨⟨⟨v, hv, hrow, hall⟩, hbR, hbQ⟩, hB⟩ hK
    have HS : Hid (namesL s = some (fsts (pairsL s))) := by
      show _ = _
      rw [HPN.out, if_pos hall]
    have hfl : (fsts (pairsL s)).length ≤ 61 := by rw [fsts, List.length_map]; exact HPL.out
    obtain ⟨va, vn, vc, rfl⟩ : ∃ va vn vc, v = .slice va vn vc := by
      rcases hrow.2 with ⟨rfl, _⟩ | ⟨g, cap, cur, rfl, _⟩
      · exact ⟨_, _, _, rfl⟩
      · exact ⟨_, _, _, rfl⟩
    have cO := hv.cell
    have cR := hbR.cell
    have fR := hbR.frozen
    have hQ1 : Boxed (W.setCell ⟨w.heap.size, 0, none⟩ (.slice va vn vc)) (w.heap.size + 1) 4 (.bool false) := hbQ.other (by omega) _
    have hR1 := hbR.set (.slice va vn vc)
    have cQ1 := hQ1.cell
    have fQ1 := hQ1.frozen
    have hQ2 := hQ1.set (.bool true)
    have hR2 := hR1.other (show w.heap.size ≠ w.heap.size + 1 by omega) (.bool true)
    have hrow1 := hrow.kept (grownBy_setCell' W w.heap.size (.slice va vn vc)) (.inr (hbR.not_row (by decide) hrow).symm)
    have hrow2 := hrow1.kept (grownBy_setCell' _ (w.heap.size + 1) (.bool true)) (.inr (hQ1.not_row (by decide) hrow1).symm)
    have hK' := ((KeepsOthers.setCell W ⟨w.heap.size, 0, none⟩ (.slice va vn vc)).trans (KeepsOthers.setCell _ ⟨w.heap.size + 1, 0, none⟩ (.bool true))).same D _ hK rfl
    have hB2 := (hB.setCell (p := ⟨w.heap.size, 0, none⟩) (Nat.le_refl _) (.slice va vn vc)).setCell (p := ⟨w.heap.size + 1, 0, none⟩) (by simp) (.bool true)
    gi_wp2
    refine ⟨by simp, .inl ⟨_, _, rfl, run_takeDeferred hK', ?_⟩⟩
    have kR := cell_kept hR2.cell (grownBy_putObj' _ D (.deferred none)) (fun r e => by cases e; exact ⟨_, hK', rfl⟩)
    have kQ := cell_kept hQ2.cell (grownBy_putObj' _ D (.deferred none)) (fun r e => by cases e; exact ⟨_, hK', rfl⟩)
    refine ⟨.tuple #[.slice va vn vc, .bool true], ?_, NamesIs.yes HS.out (by omega) (Nat.le_refl _) (ownsRow_putObj hrow2 _ hK' rfl) (hB2.trans (belowK_b (w := w) (Nat.le_refl _) _ D _ _ (by simp at hD; omega) hK' rfl rfl))⟩
    simp [results, Tryz.f33, go_sem, kR, kQ]
  case stop =>
    rintro D c pre W hD hpre ⟨⟨⟨rfl, hno⟩, hbR, hbQ⟩, hB⟩ hK
    have HS : Hid (namesL s = none) := by
      show _ = _
      rw [HPN.out, if_neg]
      intro hall
      rw [List.all_eq_true] at hall
      rw [List.all_eq_false] at hno
      obtain ⟨x, hx, hn⟩ := hno
      exact hn (hall x (hpre.subset hx))
    gi_wp2
    refine ⟨by simp, .inl ⟨_, _, rfl, run_takeDeferred hK, ?_⟩⟩
    have kR := cell_kept hbR.cell (grownBy_putObj' _ D (.deferred none)) (fun r e => by cases e; exact ⟨_, hK, rfl⟩)
    have kQ := cell_kept hbQ.cell (grownBy_putObj' _ D (.deferred none)) (fun r e => by cases e; exact ⟨_, hK, rfl⟩)
    refine ⟨.tuple #[.slice none 0 0, .bool false], ?_, NamesIs.no HS.out (hB.trans (belowK_b (w := w) (Nat.le_refl _) _ D _ _ (by simp at hD; omega) hK rfl rfl))⟩
    simp [results, Tryz.f33, go_sem, kR, kQ]

set_option maxRecDepth 100000 in
set_option maxHeartbeats 4000000 in
theorem implPathOf_long (s : ByteArray) (w : World) (hlen : 60 < s.size) :
    CallsIn Fence.wide 5 Tryz.prog 33 #[.string s] w (NamesIs s.data.toList w) := by
  have HS : Hid (namesL s.data.toList = none) := by
    have : s.data.toList.length = s.size := Array.length_toList
    show _ = _
    unfold namesL
    rw [if_neg (fun h => by omega)]
  refine callsIn_of_wp Tryz.func33 rfl trivial ?_ rfl
  simp only [Tryz.ntmps33, List.size_toArray, List.length_cons, List.length_nil, Nat.reduceAdd, Nat.reduceSub, Array.replicate_succ, Array.replicate_zero, List.push_toArray, List.append_toArray, List.nil_append, List.cons_append]
  gi_wp2_with fail
  exact bodyPost_ret (v := .tuple #[.slice none 0 0, .bool false]) (by simp [results, Tryz.f33, go_sem]) rfl (NamesIs.no HS.out (((Below.refl _ w).alloc (Nat.le_refl _) _).alloc (by simp) _))

/-- PathOf, at every text. -/
theorem implPathOf_any (s : ByteArray) (w : World) (hml : ML w) :
    Calls Tryz.prog 33 #[.string s] w (NamesIs s.data.toList w) := by
  refine (callsIn_wide (n := 5)).1 ?_
  by_cases h : s.size ≤ 60
  · have := implPathOf_in s.data.toList w hml (by rw [Array.length_toList]; exact h)
    exact this
  · exact implPathOf_long s w (by omega)

end Go.Proofs.YtjbjgkkkkghcgaaGreatDoor
