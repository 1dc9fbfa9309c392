/- Names as they are written in a path: what all replacements of the library make of them, and what is read back. No program in this text. A name written into a path: the program's writeName. A path cut at its slashes, and the names that it tells. No program in this text. -/
import Derived.Lib.Replace
import Derived.Test.YtnmbnebofbdmfaaGreatDoorText
import Derived.Test.YtnmbnebofbdmfaaGreatDoorStrs0
import Derived.Test.YtnmbnebofbdmfaaGreatDoorLib3
namespace Go.Proofs.YtnmbnebofbdmfaaGreatDoor

theorem rep_eq {old new : List UInt8} (hne : old ≠ new) (s : List UInt8) : Lib.replaceAll s old new = Lib.replaceK old new (Lib.count s old) s := by
  unfold Lib.replaceAll Lib.replace Lib.replaceNum
  rw [if_neg (by simpa using hne), if_pos (Or.inl (by decide))]

theorem rep_nil {old new : List UInt8} (h0 : old ≠ []) (hne : old ≠ new) : Lib.replaceAll [] old new = [] := by
  have hi : Lib.index [] old = -1 := by
    cases old with
    | nil => exact absurd rfl h0
    | cons a t => rfl
  rw [rep_eq hne, Lib.count_miss hi]
  rfl

theorem rep_hit {old new : List UInt8} (h0 : old ≠ []) (hne : old ≠ new) (r : List UInt8) : Lib.replaceAll (old ++ r) old new = new ++ Lib.replaceAll r old new := by
  have hi : Lib.index (old ++ r) old = ((0 : Nat) : Int) := Lib.index_first (Nat.zero_le _) (by simp [Lib.occAt]) (fun j hj => absurd hj (Nat.not_lt_zero j))
  rw [rep_eq hne, rep_eq hne, Lib.count_hit h0 hi, Nat.add_comm, Lib.replaceK_hit _ _ _ _ 0 hi]
  simp

theorem rep_miss {old new : List UInt8} (h0 : old ≠ []) (hne : old ≠ new) (b : UInt8) (l : List UInt8) (hp : old.isPrefixOf (b :: l) = false) : Lib.replaceAll (b :: l) old new = b :: Lib.replaceAll l old new := by
  have hl : 0 < old.length := by cases old with | nil => exact absurd rfl h0 | cons a t => simp
  have hix : Lib.index (b :: l) old = if Lib.index l old == -1 then -1 else Lib.index l old + 1 := by rw [Lib.index, hp]; simp
  rw [rep_eq hne, rep_eq hne]
  by_cases hm : Lib.index l old = -1
  · rw [Lib.count_miss hm, Lib.count_miss (by rw [hix, if_pos (beq_iff_eq.2 hm)])]
    rfl
  · have hge := Lib.index_ge l old
    obtain ⟨j, hj⟩ : ∃ j : Nat, Lib.index l old = j := ⟨(Lib.index l old).toNat, by omega⟩
    have hix' : Lib.index (b :: l) old = ((j + 1 : Nat) : Int) := by rw [hix, if_neg (fun e => hm (beq_iff_eq.1 e)), hj]; omega
    rw [Lib.count_hit h0 hj, Lib.count_hit h0 hix', Nat.add_comm 1, Nat.add_comm 1, Lib.replaceK_hit _ _ _ _ _ hix', Lib.replaceK_hit _ _ _ _ _ hj]
    have e : j + 1 + old.length = (j + old.length) + 1 := by omega
    rw [e]
    simp

/-- A name as it is written in a path. -/
def pesc : List UInt8 → List UInt8
  | [] => []
  | b :: r => (if b = 126 then [126, 48] else if b = 47 then [126, 49] else [b]) ++ pesc r

/-- What is read of what was written; none where a sign of its own is wrong. -/
def unesc : List UInt8 → Option (List UInt8)
  | [] => some []
  | [b] => if b = 126 then none else some [b]
  | b :: c :: r => if b = 126 then (if c = 48 then (unesc r).map (126 :: ·) else if c = 49 then (unesc r).map (47 :: ·) else none) else (unesc (c :: r)).map (b :: ·)

def tilOnly : List UInt8 → List UInt8
  | [] => []
  | b :: r => (if b = 126 then [126, 48] else [b]) ++ tilOnly r

theorem miss1 {a b : UInt8} (t l : List UInt8) (h : a ≠ b) : (a :: t).isPrefixOf (b :: l) = false := by
  simp [List.isPrefixOf, h]

theorem miss2 {a b c : UInt8} (l : List UInt8) (h : b ≠ c) : ([a, b] : List UInt8).isPrefixOf (a :: c :: l) = false := by
  simp [List.isPrefixOf, h]

theorem rep_til (s : List UInt8) : Lib.replaceAll s [126] [126, 48] = tilOnly s := by
  induction s with
  | nil => exact rep_nil (by decide) (by decide)
  | cons b r ih =>
    by_cases h : b = 126
    · subst h
      have := rep_hit (old := [126]) (new := [126, 48]) (by decide) (by decide) r
      simp only [List.cons_append, List.nil_append] at this
      rw [this, ih]
      rfl
    · rw [rep_miss (by decide) (by decide) b r (miss1 _ _ (Ne.symm h)), ih, tilOnly, if_neg h]
      rfl

theorem rep_esc (s : List UInt8) : Lib.replaceAll (tilOnly s) [47] [126, 49] = pesc s := by
  induction s with
  | nil => exact rep_nil (by decide) (by decide)
  | cons b r ih =>
    by_cases h : b = 126
    · subst h
      rw [tilOnly, pesc, if_pos rfl, if_pos rfl]
      simp only [List.cons_append, List.nil_append]
      rw [rep_miss (by decide) (by decide) _ _ (miss1 _ _ (by decide)), rep_miss (by decide) (by decide) _ _ (miss1 _ _ (by decide)), ih]
    · rw [tilOnly, pesc, if_neg h, if_neg h]
      by_cases h2 : b = 47
      · subst h2
        rw [if_pos rfl, rep_hit (old := [47]) (by decide) (by decide), ih]
      · rw [if_neg h2]
        simp only [List.cons_append, List.nil_append]
        rw [rep_miss (by decide) (by decide) _ _ (miss1 _ _ (Ne.symm h2)), ih]

/-- What writeName makes of a name. -/
theorem write_is (s : List UInt8) : Lib.replaceAll (Lib.replaceAll s [126] [126, 48]) [47] [126, 49] = pesc s := by
  rw [rep_til, rep_esc]

theorem rep_til1 (s : List UInt8) : Lib.replaceAll (pesc s) [126, 49] [47] = tilOnly s := by
  induction s with
  | nil => exact rep_nil (by decide) (by decide)
  | cons b r ih =>
    by_cases h : b = 126
    · subst h
      rw [tilOnly, pesc, if_pos rfl, if_pos rfl]
      simp only [List.cons_append, List.nil_append]
      rw [rep_miss (by decide) (by decide) _ _ (miss2 _ (by decide)), rep_miss (by decide) (by decide) _ _ (miss1 _ _ (by decide)), ih]
    · rw [tilOnly, pesc, if_neg h, if_neg h]
      by_cases h2 : b = 47
      · subst h2
        rw [if_pos rfl, rep_hit (old := [126, 49]) (by decide) (by decide), ih]
      · rw [if_neg h2]
        simp only [List.cons_append, List.nil_append]
        rw [rep_miss (by decide) (by decide) _ _ (miss1 _ _ (Ne.symm h)), ih]

theorem rep_til0 (s : List UInt8) : Lib.replaceAll (tilOnly s) [126, 48] [126] = s := by
  induction s with
  | nil => exact rep_nil (by decide) (by decide)
  | cons b r ih =>
    by_cases h : b = 126
    · subst h
      rw [tilOnly, if_pos rfl, rep_hit (old := [126, 48]) (by decide) (by decide), ih]
      rfl
    · rw [tilOnly, if_neg h]
      simp only [List.cons_append, List.nil_append]
      rw [rep_miss (by decide) (by decide) _ _ (miss1 _ _ (Ne.symm h)), ih]

/-- What readName makes of what is written. -/
def readN (s : List UInt8) : List UInt8 := Lib.replaceAll (Lib.replaceAll s [126, 49] [47]) [126, 48] [126]

theorem read_pesc (s : List UInt8) : readN (pesc s) = s := by
  rw [readN, rep_til1, rep_til0]

theorem unesc_esc : ∀ s : List UInt8, unesc (pesc s) = some s := by
  intro s
  induction s with
  | nil => rfl
  | cons b r ih =>
    by_cases h : b = 126
    · subst h
      rw [pesc, if_pos rfl]
      show unesc (126 :: 48 :: pesc r) = _
      rw [unesc, if_pos rfl, if_pos rfl, ih]; rfl
    · rw [pesc, if_neg h]
      by_cases h2 : b = 47
      · subst h2
        rw [if_pos rfl]
        show unesc (126 :: 49 :: pesc r) = _
        rw [unesc, if_pos rfl, if_neg (by decide), if_pos rfl, ih]; rfl
      · rw [if_neg h2]
        show unesc (b :: pesc r) = _
        cases he : pesc r with
        | nil =>
          rw [he] at ih
          rw [unesc, if_neg h]
          simp [unesc] at ih
          simp [ih]
        | cons c t => rw [unesc, if_neg h, ← he, ih]; rfl

theorem pesc_unesc : ∀ (w n : List UInt8), (∀ b ∈ w, b ≠ 47) → unesc w = some n → pesc n = w
  | [], n, _, h => by simp [unesc] at h; subst h; rfl
  | [b], n, hs, h => by
    by_cases hb : b = 126
    · rw [unesc, if_pos hb] at h; exact absurd h (by simp)
    · rw [unesc, if_neg hb] at h
      simp at h; subst h
      have := hs b (by simp)
      simp [pesc, hb, this]
  | b :: c :: r, n, hs, h => by
    rw [unesc] at h
    by_cases hb : b = 126
    · rw [if_pos hb] at h
      by_cases h0 : c = 48
      · rw [if_pos h0] at h
        obtain ⟨m, hm, rfl⟩ := Option.map_eq_some_iff.1 h
        have ih := pesc_unesc r m (fun x hx => hs x (by simp [hx])) hm
        subst hb; subst h0
        rw [pesc, ih]; rfl
      · rw [if_neg h0] at h
        by_cases h1 : c = 49
        · rw [if_pos h1] at h
          obtain ⟨m, hm, rfl⟩ := Option.map_eq_some_iff.1 h
          have ih := pesc_unesc r m (fun x hx => hs x (by simp [hx])) hm
          subst hb; subst h1
          rw [pesc, ih]; rfl
        · rw [if_neg h1] at h; exact absurd h (by simp)
    · rw [if_neg hb] at h
      obtain ⟨m, hm, rfl⟩ := Option.map_eq_some_iff.1 h
      have ih := pesc_unesc (c :: r) m (fun x hx => hs x (by simp only [List.mem_cons] at hx ⊢; exact Or.inr hx)) hm
      have h2 := hs b (by simp)
      rw [pesc, ih, if_neg hb, if_neg h2]; rfl

/-- What is written of a name, and nothing else, reads back as it is written. -/
theorem read_iff (w : List UInt8) (hs : ∀ b ∈ w, b ≠ 47) : unesc w = if pesc (readN w) = w then some (readN w) else none := by
  cases h : unesc w with
  | none =>
    rw [if_neg]
    intro e
    have := unesc_esc (readN w)
    rw [e, h] at this
    exact absurd this (by simp)
  | some n =>
    have e := pesc_unesc w n hs h
    have : readN w = n := by rw [← e, read_pesc]
    rw [this, if_pos e]

theorem pesc_append (a b : List UInt8) : pesc (a ++ b) = pesc a ++ pesc b := by
  induction a with
  | nil => rfl
  | cons x r ih => simp only [List.cons_append, pesc, ih, List.append_assoc]

theorem pesc_length (s : List UInt8) : (pesc s).length ≤ 2 * s.length := by
  induction s with
  | nil => decide
  | cons x r ih =>
    rw [pesc]
    split
    · simp; omega
    · split
      · simp; omega
      · simp; omega

theorem tilOnly_length (s : List UInt8) : (tilOnly s).length ≤ 2 * s.length := by
  induction s with
  | nil => decide
  | cons x r ih =>
    rw [tilOnly]
    split
    · simp; omega
    · simp; omega

end Go.Proofs.YtnmbnebofbdmfaaGreatDoor
namespace Go.Proofs.YtnmbnebofbdmfaaGreatDoor
open Go.RowKit
set_option linter.unusedVariables false

/-- The library's variable for the greatest length holds a whole number. -/
def ML (w : World) : Prop := ∃ m : Int, w.cell? ⟨0, 0, none⟩ = some (.int .i64 m)
theorem ML.below {w w' : World} (h : ML w) (hb : Below w.heap.size w w') : ML w' := by
  obtain ⟨m, hm⟩ := h
  exact ⟨m, (hb.cell (World.block_lt_of_cell? _ _ hm)).trans hm⟩

theorem room (s old new : ByteArray) (h1 : 1 ≤ old.size) (h2 : new.size ≤ 2) (hs : s.size ≤ 2 ^ 30) : s.size + Lib.countB s old * new.size ≤ 140737488355328 := by
  have h := Lib.countB_le old h1 s.size s (Nat.le_refl _)
  have : Lib.countB s old * new.size ≤ s.size * 2 := Nat.mul_le_mul h h2
  omega

/-- The path of names. -/
def pathL (l : List ByteArray) : List UInt8 := l.flatMap fun n => 47 :: pesc n.data.toList
def lst (f : Nat → ByteArray) (n : Nat) : List ByteArray := (List.range n).map f
theorem lst_succ (f : Nat → ByteArray) (k : Nat) : lst f (k + 1) = lst f k ++ [f k] := by simp [lst, List.range_succ]
theorem lst_length (f : Nat → ByteArray) (k : Nat) : (lst f k).length = k := by simp [lst]
theorem pathL_snoc (l : List ByteArray) (x : ByteArray) : pathL (l ++ [x]) = pathL l ++ 47 :: pesc x.data.toList := by simp [pathL]
theorem pathL_succ (f : Nat → ByteArray) (k : Nat) : pathL (lst f (k + 1)) = pathL (lst f k) ++ 47 :: pesc (f k).data.toList := by rw [lst_succ, pathL_snoc]
theorem pathL_mono (f : Nat → ByteArray) {k n : Nat} (h : k ≤ n) : (pathL (lst f k)).length ≤ (pathL (lst f n)).length := by
  induction n with
  | zero => obtain rfl : k = 0 := by omega
            exact Nat.le_refl _
  | succ n ih =>
    by_cases e : k = n + 1
    · subst e; exact Nat.le_refl _
    · rw [pathL_succ, List.length_append]
      have := ih (by omega)
      omega
theorem pathL_bound (f : Nat → ByteArray) (m : Nat) (n : Nat) (h : ∀ i, i < n → (f i).size ≤ m) : (pathL (lst f n)).length ≤ n * (2 * m + 1) := by
  induction n with
  | zero => simp [lst, pathL]
  | succ n ih =>
    rw [pathL_succ, List.length_append, List.length_cons]
    have h1 := ih fun i hi => h i (by omega)
    have h2 := pesc_length (f n).data.toList
    have h3 : (f n).data.toList.length ≤ m := by have := h n (by omega); rwa [Array.length_toList]
    have e : (n + 1) * (2 * m + 1) = n * (2 * m + 1) + (2 * m + 1) := by rw [Nat.add_mul, Nat.one_mul]
    omega

set_option maxHeartbeats 1000000 in
theorem writeName_any (s : ByteArray) (w : World) (hs : s.size ≤ 2 ^ 24) (hm : ML w) :
    Calls Tryz.prog 63 #[.string s] w fun e w' => e = .returned (.string (strL (pesc s.data.toList))) ∧ Below w.heap.size w w' := by
  have HML : Hid (ML w) := hm
  have HT : Hid ((⟨(tilOnly s.data.toList).toArray⟩ : ByteArray).size ≤ 2 ^ 25) := by
    have h1 := tilOnly_length s.data.toList
    have h2 : s.data.toList.length = s.size := Array.length_toList
    have h3 : (strL (tilOnly s.data.toList)).size = (tilOnly s.data.toList).length := strL_size _
    show (strL (tilOnly s.data.toList)).size ≤ _
    omega
  clear hm
  go_enter Tryz.func63, Tryz.ntmps63
  go_wp2_with fail
  obtain ⟨m, hm⟩ := HML.out
  refine (Tryz.strings_ReplaceAll s ⟨#[126]⟩ ⟨#[126, 48]⟩ m _ (by omega) hm (by decide) (room s _ _ (by decide) (by decide) (by omega))).mono ?_
  rintro e w1 ⟨rfl, hb1⟩
  have HB1 : Hid (Below w.heap.size w w1) := hb1
  have HM1 : Hid (ML w1) := HML.out.below hb1
  clear hb1 hm
  rw [show Lib.replaceAll s.data.toList (⟨#[126]⟩ : ByteArray).data.toList (⟨#[126, 48]⟩ : ByteArray).data.toList = tilOnly s.data.toList from rep_til _]
  go_wp2_with fail
  obtain ⟨m1, hm1⟩ := HM1.out
  refine (Tryz.strings_ReplaceAll ⟨(tilOnly s.data.toList).toArray⟩ ⟨#[47]⟩ ⟨#[126, 49]⟩ m1 _ (by have := HT.out; omega) hm1 (by decide) (room _ _ _ (by decide) (by decide) (by have := HT.out; omega))).mono ?_
  rintro e w2 ⟨rfl, hb2⟩
  have HB2 : Hid (Below w.heap.size w w2) := HB1.out.trans (hb2.mono HB1.out.size)
  clear hb2 hm1
  rw [show Lib.replaceAll (⟨(tilOnly s.data.toList).toArray⟩ : ByteArray).data.toList (⟨#[47]⟩ : ByteArray).data.toList (⟨#[126, 49]⟩ : ByteArray).data.toList = pesc s.data.toList from rep_esc _]
  go_wp2
  go_ret
  exact ⟨rfl, HB2.out⟩

theorem ext_one (s : ByteArray) (k : Nat) (h : k < s.size) : s.extract k (k + 1) = strL [s[k]] := by
  apply ByteArray.ext
  simp [strL]
  apply Array.ext'
  have h' : k < s.data.toList.length := by simpa using h
  simp
  rw [List.drop_eq_getElem_cons h']
  simp
  rfl
theorem byte_eq (c : UInt8) (v : Nat) (hv : v < 256) : ((c.toNat : Int) == (v : Int)) = true ↔ c = UInt8.ofNat v := by
  rw [beq_iff_eq]
  constructor
  · intro h
    apply UInt8.toNat.inj
    rw [UInt8.toNat_ofNat']
    omega
  · intro h
    rw [h, UInt8.toNat_ofNat']
    omega

end Go.Proofs.YtnmbnebofbdmfaaGreatDoor
namespace Go.Proofs.YtnmbnebofbdmfaaGreatDoor

/-- The stretches between slashes. -/
def segs : List UInt8 → List (List UInt8)
  | [] => [[]]
  | b :: r => if b = 47 then [] :: segs r else match segs r with
    | [] => [[b]]
    | g :: gs => (b :: g) :: gs

theorem segs_slash (r : List UInt8) : segs (47 :: r) = [] :: segs r := by rw [segs, if_pos rfl]
theorem segs_end {g : List UInt8} (h : ∀ b ∈ g, b ≠ 47) : segs g = [g] := by
  induction g with
  | nil => rfl
  | cons b r ih => rw [segs, if_neg (h b (by simp)), ih (fun x hx => h x (by simp [hx]))]
theorem segs_more {g : List UInt8} (h : ∀ b ∈ g, b ≠ 47) (t : List UInt8) : segs (g ++ 47 :: t) = g :: segs t := by
  induction g with
  | nil => exact segs_slash t
  | cons b r ih => rw [List.cons_append, segs, if_neg (h b (by simp)), ih (fun x hx => h x (by simp [hx]))]

/-- The first stretch, and what follows it. -/
theorem segs_first (r : List UInt8) : ∃ g, (∀ b ∈ g, b ≠ 47) ∧ ((r = g ∧ segs r = [g]) ∨ ∃ t, r = g ++ 47 :: t ∧ segs r = g :: segs t) := by
  induction r with
  | nil => exact ⟨[], by simp, .inl ⟨rfl, rfl⟩⟩
  | cons b r ih =>
    by_cases hb : b = 47
    · subst hb
      exact ⟨[], by simp, .inr ⟨r, rfl, segs_slash r⟩⟩
    · obtain ⟨g, hg, ⟨rfl, _⟩ | ⟨t, rfl, _⟩⟩ := ih
      · have h' : ∀ x ∈ b :: r, x ≠ 47 := fun x hx => by rcases List.mem_cons.1 hx with rfl | hx; exact hb; exact hg x hx
        exact ⟨b :: r, h', .inl ⟨rfl, segs_end h'⟩⟩
      · have h' : ∀ x ∈ b :: g, x ≠ 47 := fun x hx => by rcases List.mem_cons.1 hx with rfl | hx; exact hb; exact hg x hx
        exact ⟨b :: g, h', .inr ⟨t, rfl, segs_more h' t⟩⟩

theorem segs_none47 (r : List UInt8) : ∀ g ∈ segs r, ∀ b ∈ g, b ≠ 47 := by
  suffices h : ∀ n (r : List UInt8), r.length ≤ n → ∀ g ∈ segs r, ∀ b ∈ g, b ≠ 47 from h _ r (Nat.le_refl _)
  intro n
  induction n with
  | zero =>
    intro r hr g hg b hb
    obtain rfl : r = [] := List.eq_nil_of_length_eq_zero (by omega)
    simp [segs] at hg; subst hg; simp at hb
  | succ n ih =>
    intro r hr
    obtain ⟨g, hg, ⟨rfl, e⟩ | ⟨t, rfl, e⟩⟩ := segs_first r
    · rw [e]; intro x hx; simp at hx; subst hx; exact hg
    · rw [e]
      intro x hx
      rcases List.mem_cons.1 hx with rfl | hx
      · exact hg
      · exact ih t (by simp at hr; omega) x hx

/-- What the library's Cut at a slash says. -/
theorem cut_none {g : List UInt8} (h : ∀ b ∈ g, b ≠ 47) : Lib.cut g [47] = (g, [], false) := by
  have hi : Lib.index g [47] = -1 := Lib.index_none fun j _ => by
    cases hq : Lib.occAt g [47] j with
    | false => rfl
    | true =>
      have := Lib.occAt_head rfl hq
      exact absurd rfl (h 47 (List.mem_of_getElem? this))
  unfold Lib.cut
  rw [hi, if_neg (by decide)]
theorem cut_some {g : List UInt8} (h : ∀ b ∈ g, b ≠ 47) (t : List UInt8) : Lib.cut (g ++ 47 :: t) [47] = (g, t, true) := by
  have hi : Lib.index (g ++ 47 :: t) [47] = (g.length : Int) := Lib.index_first (by simp) (by simp [Lib.occAt, List.isPrefixOf]) fun j hj => by
    cases hq : Lib.occAt (g ++ 47 :: t) [47] j with
    | false => rfl
    | true =>
      have := Lib.occAt_head rfl hq
      rw [List.getElem?_append_left hj] at this
      exact absurd rfl (h 47 (List.mem_of_getElem? this))
  unfold Lib.cut
  rw [hi, if_pos (by omega)]
  simp

def okL (n : List UInt8) : Bool := decide (n.length ≤ 24) && n.all fun c => decide (32 ≤ c.toNat) && decide (c.toNat ≤ 126)

/-- The name that a stretch tells. -/
def prN (g : List UInt8) : Option (List UInt8) := (unesc g).bind fun n => if okL n then some n else none
def allN : List (List UInt8) → Option (List (List UInt8))
  | [] => some []
  | g :: gs => (prN g).bind fun n => (allN gs).map (n :: ·)
def segsOf : List UInt8 → List (List UInt8)
  | [] => []
  | _ :: t => segs t
/-- THE NAMES OF A PATH; none of what is no path. -/
def namesL (s : List UInt8) : Option (List (List UInt8)) := if s.length ≤ 60 ∧ (s = [] ∨ s.head? = some 47) then allN (segsOf s) else none

/-- The program's own test of a stretch. -/
def okP (g : List UInt8) : Bool := okL (readN g) && decide (pesc (readN g) = g)
theorem prN_is {g : List UInt8} (h : ∀ b ∈ g, b ≠ 47) : prN g = if okP g then some (readN g) else none := by
  unfold prN okP
  rw [read_iff g h]
  by_cases e : pesc (readN g) = g
  · rw [if_pos e]
    simp [e]
  · rw [if_neg e]
    simp [e]

theorem unesc_append : ∀ (a b x : List UInt8), unesc a = some x → unesc (a ++ b) = (unesc b).map (x ++ ·)
  | [], b, x, h => by
    simp [unesc] at h; subst h
    rw [List.nil_append]
    cases hb : unesc b <;> simp
  | [p], b, x, h => by
    by_cases hp : p = 126
    · rw [unesc, if_pos hp] at h; exact absurd h (by simp)
    · rw [unesc, if_neg hp] at h
      simp at h; subst h
      cases b with
      | nil => simp [unesc, hp]
      | cons c r =>
        show unesc (p :: c :: r) = _
        rw [unesc, if_neg hp]
        rfl
  | p :: c :: r, b, x, h => by
    rw [unesc] at h
    show unesc (p :: c :: (r ++ b)) = _
    rw [unesc]
    by_cases hp : p = 126
    · rw [if_pos hp] at h ⊢
      by_cases h0 : c = 48
      · rw [if_pos h0] at h ⊢
        obtain ⟨m, hm, rfl⟩ := Option.map_eq_some_iff.1 h
        rw [unesc_append r b m hm]
        cases unesc b <;> simp
      · rw [if_neg h0] at h ⊢
        by_cases h1 : c = 49
        · rw [if_pos h1] at h ⊢
          obtain ⟨m, hm, rfl⟩ := Option.map_eq_some_iff.1 h
          rw [unesc_append r b m hm]
          cases unesc b <;> simp
        · rw [if_neg h1] at h; exact absurd h (by simp)
    · rw [if_neg hp] at h ⊢
      obtain ⟨m, hm, rfl⟩ := Option.map_eq_some_iff.1 h
      have := unesc_append (c :: r) b m hm
      rw [List.cons_append] at this
      rw [this]
      cases unesc b <;> simp

theorem unesc_one {b : UInt8} (h : b ≠ 126) : unesc [b] = some [b] := by rw [unesc, if_neg h]
theorem unesc_t0 : unesc [126, 48] = some [126] := rfl
theorem unesc_t1 : unesc [126, 49] = some [47] := rfl
/-- A sign that stands for nothing. -/
theorem unesc_bad {t : List UInt8} (h : t = [] ∨ ∃ c r, t = c :: r ∧ c ≠ 48 ∧ c ≠ 49) : unesc (126 :: t) = none := by
  rcases h with rfl | ⟨c, r, rfl, h0, h1⟩
  · rfl
  · rw [unesc, if_pos rfl, if_neg h0, if_neg h1]

/-- What the specification has read of a stretch, a step on. -/
theorem read_on {g1 a x y : List UInt8} (h : unesc g1 = some x) (k : unesc a = some y) : unesc (g1 ++ a) = some (x ++ y) := by
  rw [unesc_append g1 a x h, k]; rfl
/-- It has come to a sign that stands for nothing. -/
theorem read_bad {g1 x r3 : List UInt8} (hg : ∀ b ∈ g1, b ≠ 47) (h : unesc g1 = some x) (h3 : r3 = [] ∨ ∃ c r, r3 = c :: r ∧ c ≠ 48 ∧ c ≠ 49) : allN (segs (g1 ++ 126 :: r3)) = none := by
  obtain ⟨g, hg3, hr⟩ := segs_first r3
  have hh : ∀ b ∈ g1 ++ 126 :: g, b ≠ 47 := fun b hb => by
    rcases List.mem_append.1 hb with hb | hb
    · exact hg b hb
    · rcases List.mem_cons.1 hb with rfl | hb
      · decide
      · exact hg3 b hb
  have hbad : prN (g1 ++ 126 :: g) = none := by
    unfold prN
    rw [unesc_append g1 _ x h, unesc_bad]
    · rfl
    · rcases hr with ⟨rfl, _⟩ | ⟨t, rfl, _⟩
      · exact h3
      · cases g with
        | nil => exact .inl rfl
        | cons c r =>
          rcases h3 with h3 | ⟨c', r', e, h0, h1⟩
          · simp at h3
          · simp at e
            exact .inr ⟨c, r, rfl, by rw [e.1]; exact h0, by rw [e.1]; exact h1⟩
  rcases hr with ⟨rfl, _⟩ | ⟨t, rfl, _⟩
  · rw [segs_end hh, allN, hbad]; rfl
  · rw [show g1 ++ 126 :: (g ++ 47 :: t) = (g1 ++ 126 :: g) ++ 47 :: t by simp, segs_more hh, allN, hbad]; rfl
/-- It has come to the stretch's end. -/
theorem read_end {g1 x r3 : List UInt8} (hg : ∀ b ∈ g1, b ≠ 47) (h : unesc g1 = some x) (h3 : r3 = [] ∨ ∃ r, r3 = 47 :: r) : allN (segs (g1 ++ r3)) = if okL x then (allN (segsOf r3)).map (x :: ·) else none := by
  have e : prN g1 = if okL x then some x else none := by unfold prN; rw [h]; rfl
  rcases h3 with rfl | ⟨r, rfl⟩
  · rw [List.append_nil, segs_end hg, allN, e]
    by_cases ok : okL x = true
    · simp [ok, segsOf, allN]
    · simp [ok]
  · rw [segs_more hg, allN, e]
    by_cases ok : okL x = true
    · simp [ok, segsOf]
    · simp [ok]

/-- The pairs that the program's iterator tells. -/
def pairsL (s : List UInt8) : List (List UInt8 × Bool) := if s = [] then [] else if s.head? = some 47 then (segsOf s).map fun g => (readN g, okP g) else [([], false)]

theorem allN_pairs (gs : List (List UInt8)) (h : ∀ g ∈ gs, ∀ b ∈ g, b ≠ 47) : allN gs = if (gs.all okP) then some (gs.map readN) else none := by
  induction gs with
  | nil => rfl
  | cons g gs ih =>
    rw [allN, prN_is (h g (by simp)), ih (fun x hx => h x (by simp [hx]))]
    by_cases o : okP g = true
    · by_cases o2 : gs.all okP = true
      · simp [o, o2]
      · simp [o, o2]
    · simp [o]
theorem names_pairs (s : List UInt8) (h : s.length ≤ 60) : namesL s = if (pairsL s).all (·.2) then some ((pairsL s).map (·.1)) else none := by
  unfold namesL pairsL
  by_cases h0 : s = []
  · subst h0; simp [segsOf, allN]
  · by_cases h1 : s.head? = some 47
    · rw [if_pos ⟨h, .inr h1⟩, if_neg h0, if_pos h1]
      cases s with
      | nil => exact absurd rfl h0
      | cons b t =>
        rw [segsOf, allN_pairs _ (segs_none47 t), List.all_map, List.map_map]
        rfl
    · rw [if_neg (fun k => by rcases k.2 with k | k; exact h0 k; exact h1 k), if_neg h0, if_neg h1]
      rfl

end Go.Proofs.YtnmbnebofbdmfaaGreatDoor
