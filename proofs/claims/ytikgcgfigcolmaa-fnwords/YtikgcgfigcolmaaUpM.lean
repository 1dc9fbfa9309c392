/- Bytes read as postings: the mathematics. No program in this text. -/
import Derived.Test.YtikgcgfigcolmaaSeS
import Derived.Test.YtikgcgfigcolmaaWdM
namespace Go.Proofs.Ytikgcgfigcolmaa
open Go.RowKit
set_option linter.unusedVariables false

/-- A number at the front, as it must be written. -/
def rd2 : List UInt8 → Option (Int × List UInt8)
  | [] => none
  | b :: t => if b.toNat < 128 then some ((b.toNat : Int), t) else match t with
    | [] => none
    | c :: u => if c.toNat < 128 ∧ 0 < c.toNat then some ((b.toNat : Int) % 128 + (c.toNat : Int) * 128, u) else none
/-- A number at the front, of up to three bytes, however written. -/
def tk3 : List UInt8 → Option (Int × Nat)
  | [] => none
  | b :: t => if b.toNat < 128 then some ((b.toNat : Int), 1) else match t with
    | [] => none
    | c :: u => if c.toNat < 128 then some ((b.toNat : Int) % 128 + (c.toNat : Int) * 128, 2) else match u with
      | [] => none
      | d :: v => if d.toNat < 128 then some ((b.toNat : Int) % 128 + (c.toNat : Int) % 128 * 128 + (d.toNat : Int) * 16384, 3) else none

theorem rd2_tk {l r : List UInt8} {a : Int} (h : rd2 l = some (a, r)) : ∃ n, tk3 l = some (a, n) ∧ l.drop n = r ∧ 0 < n ∧ n ≤ l.length := by
  match l, h with
  | b :: t, h =>
    simp only [rd2.eq_def] at h
    simp only [tk3.eq_def]
    split at h
    · next hb =>
      simp only [Option.some.injEq, Prod.mk.injEq] at h
      rw [if_pos hb]
      exact ⟨1, by rw [h.1], by simp [h.2], by omega, by simp⟩
    · next hb =>
      rw [if_neg hb]
      match t, h with
      | c :: u, h =>
        try simp only at h ⊢
        split at h
        · next hc =>
          simp only [Option.some.injEq, Prod.mk.injEq] at h
          rw [if_pos hc.1]
          exact ⟨2, by rw [h.1], by simp [h.2], by omega, by simp⟩
        · cases h
theorem rd2_bounds {l r : List UInt8} {a : Int} (h : rd2 l = some (a, r)) : 0 ≤ a ∧ a < 16384 ∧ r.length < l.length := by
  match l, h with
  | b :: t, h =>
    simp only [rd2.eq_def] at h
    split at h
    · next hb =>
      simp only [Option.some.injEq, Prod.mk.injEq] at h
      refine ⟨by omega, by omega, by rw [← h.2]; simp⟩
    · next hb =>
      match t, h with
      | c :: u, h =>
        try simp only at h
        split at h
        · next hc =>
          simp only [Option.some.injEq, Prod.mk.injEq] at h
          refine ⟨by omega, by omega, by rw [← h.2]; simp; omega⟩
        · cases h
theorem tk3_bounds {l : List UInt8} {a : Int} {n : Nat} (h : tk3 l = some (a, n)) : 0 ≤ a ∧ a < 2097152 ∧ 0 < n ∧ n ≤ 3 ∧ n ≤ l.length := by
  match l, h with
  | b :: t, h =>
    simp only [tk3.eq_def] at h
    split at h
    · simp only [Option.some.injEq, Prod.mk.injEq] at h
      simp
      omega
    · match t, h with
      | c :: u, h =>
        try simp only at h
        split at h
        · simp only [Option.some.injEq, Prod.mk.injEq] at h
          simp
          omega
        · match u, h with
          | d :: v, h =>
            try simp only at h
            split at h
            · simp only [Option.some.injEq, Prod.mk.injEq] at h
              simp
              omega
            · cases h

/-- Bytes as the program reads them. -/
def parseU : Nat → Nat → Int → List UInt8 → Option (List DPosting)
  | _, _, _, [] => some []
  | 0, _, _, _ :: _ => none
  | f + 1, cnt, last, b :: t => match rd2 (b :: t) with
    | none => none
    | some (a, r) => match rd2 r with
      | none => none
      | some (m, r') => if cnt = 0 then none else (parseU f (cnt - 1) (last + a + 1) r').map fun q => (last + a + 1, m) :: q
/-- Bytes as the specification reads them. -/
def parseL : Nat → Nat → Int → List UInt8 → Option (List DPosting)
  | _, _, _, [] => some []
  | _, 0, _, _ :: _ => some []
  | 0, _ + 1, _, _ :: _ => none
  | f + 1, cnt + 1, last, b :: t => match tk3 (b :: t) with
    | none => none
    | some (a, n) => match tk3 ((b :: t).drop n) with
      | none => none
      | some (m, k) => (parseL f cnt (last + a + 1) (((b :: t).drop n).drop k)).map fun q => (last + a + 1, m) :: q
/-- UnpackPostings. -/
def fUnpackPostings (s : ByteArray) : List DPosting × Bool := match parseU s.size 200 (-1) s.data.toList with
  | some l => if postOk 10001 (-1) l = true then (l, true) else ([], false)
  | none => ([], false)

/-- The bytes of a number. -/
def sevB (n : Int) : List UInt8 := (sev n).map fun x => UInt8.ofNat x.toNat
def packB (last : Int) (l : List DPosting) : List UInt8 := (packN last l).map fun x => UInt8.ofNat x.toNat
theorem packB_cons (last t m : Int) (r : List DPosting) : packB last ((t, m) :: r) = sevB (t - last - 1) ++ (sevB m ++ packB t r) := by
  unfold packB sevB
  rw [packN]
  simp
theorem ofNat_nat (n : Nat) (h : n < 256) : (UInt8.ofNat n).toNat = n := by
  rw [UInt8.toNat_ofNat']
  omega
theorem rd2_sev (n : Int) (r : List UInt8) (h0 : 0 ≤ n) (h1 : n < 16384) : rd2 (sevB n ++ r) = some (n, r) := by
  unfold sevB sev
  by_cases h : 128 ≤ n
  · rw [if_pos h]
    have e1 : (UInt8.ofNat (n % 128 + 128).toNat).toNat = (n % 128 + 128).toNat := ofNat_nat _ (by omega)
    have e2 : (UInt8.ofNat (n / 128).toNat).toNat = (n / 128).toNat := ofNat_nat _ (by omega)
    simp only [List.map_cons, List.map_nil, List.cons_append, List.nil_append, rd2]
    rw [e1, e2, if_neg (by omega), if_pos (by omega)]
    congr 2
    omega
  · rw [if_neg h]
    have e1 : (UInt8.ofNat n.toNat).toNat = n.toNat := ofNat_nat _ (by omega)
    simp only [List.map_cons, List.map_nil, List.cons_append, List.nil_append, rd2]
    rw [e1, if_pos (by omega)]
    congr 2
    omega
theorem sev_rd2 {l r : List UInt8} {a : Int} (h : rd2 l = some (a, r)) : l = sevB a ++ r := by
  match l, h with
  | b :: t, h =>
    have hb8 := UInt8.toNat_lt b
    simp only [rd2.eq_def] at h
    split at h
    · next hb =>
      simp only [Option.some.injEq, Prod.mk.injEq] at h
      obtain ⟨rfl, rfl⟩ := h
      unfold sevB sev
      rw [if_neg (by omega)]
      simp
    · next hb =>
      match t, h with
      | c :: u, h =>
        have hc8 := UInt8.toNat_lt c
        try simp only at h
        split at h
        · next hc =>
          simp only [Option.some.injEq, Prod.mk.injEq] at h
          obtain ⟨rfl, rfl⟩ := h
          unfold sevB sev
          rw [if_pos (by omega)]
          have e1 : (((b.toNat : Int) % 128 + (c.toNat : Int) * 128) % 128 + 128).toNat = b.toNat := by omega
          have e2 : (((b.toNat : Int) % 128 + (c.toNat : Int) * 128) / 128).toNat = c.toNat := by omega
          simp only [List.map_cons, List.map_nil, e1, e2, UInt8.ofNat_toNat]
          rfl
        · cases h
theorem sevB_ne (n : Int) (r : List UInt8) : ∃ b t, sevB n ++ r = b :: t := by
  unfold sevB sev
  split <;> simp

theorem parse_pack : ∀ (L : List DPosting) (f cnt : Nat) (last : Int), L.length ≤ f → L.length ≤ cnt → -1 ≤ last → postOk 10001 last L = true → parseU f cnt last (packB last L) = some L
  | [], f, cnt, last, _, _, _, _ => by simp [packB, packN, parseU]
  | (t, m) :: r, f, cnt, last, hf, hc, hl, hok => by
    rw [postOk, Bool.and_eq_true, decide_eq_true_eq] at hok
    obtain ⟨⟨j1, j2, j3, j4⟩, j5⟩ := hok
    simp only [List.length_cons] at hf hc
    obtain ⟨f, rfl⟩ : ∃ g, f = g + 1 := ⟨f - 1, by omega⟩
    obtain ⟨b, u, hb⟩ := sevB_ne (t - last - 1) (sevB m ++ packB t r)
    rw [packB_cons, hb, parseU, ← hb, rd2_sev _ _ (by omega) (by omega)]
    simp only
    rw [rd2_sev _ _ (by omega) (by omega)]
    simp only
    rw [if_neg (by omega), show last + (t - last - 1) + 1 = t by omega, parse_pack r f (cnt - 1) t (by omega) (by omega) (by omega) j5]
    rfl
theorem pack_parse : ∀ (f cnt : Nat) (last : Int) (l : List UInt8) (L : List DPosting), parseU f cnt last l = some L → packB last L = l ∧ L.length ≤ cnt
  | f, cnt, last, [], L, h => by
    rw [parseU.eq_def] at h
    simp only [Option.some.injEq] at h
    subst h
    simp [packB, packN]
  | 0, cnt, last, b :: t, L, h => by simp [parseU] at h
  | f + 1, cnt, last, b :: t, L, h => by
    rw [parseU] at h
    split at h
    · cases h
    · next a r h1 =>
      split at h
      · cases h
      · next m r' h2 =>
        split at h
        · cases h
        · next hc =>
          obtain ⟨q, hq, rfl⟩ := Option.map_eq_some_iff.1 h
          obtain ⟨i1, i2⟩ := pack_parse f (cnt - 1) _ r' q hq
          rw [packB_cons, i1, show last + a + 1 - last - 1 = a by omega, ← sev_rd2 h2, ← sev_rd2 h1]
          exact ⟨rfl, by simp; omega⟩
theorem parse_lenient : ∀ (f cnt cnt' : Nat) (last : Int) (l : List UInt8) (L : List DPosting), parseU f cnt last l = some L → cnt < cnt' → parseL f cnt' last l = some L
  | f, cnt, cnt', last, [], L, h, _ => by
    rw [parseU.eq_def] at h
    simp only [Option.some.injEq] at h
    subst h
    simp [parseL]
  | 0, cnt, cnt', last, b :: t, L, h, _ => by simp [parseU] at h
  | f + 1, cnt, cnt', last, b :: t, L, h, hcc => by
    obtain ⟨c', rfl⟩ : ∃ c', cnt' = c' + 1 := ⟨cnt' - 1, by omega⟩
    rw [parseU] at h
    split at h
    · cases h
    · next a r h1 =>
      split at h
      · cases h
      · next m r' h2 =>
        split at h
        · cases h
        · next hc =>
          obtain ⟨q, hq, rfl⟩ := Option.map_eq_some_iff.1 h
          obtain ⟨n1, k1, k2, _, _⟩ := rd2_tk h1
          obtain ⟨n2, k3, k4, _, _⟩ := rd2_tk h2
          rw [parseL, k1]
          simp only
          rw [k2, k3]
          simp only
          rw [k4, parse_lenient f (cnt - 1) c' _ r' q hq (by omega)]
          rfl
theorem packN_size : ∀ (l : List DPosting) (last : Int), 2 * l.length ≤ (packN last l).length
  | [], _ => by simp [packN]
  | (t, m) :: r, last => by
    have h1 := packN_size r t
    have h2 : 1 ≤ (sev (t - last - 1)).length := by unfold sev; split <;> simp
    have h3 : 1 ≤ (sev m).length := by unfold sev; split <;> simp
    simp only [packN, List.length_append, List.length_cons]
    omega
/-- Both read the same. -/
theorem unpack_same (s : ByteArray) : fUnpackPostings s = match parseL s.size 201 (-1) s.data.toList with
    | none => ([], false)
    | some L => if postOk 10001 (-1) L = true ∧ L.length ≤ 200 ∧ strOfNums (packN (-1) L) = s then (L, true) else ([], false) := by
  unfold fUnpackPostings
  cases h : parseU s.size 200 (-1) s.data.toList with
  | some L =>
    rw [parse_lenient _ _ 201 _ _ _ h (by omega)]
    obtain ⟨h1, h2⟩ := pack_parse _ _ _ _ _ h
    have h3 : strOfNums (packN (-1) L) = s := by
      apply ByteArray.ext
      apply Array.toList_inj.1
      exact h1
    simp only
    by_cases ho : postOk 10001 (-1) L = true
    · rw [if_pos ho, if_pos ⟨ho, h2, h3⟩]
    · rw [if_neg ho, if_neg (fun h => ho h.1)]
  | none =>
    cases h' : parseL s.size 201 (-1) s.data.toList with
    | none => rfl
    | some L =>
      simp only
      rw [if_neg]
      rintro ⟨h1, h2, h3⟩
      have hs : s.size = (packN (-1) L).length := by rw [← h3]; exact strOf_size _
      have h4 := packN_size L (-1)
      have h5 := parse_pack L s.size 200 (-1) (by omega) h2 (by omega) h1
      have h6 : packB (-1) L = s.data.toList := by rw [← h3]; rfl
      rw [h6, h] at h5
      cases h5
end Go.Proofs.Ytikgcgfigcolmaa
