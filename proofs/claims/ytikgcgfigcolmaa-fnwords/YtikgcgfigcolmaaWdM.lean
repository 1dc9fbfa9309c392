/- Words of a text: the mathematics. No condition. -/
import Derived.Test.YtikgcgfigcolmaaAp
namespace Go.Proofs.Ytikgcgfigcolmaa
open Go.RowKit
set_option linter.unusedVariables false

/-- A great letter made small. -/
def smB (c : UInt8) : UInt8 := if 65 ≤ c.toNat ∧ c.toNat ≤ 90 then c + 32 else c
/-- A small letter or a digit. -/
def isWB (c : UInt8) : Bool := decide (97 ≤ c.toNat ∧ c.toNat ≤ 122 ∨ 48 ≤ c.toNat ∧ c.toNat ≤ 57)
theorem smB_nat (c : UInt8) : (smB c).toNat = if 65 ≤ c.toNat ∧ c.toNat ≤ 90 then c.toNat + 32 else c.toNat := by
  unfold smB
  split
  · rw [UInt8.toNat_add]
    simp
    omega
  · rfl
theorem isWB_pos {c : UInt8} (h : isWB c = true) : 0 < c.toNat := by
  unfold isWB at h
  simp only [decide_eq_true_eq] at h
  omega

/-- The word at the front, of at most so many bytes. -/
def takeW : Nat → List UInt8 → List UInt8
  | 0, _ => []
  | _ + 1, [] => []
  | n + 1, c :: t => if isWB (smB c) = true then smB c :: takeW n t else []
/-- The words, one of which has begun. -/
def goW : List UInt8 → List UInt8 → List (List UInt8)
  | acc, [] => if acc = [] then [] else [acc]
  | acc, c :: t => if isWB (smB c) = true then (if acc.length + 1 = 20 then (acc ++ [smB c]) :: goW [] t else goW (acc ++ [smB c]) t) else (if acc = [] then goW [] t else acc :: goW [] t)

theorem takeW_len : ∀ (n : Nat) (l : List UInt8), (takeW n l).length ≤ n ∧ (takeW n l).length ≤ l.length
  | 0, l => by simp [takeW]
  | n + 1, [] => by simp [takeW]
  | n + 1, c :: t => by
    have := takeW_len n t
    unfold takeW
    split <;> simp <;> omega
theorem goW_take : ∀ (l acc : List UInt8), acc.length < 20 → goW acc l = if acc ++ takeW (20 - acc.length) l = [] then goW [] l.tail else (acc ++ takeW (20 - acc.length) l) :: goW [] (l.drop (takeW (20 - acc.length) l).length)
  | [], acc, h => by
    obtain ⟨n, hn⟩ : ∃ n, 20 - acc.length = n + 1 := ⟨19 - acc.length, by omega⟩
    rw [hn]
    by_cases e : acc = [] <;> simp [goW, takeW, e]
  | c :: t, acc, h => by
    obtain ⟨n, hn⟩ : ∃ n, 20 - acc.length = n + 1 := ⟨19 - acc.length, by omega⟩
    rw [hn]
    by_cases hw : isWB (smB c) = true
    · have ht : takeW (n + 1) (c :: t) = smB c :: takeW n t := by rw [takeW, if_pos hw]
      rw [ht]
      by_cases e : acc.length + 1 = 20
      · have hn0 : n = 0 := by omega
        subst hn0
        rw [goW, if_pos hw, if_pos e]
        simp [takeW]
      · rw [goW, if_pos hw, if_neg e, goW_take t (acc ++ [smB c]) (by simp; omega)]
        have hn' : 20 - (acc ++ [smB c]).length = n := by simp; omega
        rw [hn']
        simp
    · have ht : takeW (n + 1) (c :: t) = [] := by rw [takeW, if_neg hw]
      rw [ht, goW, if_neg hw]
      by_cases e : acc = []
      · simp [e]
      · simp only [if_neg e, List.append_nil, List.length_nil, List.drop_zero]
        rw [goW, if_neg hw]
        simp
theorem goW_front (l : List UInt8) : goW [] l = if takeW 20 l = [] then goW [] l.tail else takeW 20 l :: goW [] (l.drop (takeW 20 l).length) := by
  have := goW_take l [] (by decide)
  simpa using this
/-- Whether it is a word. -/
def isWL (l : List UInt8) : Bool := decide (l ≠ [] ∧ takeW 20 l = l)
theorem goW_mem : ∀ (l acc : List UInt8), ∀ u ∈ goW acc l, u.length ≤ acc.length + l.length
  | [], acc, u, hu => by
    unfold goW at hu
    split at hu
    · simp at hu
    · simp at hu
      simp [hu]
  | c :: t, acc, u, hu => by
    unfold goW at hu
    split at hu
    · split at hu
      · rcases List.mem_cons.1 hu with rfl | hu
        · simp
        · have := goW_mem t [] u hu
          simp at this ⊢
          omega
      · have := goW_mem t _ u hu
        simp at this ⊢
        omega
    · split at hu
      · have := goW_mem t [] u hu
        simp at this ⊢
        omega
      · rcases List.mem_cons.1 hu with rfl | hu
        · simp
        · have := goW_mem t [] u hu
          simp at this ⊢
          omega
theorem goW_one (l : List UInt8) : goW [] l = [l] ↔ isWL l = true := by
  unfold isWL
  simp only [decide_eq_true_eq]
  rw [goW_front]
  constructor
  · intro h
    split at h
    · next e =>
      cases l with
      | nil => simp [goW] at h
      | cons c t =>
        have := goW_mem t [] (c :: t) (by rw [List.tail_cons] at h; rw [h]; simp)
        simp at this
        omega
    · next e =>
      have h1 : takeW 20 l = l := by
        injection h
      exact ⟨by rw [← h1]; exact e, h1⟩
  · rintro ⟨h1, h2⟩
    rw [h2, if_neg h1, List.drop_length]
    simp [goW]
theorem goW_count : ∀ (l acc : List UInt8), (goW acc l).length ≤ l.length + (if acc = [] then 0 else 1)
  | [], acc => by
    unfold goW
    split <;> simp
  | c :: t, acc => by
    unfold goW
    split
    · split
      · have := goW_count t []
        simp at this ⊢
        omega
      · have := goW_count t (acc ++ [smB c])
        simp at this ⊢
        split <;> omega
    · split
      · have := goW_count t []
        simp at this ⊢
        omega
      · have := goW_count t []
        simp at this ⊢
        omega
/-- The words of a text. -/
def wordsB (s : ByteArray) : List ByteArray := (goW [] s.data.toList).map strL
def isWordB (s : ByteArray) : Bool := isWL s.data.toList

theorem strL_data (s : ByteArray) : strL s.data.toList = s := by
  apply ByteArray.ext
  simp [strL]
theorem strL_inj {a b : List UInt8} (h : strL a = strL b) : a = b := by
  have := congrArg (fun x => x.data.toList) h
  simpa [strL] using this
theorem words_one (s : ByteArray) : wordsB s = [s] ↔ isWordB s = true := by
  unfold wordsB isWordB
  rw [← goW_one]
  constructor
  · intro h
    obtain ⟨x, hx⟩ : ∃ x, goW [] s.data.toList = [x] := by
      have hl := congrArg List.length h
      simp at hl
      exact List.length_eq_one_iff.1 hl
    rw [hx] at h ⊢
    simp only [List.map_cons, List.map_nil, List.cons.injEq, and_true] at h
    rw [← h]
    simp [strL]
  · intro h
    rw [h]
    simp [strL_data]
theorem data_get (s : ByteArray) (k : Nat) (h : k < s.size) : s.data.toList[k]? = some s[k] := by
  rw [List.getElem?_eq_getElem (by simpa using h)]
  simp
  rfl
theorem data_drop (s : ByteArray) (k : Nat) (h : k < s.size) : s.data.toList.drop k = s[k] :: s.data.toList.drop (k + 1) := by
  rw [List.drop_eq_getElem_cons (by simpa using h)]
  congr 1
theorem data_len (s : ByteArray) : s.data.toList.length = s.size := by simp
end Go.Proofs.Ytikgcgfigcolmaa
