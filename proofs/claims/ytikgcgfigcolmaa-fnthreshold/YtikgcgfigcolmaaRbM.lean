/- The best of several lists: the mathematics. No condition. -/
import Derived.Test.YtikgcgfigcolmaaRkM
namespace Go.Proofs.Ytikgcgfigcolmaa
open Go.RowKit
set_option linter.unusedVariables false

theorem ahd_iff (a b : DScored) : ahd a b = true ↔ (b.2 < a.2 ∨ (a.2 = b.2 ∧ a.1 < b.1)) := by unfold ahd; simp
theorem ahd_irr (a : DScored) : ¬ ahd a a = true := by rw [ahd_iff]; omega
theorem ahd_trans {a b c : DScored} (h : ahd a b = true) (k : ahd b c = true) : ahd a c = true := by rw [ahd_iff] at *; omega
theorem ahd_asymm {a b : DScored} (h : ahd a b = true) : ¬ ahd b a = true := by rw [ahd_iff] at *; omega
theorem ahd_total {a b : DScored} (h : a.1 ≠ b.1) (k : ¬ ahd a b = true) : ahd b a = true := by rw [ahd_iff] at *; omega

/-- They stand in their order. -/
def Srt (l : List DScored) : Prop := l.Pairwise fun a b => ahd a b = true
/-- Two lists in their order with the same ones are one. -/
theorem srt_unique : ∀ (l m : List DScored), Srt l → Srt m → (∀ x, x ∈ l ↔ x ∈ m) → l = m
  | [], [], _, _, _ => rfl
  | [], b :: m, _, _, h => by have := (h b).2 (by simp); simp at this
  | a :: l, [], _, _, h => by have := (h a).1 (by simp); simp at this
  | a :: l, b :: m, hl, hm, h => by
    have hl' := List.pairwise_cons.1 hl
    have hm' := List.pairwise_cons.1 hm
    have hab : a = b := by
      rcases List.mem_cons.1 ((h a).1 (by simp)) with e | e
      · exact e
      · rcases List.mem_cons.1 ((h b).2 (by simp)) with e' | e'
        · exact e'.symm
        · exact absurd (hm'.1 a e) (ahd_asymm (hl'.1 b e'))
    subst hab
    rw [srt_unique l m hl'.2 hm'.2 fun x => ?_]
    constructor
    · intro hx
      rcases List.mem_cons.1 ((h x).1 (by simp [hx])) with e | e
      · subst e; exact absurd (hl'.1 x hx) (ahd_irr x)
      · exact e
    · intro hx
      rcases List.mem_cons.1 ((h x).2 (by simp [hx])) with e | e
      · subst e; exact absurd (hm'.1 x hx) (ahd_irr x)
      · exact e

/-- How many stand ahead at the front. -/
def posL : List DScored → DScored → Nat
  | [], _ => 0
  | y :: r, s => if ahd y s = true then posL r s + 1 else 0
/-- One put to its place. -/
def insL : List DScored → DScored → List DScored
  | [], s => [s]
  | y :: r, s => if ahd y s = true then y :: insL r s else s :: y :: r
/-- One put to its place, once. -/
def putL (l : List DScored) (s : DScored) : List DScored := if noId l s.1 = true then insL l s else l
theorem insL_is : ∀ (l : List DScored) (s : DScored), insL l s = l.take (posL l s) ++ s :: l.drop (posL l s)
  | [], s => rfl
  | y :: r, s => by
    rw [insL, posL]
    split
    · rw [insL_is r s]; rfl
    · rfl
theorem posL_le : ∀ (l : List DScored) (s : DScored), posL l s ≤ l.length
  | [], s => Nat.le_refl _
  | y :: r, s => by
    rw [posL]
    have := posL_le r s
    split
    · simp; exact this
    · simp
theorem posL_drop {l : List DScored} {k : Nat} {x : DScored} (h : l[k]? = some x) (s : DScored) : posL (l.drop k) s = if ahd x s = true then posL (l.drop (k + 1)) s + 1 else 0 := by
  have hk := (List.getElem?_eq_some_iff.1 h)
  rw [List.drop_eq_getElem_cons hk.1, hk.2, posL]
theorem insL_length : ∀ (l : List DScored) (s : DScored), (insL l s).length = l.length + 1
  | [], s => rfl
  | y :: r, s => by
    rw [insL]
    split
    · simp [insL_length r s]
    · rfl
theorem insL_mem : ∀ (l : List DScored) (s x : DScored), x ∈ insL l s ↔ x = s ∨ x ∈ l
  | [], s, x => by simp [insL]
  | y :: r, s, x => by
    rw [insL]
    split
    · simp only [List.mem_cons, insL_mem r s x]
      constructor
      · rintro (h | h | h) <;> simp [h]
      · rintro (h | h | h) <;> simp [h]
    · simp [List.mem_cons]
theorem insL_srt : ∀ (l : List DScored) (s : DScored), noId l s.1 = true → Srt l → Srt (insL l s)
  | [], s, _, _ => by simp [insL, Srt]
  | y :: r, s, hn, h => by
    have h' := List.pairwise_cons.1 h
    have hn' := (noId_iff _ _).1 hn
    rw [insL]
    split
    · rename_i hy
      refine List.pairwise_cons.2 ⟨fun z hz => ?_, insL_srt r s ((noId_iff _ _).2 fun z hz => hn' z (by simp [hz])) h'.2⟩
      rcases (insL_mem r s z).1 hz with rfl | hz
      · exact hy
      · exact h'.1 z hz
    · rename_i hy
      have hsy : ahd s y = true := ahd_total (hn' y (by simp)) hy
      refine List.pairwise_cons.2 ⟨fun z hz => ?_, h⟩
      rcases List.mem_cons.1 hz with rfl | hz
      · exact hsy
      · exact ahd_trans hsy (h'.1 z hz)
theorem putL_srt {l : List DScored} (s : DScored) (h : Srt l) : Srt (putL l s) := by
  unfold putL
  split
  · rename_i hn; exact insL_srt l s hn h
  · exact h
theorem putL_length (l : List DScored) (s : DScored) : (putL l s).length ≤ l.length + 1 := by
  unfold putL
  split
  · rw [insL_length]; exact Nat.le_refl _
  · omega
/-- Put all, one behind the other. -/
def putAll (l : List DScored) (ss : List DScored) : List DScored := ss.foldl putL l
theorem putAll_length : ∀ (ss l : List DScored), (putAll l ss).length ≤ l.length + ss.length
  | [], l => by simp [putAll]
  | s :: r, l => by
    have := putAll_length r (putL l s)
    have h2 := putL_length l s
    simp only [putAll, List.foldl_cons, List.length_cons] at *
    omega
theorem putAll_srt : ∀ (ss l : List DScored), Srt l → Srt (putAll l ss)
  | [], l, h => h
  | s :: r, l, h => putAll_srt r (putL l s) (putL_srt s h)
theorem putAll_append (l a b : List DScored) : putAll l (a ++ b) = putAll (putAll l a) b := by simp [putAll]
theorem srt_nil : Srt [] := List.Pairwise.nil
/-- Each has its own sum. -/
def Sums (f : Int → Int) (l : List DScored) : Prop := ∀ x ∈ l, x.2 = f x.1
theorem putL_sums {f : Int → Int} {l : List DScored} (i : Int) (h : Sums f l) : Sums f (putL l (i, f i)) := by
  unfold putL
  split
  · intro x hx
    rcases (insL_mem _ _ _).1 hx with rfl | hx
    · rfl
    · exact h x hx
  · exact h
theorem putL_mem {f : Int → Int} {l : List DScored} (i : Int) (h : Sums f l) (x : DScored) : x ∈ putL l (i, f i) ↔ x = (i, f i) ∨ x ∈ l := by
  unfold putL
  split
  · exact insL_mem _ _ _
  · rename_i hn
    constructor
    · exact .inr
    · rintro (rfl | hx)
      · cases e : noId l i with
        | true => exact absurd e hn
        | false =>
          obtain ⟨y, hy, h1, _⟩ := scoreL_mem l i e
          have := h y hy
          rw [h1] at this
          have e2 : y = (i, f i) := Prod.ext h1 this
          exact e2 ▸ hy
      · exact hx
/-- Put ids, with their sums. -/
def putIds (f : Int → Int) (l : List DScored) (is : List Int) : List DScored := putAll l (is.map fun i => (i, f i))
theorem putIds_cons (f : Int → Int) (l : List DScored) (i : Int) (is : List Int) : putIds f l (i :: is) = putIds f (putL l (i, f i)) is := rfl
theorem putIds_append (f : Int → Int) (l : List DScored) (a b : List Int) : putIds f l (a ++ b) = putIds f (putIds f l a) b := by
  unfold putIds
  rw [List.map_append, putAll_append]
theorem putIds_sums {f : Int → Int} : ∀ (is : List Int) (l : List DScored), Sums f l → Sums f (putIds f l is)
  | [], l, h => h
  | i :: r, l, h => by rw [putIds_cons]; exact putIds_sums r _ (putL_sums i h)
theorem putIds_mem {f : Int → Int} : ∀ (is : List Int) (l : List DScored), Sums f l → ∀ x, x ∈ putIds f l is ↔ x ∈ l ∨ (x.1 ∈ is ∧ x.2 = f x.1)
  | [], l, h, x => by simp [putIds, putAll]
  | i :: r, l, h, x => by
    rw [putIds_cons, putIds_mem r _ (putL_sums i h), putL_mem i h]
    constructor
    · rintro ((rfl | h1) | h1)
      · exact .inr ⟨by simp, rfl⟩
      · exact .inl h1
      · exact .inr ⟨by simp [h1.1], h1.2⟩
    · rintro (h1 | ⟨h1, h2⟩)
      · exact .inl (.inr h1)
      · rcases List.mem_cons.1 h1 with e | e
        · exact .inl (.inl (Prod.ext e (by rw [h2, e])))
        · exact .inr ⟨e, h2⟩
theorem putIds_srt (f : Int → Int) (is : List Int) (l : List DScored) (h : Srt l) : Srt (putIds f l is) := putAll_srt _ _ h
theorem putIds_length (f : Int → Int) (is : List Int) (l : List DScored) : (putIds f l is).length ≤ l.length + is.length := by
  have := putAll_length (is.map fun i => (i, f i)) l
  simpa [putIds] using this
/-- What is put hangs on the ids alone, not on their order. -/
theorem putIds_same {f : Int → Int} {a b : List Int} (h : ∀ i, i ∈ a ↔ i ∈ b) : putIds f [] a = putIds f [] b := by
  have hs : Sums f [] := fun x hx => by simp at hx
  refine srt_unique _ _ (putIds_srt f a _ srt_nil) (putIds_srt f b _ srt_nil) fun x => ?_
  rw [putIds_mem a _ hs, putIds_mem b _ hs, h]

/-- One met anew put behind, one met again not. -/
def meetL (l : List DScored) (s : DScored) : List DScored := if noId l s.1 = true then l ++ [s] else l
def meetIds (f : Int → Int) (l : List DScored) (is : List Int) : List DScored := (is.map fun i => (i, f i)).foldl meetL l
theorem meetIds_cons (f : Int → Int) (l : List DScored) (i : Int) (is : List Int) : meetIds f l (i :: is) = meetIds f (meetL l (i, f i)) is := rfl
theorem meetIds_append (f : Int → Int) (l : List DScored) (a b : List Int) : meetIds f l (a ++ b) = meetIds f (meetIds f l a) b := by simp [meetIds]
theorem meetL_sums {f : Int → Int} {l : List DScored} (i : Int) (h : Sums f l) : Sums f (meetL l (i, f i)) := by
  unfold meetL
  split
  · intro x hx
    rcases List.mem_append.1 hx with hx | hx
    · exact h x hx
    · obtain rfl : x = (i, f i) := by simpa using hx
      rfl
  · exact h
theorem meetL_mem {f : Int → Int} {l : List DScored} (i : Int) (h : Sums f l) (x : DScored) : x ∈ meetL l (i, f i) ↔ x = (i, f i) ∨ x ∈ l := by
  unfold meetL
  split
  · rw [List.mem_append]
    constructor
    · rintro (h1 | h1)
      · exact .inr h1
      · exact .inl (by simpa using h1)
    · rintro (h1 | h1)
      · exact .inr (by simp [h1])
      · exact .inl h1
  · rename_i hn
    constructor
    · exact .inr
    · rintro (rfl | hx)
      · cases e : noId l i with
        | true => exact absurd e hn
        | false =>
          obtain ⟨y, hy, h1, _⟩ := scoreL_mem l i e
          have := h y hy
          rw [h1] at this
          have e2 : y = (i, f i) := Prod.ext h1 this
          exact e2 ▸ hy
      · exact hx
theorem meetIds_sums {f : Int → Int} : ∀ (is : List Int) (l : List DScored), Sums f l → Sums f (meetIds f l is)
  | [], l, h => h
  | i :: r, l, h => by rw [meetIds_cons]; exact meetIds_sums r _ (meetL_sums i h)
theorem meetIds_mem {f : Int → Int} : ∀ (is : List Int) (l : List DScored), Sums f l → ∀ x, x ∈ meetIds f l is ↔ x ∈ l ∨ (x.1 ∈ is ∧ x.2 = f x.1)
  | [], l, h, x => by simp [meetIds]
  | i :: r, l, h, x => by
    rw [meetIds_cons, meetIds_mem r _ (meetL_sums i h), meetL_mem i h]
    constructor
    · rintro ((rfl | h1) | h1)
      · exact .inr ⟨by simp, rfl⟩
      · exact .inl h1
      · exact .inr ⟨by simp [h1.1], h1.2⟩
    · rintro (h1 | ⟨h1, h2⟩)
      · exact .inl (.inr h1)
      · rcases List.mem_cons.1 h1 with e | e
        · exact .inl (.inl (Prod.ext e (by rw [h2, e])))
        · exact .inr ⟨e, h2⟩
/-- No id twice. -/
def NoTwice (l : List DScored) : Prop := l.Pairwise fun a b => a.1 ≠ b.1
theorem meetL_once {l : List DScored} (s : DScored) (h : NoTwice l) : NoTwice (meetL l s) := by
  unfold meetL
  split
  · rename_i hn
    refine List.pairwise_append.2 ⟨h, by simp, fun a ha b hb => ?_⟩
    obtain rfl : b = s := by simpa using hb
    exact (noId_iff _ _).1 hn a ha
  · exact h
theorem meetIds_once {f : Int → Int} : ∀ (is : List Int) (l : List DScored), NoTwice l → NoTwice (meetIds f l is)
  | [], l, h => h
  | i :: r, l, h => by rw [meetIds_cons]; exact meetIds_once r _ (meetL_once _ h)
theorem meetL_length (l : List DScored) (s : DScored) : (meetL l s).length ≤ l.length + 1 := by
  unfold meetL
  split
  · simp
  · omega
theorem meetIds_length {f : Int → Int} : ∀ (is : List Int) (l : List DScored), (meetIds f l is).length ≤ l.length + is.length
  | [], l => by simp [meetIds]
  | i :: r, l => by
    have := meetIds_length (f := f) r (meetL l (i, f i))
    have h2 := meetL_length l (i, f i)
    rw [meetIds_cons]
    simp only [List.length_cons]
    omega
theorem NoTwice.inj {l : List DScored} (h : NoTwice l) {a b : DScored} (ha : a ∈ l) (hb : b ∈ l) (e : a.1 = b.1) : a = b := by
  unfold NoTwice at h
  induction l with
  | nil => simp at ha
  | cons x t ih =>
    have h' := List.pairwise_cons.1 h
    rcases List.mem_cons.1 ha with ea | ha2
    · rcases List.mem_cons.1 hb with eb | hb2
      · rw [ea, eb]
      · subst ea; exact absurd e (h'.1 b hb2)
    · rcases List.mem_cons.1 hb with eb | hb2
      · subst eb; exact absurd e.symm (h'.1 a ha2)
      · exact ih h'.2 ha2 hb2
end Go.Proofs.Ytikgcgfigcolmaa
