/- An entry looked for by halving: the program's listOf. No condition but that the words rise. -/
import Derived.Test.YtdaomklgcdfllaaLoM
import Derived.Test.YtdaomklgcdfllaaWgI
namespace Go.Proofs.Ytdaomklgcdfllaa
open Go.RowKit
set_option linter.unusedVariables false

set_option maxRecDepth 100000 in
set_option maxHeartbeats 1000000 in
theorem listOf1_k (x s : ByteArray) (a : Option Addr) (n c : Nat) (w : World) :
    Calls Try.prog 109 #[.agg #[.string x, .slice a n c], .string s] w fun e w' => e = .returned (.int .i64 (cmpB x s)) ∧ Below w.heap.size w w' := by
  go_enter Try.func109, Try.ntmps109
  go_wp2_with (first | (go_at_call 110; refine (Try.strings_Compare _ _ _).mono ?_; rintro e w' ⟨rfl, rfl⟩))
  go_ret
  exact ⟨rfl, by go_grown⟩

/-- How many entries' words lie ahead of s. -/
def ahead (s : ByteArray) : List DEntry → Nat
  | [] => 0
  | (x, _) :: r => if lessB x s = true then ahead s r + 1 else 0
def wordAtE (es : List DEntry) (i : Nat) : ByteArray := ((es[i]?).map Prod.fst).getD ⟨#[]⟩
/-- The list of the entry with the word s. -/
def findL (s : ByteArray) : List DEntry → List DPosting
  | [] => []
  | (x, l) :: r => if x = s then l else findL s r
theorem findL_at {s : ByteArray} : ∀ (es : List DEntry) (i : Nat) (l : List DPosting), Rises es → es[i]? = some (s, l) → findL s es = l
  | [], i, l, _, h => by simp at h
  | (x, m) :: r, 0, l, _, h => by
    simp only [List.getElem?_cons_zero, Option.some.injEq, Prod.mk.injEq] at h
    rw [findL, if_pos h.1]
    exact h.2
  | (x, m) :: r, i + 1, l, hr, h => by
    have hx : lessB x s = true := hr 0 (i + 1) x m s l (by omega) rfl h
    have hne : ¬ x = s := fun e => by rw [e, lessB_irr] at hx; cases hx
    rw [findL, if_neg hne]
    exact findL_at r i l (fun i j x l y m hij hi hj => hr (i + 1) (j + 1) x l y m (by omega) (by simpa using hi) (by simpa using hj)) (by simpa using h)
theorem findL_none {s : ByteArray} : ∀ (es : List DEntry), (∀ (i : Nat) (x : ByteArray) (l : List DPosting), es[i]? = some (x, l) → x ≠ s) → findL s es = []
  | [], _ => rfl
  | (x, m) :: r, h => by
    rw [findL, if_neg (h 0 x m rfl)]
    exact findL_none r (fun i y l hi => h (i + 1) y l (by simpa using hi))
/-- How far a search has come. -/
def Nar (s : ByteArray) (es : List DEntry) (lo hi : Nat) : Prop := (∀ (i : Nat) (x : ByteArray) (l : List DPosting), i < lo → es[i]? = some (x, l) → lessB x s = true) ∧ ∀ (i : Nat) (x : ByteArray) (l : List DPosting), hi ≤ i → es[i]? = some (x, l) → lessB x s = false
theorem Nar.up {s : ByteArray} {es : List DEntry} {lo hi m : Nat} {x : ByteArray} {l : List DPosting} (h : Nar s es lo hi) (hr : Rises es) (hm : es[m]? = some (x, l)) (hx : lessB x s = true) : Nar s es (m + 1) hi :=
  ⟨fun i y k hi hy => by
    by_cases e : i = m
    · subst e
      rw [hm] at hy
      simp only [Option.some.injEq, Prod.mk.injEq] at hy
      rw [← hy.1]
      exact hx
    · exact lessB_trans (hr i m y k x l (by omega) hy hm) hx, h.2⟩
theorem Nar.down {s : ByteArray} {es : List DEntry} {lo hi m : Nat} {x : ByteArray} {l : List DPosting} (h : Nar s es lo hi) (hr : Rises es) (hm : es[m]? = some (x, l)) (hx : lessB x s = false) : Nar s es lo m :=
  ⟨h.1, fun i y k hi hy => by
    by_cases e : i = m
    · subst e
      rw [hm] at hy
      simp only [Option.some.injEq, Prod.mk.injEq] at hy
      rw [← hy.1]
      exact hx
    · cases hl : lessB y s with
      | false => rfl
      | true => rw [lessB_trans (hr m i x l y k (by omega) hm hy) hl] at hx; cases hx⟩
theorem Nar.found {s : ByteArray} {es : List DEntry} {k : Nat} {x : ByteArray} {l : List DPosting} (h : Nar s es k k) (hr : Rises es) (hm : es[k]? = some (x, l)) : findL s es = if x = s then l else [] := by
  by_cases e : x = s
  · subst e
    rw [if_pos rfl]
    exact findL_at es k l hr hm
  · rw [if_neg e]
    refine findL_none es (fun i y m hy he => ?_)
    subst he
    by_cases hi : i < k
    · have := h.1 i _ m hi hy
      rw [lessB_irr] at this
      cases this
    · by_cases hk : i = k
      · subst hk
        rw [hm] at hy
        simp only [Option.some.injEq, Prod.mk.injEq] at hy
        exact e hy.1
      · have h1 := hr k i x l y m (by omega) hm hy
        have h2 := h.2 k x l (Nat.le_refl _) hm
        rw [h1] at h2
        cases h2
theorem Nar.none {s : ByteArray} {es : List DEntry} {k : Nat} (h : Nar s es k k) (hk : es.length ≤ k) : findL s es = [] := by
  refine findL_none es (fun i y m hy he => ?_)
  subst he
  have := h.1 i _ m (by have := (List.getElem?_eq_some_iff.1 hy).1; omega) hy
  rw [lessB_irr] at this
  cases this
end Go.Proofs.Ytdaomklgcdfllaa
