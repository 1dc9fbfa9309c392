/- The plain part of the shape: what the specification keeps while it goes through the nodes. -/
import Derived.Test.YtjbjgkkkkghcgaaGreatDoorDeepest
import Derived.Deep.DeepCutAuto
namespace Go.Proofs.YtjbjgkkkkghcgaaGreatDoor
open Go.RowKit
set_option linter.unusedVariables false

/-- What the specification asks of a node by itself, in its order. -/
def headB (x : Nd) : Bool :=
  (decide (1 ≤ x.kind) && decide (x.kind ≤ 7)) && ((decide (x.kind = 4) || decide (x.num = 0)) && ((decide (-1000000000 ≤ x.num) && decide (x.num ≤ 1000000000)) && ((decide (x.kind = 5) || noText x.text) && (plainB x.text && plainB x.name))))

theorem plain_of_noText {t : ByteArray} (h : noText t = true) : plainB t = true := by
  have h0 : t.toList = [] := List.isEmpty_iff.1 h
  rw [ByteArray.toList_eq] at h0
  have h1 : t.size = 0 := by
    have := congrArg List.length h0
    rw [Array.length_toList] at this
    exact this
  unfold plainB plainTo
  rw [h0, h1]
  rfl

theorem headB_eq (x : Nd) : headB x = (contentB x && plainB x.name) := by
  rw [Bool.eq_iff_iff]
  unfold headB contentB
  simp only [Bool.and_eq_true, Bool.or_eq_true, decide_eq_true_eq]
  constructor
  · rintro ⟨⟨a1, a2⟩, b, ⟨c1, c2⟩, d, e, f⟩
    refine ⟨?_, f⟩
    by_cases h4 : x.kind = 4
    · rw [if_pos h4]
      have : noText x.text = true := by
        rcases d with d | d
        · omega
        · exact d
      simp [c1, c2, this]
    · rw [if_neg h4]
      have hn : x.num = 0 := by
        rcases b with b | b
        · omega
        · exact b
      by_cases h5 : x.kind = 5
      · rw [if_pos h5]
        simp [hn, e]
      · rw [if_neg h5, if_pos (by omega)]
        have : noText x.text = true := by
          rcases d with d | d
          · omega
          · exact d
        simp [hn, this]
  · rintro ⟨h, f⟩
    by_cases h4 : x.kind = 4
    · rw [if_pos h4] at h
      simp only [Bool.and_eq_true, decide_eq_true_eq] at h
      exact ⟨⟨by omega, by omega⟩, .inl h4, h.1, .inr h.2, plain_of_noText h.2, f⟩
    · rw [if_neg h4] at h
      by_cases h5 : x.kind = 5
      · rw [if_pos h5] at h
        simp only [Bool.and_eq_true, decide_eq_true_eq] at h
        exact ⟨⟨by omega, by omega⟩, .inr h.1, ⟨by omega, by omega⟩, .inl h5, h.2, f⟩
      · rw [if_neg h5] at h
        by_cases hk : x.kind = 1 ∨ x.kind = 2 ∨ x.kind = 3 ∨ x.kind = 6 ∨ x.kind = 7
        · rw [if_pos hk] at h
          simp only [Bool.and_eq_true, decide_eq_true_eq] at h
          exact ⟨⟨by omega, by omega⟩, .inr h.1, ⟨by omega, by omega⟩, .inr h.2, plain_of_noText h.2, f⟩
        · rw [if_neg hk] at h
          simp at h

theorem hd_true {x : Nd} (k1 : 1 ≤ x.kind) (k2 : x.kind ≤ 7) (c : x.kind = 4 ∨ x.num = 0) (n1 : -1000000000 ≤ x.num) (n2 : x.num ≤ 1000000000) (d : x.kind = 5 ∨ noText x.text = true) (p1 : plainB x.text = true) (p2 : plainB x.name = true) : headB x = true := by
  unfold headB
  rw [decide_eq_true k1, decide_eq_true k2, decide_eq_true n1, decide_eq_true n2, p1, p2]
  have e1 : (decide (x.kind = 4) || decide (x.num = 0)) = true := by simpa using c
  have e2 : (decide (x.kind = 5) || noText x.text) = true := by simpa using d
  rw [e1, e2]
  rfl
theorem hd_k1 {x : Nd} (h : ¬ 1 ≤ x.kind) : headB x = false := by unfold headB; rw [decide_eq_false h]; rfl
theorem hd_k2 {x : Nd} (h : ¬ x.kind ≤ 7) : headB x = false := by unfold headB; rw [decide_eq_false h, Bool.and_false]; rfl
theorem hd_num {x : Nd} (h4 : ¬ x.kind = 4) (h : ¬ x.num = 0) : headB x = false := by unfold headB; rw [decide_eq_false h4, decide_eq_false h]; simp
theorem hd_n1 {x : Nd} (h : ¬ -1000000000 ≤ x.num) : headB x = false := by unfold headB; rw [decide_eq_false h]; simp
theorem hd_n2 {x : Nd} (h : ¬ x.num ≤ 1000000000) : headB x = false := by unfold headB; rw [decide_eq_false h]; simp
theorem hd_txt {x : Nd} (h5 : ¬ x.kind = 5) (h : noText x.text = false) : headB x = false := by unfold headB; rw [decide_eq_false h5, h]; simp
theorem hd_p1 {x : Nd} (h : plainB x.text = false) : headB x = false := by unfold headB; rw [h]; simp
theorem hd_p2 {x : Nd} (h : plainB x.name = false) : headB x = false := by unfold headB; rw [h]; simp

/-- The nodes ahead of i are as they should be. -/
def ShapeTo (N : Nat → Nd) (i : Nat) : Prop := ∀ j, j < i → contentB (N j) = true ∧ PlaceOK N j ∧ depth N j ≤ 6

theorem ShapeTo.pre {N : Nat → Nd} {i : Nat} (h : ShapeTo N i) : Pre N i := pre_of_place fun j hj => (h j hj).2.1
theorem ShapeTo.succ {N : Nat → Nd} {i : Nat} (h : ShapeTo N i) (h1 : contentB (N i) = true) (h2 : PlaceOK N i) (h3 : depth N i ≤ 6) : ShapeTo N (i + 1) := fun j hj => by
  by_cases e : j = i
  · subst e; exact ⟨h1, h2, h3⟩
  · exact h j (by omega)

/-- A value's shape, whatever its text's length. -/
def ShapeOK (N : Nat → Nd) (n : Nat) : Prop := 0 < n ∧ n ≤ 80 ∧ ShapeTo N n

theorem name_plain {N : Nat → Nd} {k : Nat} (h : PlaceOK N k) : plainB (N k).name = true := by
  rcases h with ⟨rfl, _, h⟩ | ⟨_, _, _, _, ⟨_, h⟩ | ⟨_, h, _⟩⟩
  · exact plain_of_noText h
  · exact plain_of_noText h
  · exact h

theorem not_head {N : Nat → Nd} {n i : Nat} (hi : i < n) (h : headB (N i) = false) : ¬ ShapeOK N n := fun ⟨_, _, hs⟩ => by
  have := hs i hi
  rw [headB_eq, this.1, name_plain this.2.1] at h
  simp at h

/-- The last part ahead of i of the map u. -/
def lastIx (N : Nat → Nd) (u : Nat) : Nat → Option Nat
  | 0 => none
  | i + 1 => if 0 < i ∧ (N i).up = u ∧ (N u).kind = 7 then some i else lastIx N u i

theorem lastIx_some {N : Nat → Nd} {u : Nat} : ∀ {i s : Nat}, lastIx N u i = some s → 0 < s ∧ s < i ∧ (N s).up = u ∧ (N u).kind = 7 ∧ ∀ j, s < j → j < i → (N j).up ≠ u := by
  intro i
  induction i with
  | zero => intro s h; simp [lastIx] at h
  | succ i ih =>
    intro s h
    unfold lastIx at h
    split at h
    · next hc =>
      injection h with h
      subst h
      exact ⟨hc.1, by omega, hc.2.1, hc.2.2, fun j h1 h2 => by omega⟩
    · next hc =>
      obtain ⟨h1, h2, h3, h4, h5⟩ := ih h
      refine ⟨h1, by omega, h3, h4, fun j hj hji e => ?_⟩
      by_cases e2 : j = i
      · subst e2; exact hc ⟨by omega, e, h4⟩
      · exact h5 j hj (by omega) e

theorem lastIx_none {N : Nat → Nd} {u : Nat} (hu : (N u).kind = 7) : ∀ {i : Nat}, lastIx N u i = none → ∀ s, 0 < s → s < i → (N s).up ≠ u := by
  intro i
  induction i with
  | zero => intro _ s _ h; omega
  | succ i ih =>
    intro h s h0 hs e
    unfold lastIx at h
    split at h
    · simp at h
    · next hc =>
      by_cases e2 : s = i
      · subst e2; exact hc ⟨h0, e, hu⟩
      · exact ih h s h0 (by omega) e

def seenB (N : Nat → Nd) (i u : Nat) : Bool := (lastIx N u i).isSome
def lastNm (N : Nat → Nd) (i u : Nat) : ByteArray := match lastIx N u i with | some s => (N s).name | none => ⟨#[]⟩

/-- In a map: the name is greater than the one that was kept last. -/
theorem name_map {N : Nat → Nd} {k u : Nat} (hup : (N k).up = u) (hu : (N u).kind = 7) (hp : plainB (N k).name = true) :
    NameOK N k ↔ (seenB N k u && !Op.bytesLess (lastNm N k u).toList (N k).name.toList) = false := by
  have hpar : par N k = u := by unfold par; omega
  unfold seenB lastNm
  cases hl : lastIx N u k with
  | none =>
    simp only [Option.isSome_none, Bool.false_and, iff_true]
    refine .inr ⟨by rw [hpar]; exact hu, hp, fun s ⟨s0, s1, s2, _⟩ => absurd (s2.trans hup) (lastIx_none hu hl s s0 s1)⟩
  | some s =>
    obtain ⟨l1, l2, l3, l4, l5⟩ := lastIx_some hl
    have hlast : LastOf N k s := ⟨l1, l2, by rw [l3, hup], fun j h1 h2 => by rw [hup]; exact l5 j h1 h2⟩
    simp only [Option.isSome_some, Bool.true_and, Bool.not_eq_false']
    constructor
    · rintro (⟨h, _⟩ | ⟨_, _, h⟩)
      · rw [hpar, hu] at h; omega
      · exact h s hlast
    · intro h
      exact .inr ⟨by rw [hpar]; exact hu, hp, fun t ht => by rw [← lastOf_unique hlast ht]; exact h⟩

theorem name_list {N : Nat → Nd} {k u : Nat} (hup : (N k).up = u) (hu : (N u).kind ≠ 7) (hh : holdsB (N u).kind = true) : NameOK N k ↔ noText (N k).name = true := by
  have hpar : par N k = u := by unfold par; omega
  have h6 : (N u).kind = 6 := by
    unfold holdsB at hh
    simp at hh
    omega
  constructor
  · rintro (⟨_, h⟩ | ⟨h, _⟩)
    · exact h
    · rw [hpar] at h; exact absurd h hu
  · exact fun h => .inl ⟨by rw [hpar]; exact h6, h⟩

end Go.Proofs.YtjbjgkkkkghcgaaGreatDoor
