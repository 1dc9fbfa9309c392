/- What a node holds: both readings of it. No condition but that its texts are small. -/
import Derived.Test.YtjbjgkkkkghcgaaGreatDoorTo
import Derived.Test.YtjbjgkkkkghcgaaGreatDoorText
namespace Go.Proofs.YtjbjgkkkkghcgaaGreatDoor
open Go.RowKit

/-- A text that is empty. -/
def noText (t : ByteArray) : Bool := t.toList.isEmpty

/-- What a node may hold. -/
def contentB (x : Nd) : Bool :=
  if x.kind = 4 then decide (-1000000000 ≤ x.num) && decide (x.num ≤ 1000000000) && noText x.text
  else if x.kind = 5 then decide (x.num = 0) && plainB x.text
  else if x.kind = 1 ∨ x.kind = 2 ∨ x.kind = 3 ∨ x.kind = 6 ∨ x.kind = 7 then decide (x.num = 0) && noText x.text
  else false

set_option maxHeartbeats 1000000 in
theorem goodContent_four (n u : Int) (t m : ByteArray) (w : World) :
    Calls Tryz.prog 60 #[.agg #[.int .i64 4, .int .i64 n, .string t, .string m, .int .i64 u]] w fun e w' => e = .returned (.bool (decide (-1000000000 ≤ n) && decide (n ≤ 1000000000) && noText t)) ∧ Below w.heap.size w w' := by
  by_cases h0 : -1000000000 ≤ n
  · by_cases h1 : n ≤ 1000000000
    · rw [decide_eq_true h0, decide_eq_true h1]
      go_enter Tryz.func60, Tryz.ntmps60
      go_wp2
      go_ret
      exact ⟨rfl, by go_grown⟩
    · rw [decide_eq_true h0, decide_eq_false h1]
      have h2 : decide (n ≤ 1000000000) = false := decide_eq_false h1
      go_enter Tryz.func60, Tryz.ntmps60
      go_wp2
      go_ret
      exact ⟨rfl, by go_grown⟩
  · rw [decide_eq_false h0]
    have h2 : decide (-1000000000 ≤ n) = false := decide_eq_false h0
    go_enter Tryz.func60, Tryz.ntmps60
    go_wp2
    go_ret
    exact ⟨rfl, by go_grown⟩

set_option maxHeartbeats 1000000 in
theorem goodContent_five (n u : Int) (t m : ByteArray) (w : World) (ht : t.size ≤ 2 ^ 40) :
    Calls Tryz.prog 60 #[.agg #[.int .i64 5, .int .i64 n, .string t, .string m, .int .i64 u]] w fun e w' => e = .returned (.bool (decide (n = 0) && plainB t)) ∧ Below w.heap.size w w' := by
  by_cases h0 : n = 0
  · rw [decide_eq_true h0]
    subst h0
    go_enter Tryz.func60, Tryz.ntmps60
    go_wp2_with (first | (go_at_call 76; refine (isPlain_any _ _ ht).mono ?_; rintro e w' ⟨rfl, rfl⟩) | go_in)
    go_ret
    exact ⟨rfl, by go_grown⟩
  · rw [decide_eq_false h0]
    have h1 : (n == 0) = false := by simpa using h0
    go_enter Tryz.func60, Tryz.ntmps60
    go_wp2
    go_ret
    exact ⟨rfl, by go_grown⟩

set_option maxHeartbeats 1000000 in
theorem goodContent_one (n u : Int) (t m : ByteArray) (w : World) :
    Calls Tryz.prog 60 #[.agg #[.int .i64 1, .int .i64 n, .string t, .string m, .int .i64 u]] w fun e w' => e = .returned (.bool (decide (n = 0) && noText t)) ∧ Below w.heap.size w w' := by
  by_cases h0 : n = 0
  · rw [decide_eq_true h0]
    subst h0
    go_enter Tryz.func60, Tryz.ntmps60
    go_wp2
    go_ret
    exact ⟨rfl, by go_grown⟩
  · rw [decide_eq_false h0]
    have h1 : (n == 0) = false := by simpa using h0
    go_enter Tryz.func60, Tryz.ntmps60
    go_wp2
    go_ret
    exact ⟨rfl, by go_grown⟩

set_option maxHeartbeats 1000000 in
theorem goodContent_two (n u : Int) (t m : ByteArray) (w : World) :
    Calls Tryz.prog 60 #[.agg #[.int .i64 2, .int .i64 n, .string t, .string m, .int .i64 u]] w fun e w' => e = .returned (.bool (decide (n = 0) && noText t)) ∧ Below w.heap.size w w' := by
  by_cases h0 : n = 0
  · rw [decide_eq_true h0]
    subst h0
    go_enter Tryz.func60, Tryz.ntmps60
    go_wp2
    go_ret
    exact ⟨rfl, by go_grown⟩
  · rw [decide_eq_false h0]
    have h1 : (n == 0) = false := by simpa using h0
    go_enter Tryz.func60, Tryz.ntmps60
    go_wp2
    go_ret
    exact ⟨rfl, by go_grown⟩

set_option maxHeartbeats 1000000 in
theorem goodContent_three (n u : Int) (t m : ByteArray) (w : World) :
    Calls Tryz.prog 60 #[.agg #[.int .i64 3, .int .i64 n, .string t, .string m, .int .i64 u]] w fun e w' => e = .returned (.bool (decide (n = 0) && noText t)) ∧ Below w.heap.size w w' := by
  by_cases h0 : n = 0
  · rw [decide_eq_true h0]
    subst h0
    go_enter Tryz.func60, Tryz.ntmps60
    go_wp2
    go_ret
    exact ⟨rfl, by go_grown⟩
  · rw [decide_eq_false h0]
    have h1 : (n == 0) = false := by simpa using h0
    go_enter Tryz.func60, Tryz.ntmps60
    go_wp2
    go_ret
    exact ⟨rfl, by go_grown⟩

set_option maxHeartbeats 1000000 in
theorem goodContent_six (n u : Int) (t m : ByteArray) (w : World) :
    Calls Tryz.prog 60 #[.agg #[.int .i64 6, .int .i64 n, .string t, .string m, .int .i64 u]] w fun e w' => e = .returned (.bool (decide (n = 0) && noText t)) ∧ Below w.heap.size w w' := by
  by_cases h0 : n = 0
  · rw [decide_eq_true h0]
    subst h0
    go_enter Tryz.func60, Tryz.ntmps60
    go_wp2
    go_ret
    exact ⟨rfl, by go_grown⟩
  · rw [decide_eq_false h0]
    have h1 : (n == 0) = false := by simpa using h0
    go_enter Tryz.func60, Tryz.ntmps60
    go_wp2
    go_ret
    exact ⟨rfl, by go_grown⟩

set_option maxHeartbeats 1000000 in
theorem goodContent_seven (n u : Int) (t m : ByteArray) (w : World) :
    Calls Tryz.prog 60 #[.agg #[.int .i64 7, .int .i64 n, .string t, .string m, .int .i64 u]] w fun e w' => e = .returned (.bool (decide (n = 0) && noText t)) ∧ Below w.heap.size w w' := by
  by_cases h0 : n = 0
  · rw [decide_eq_true h0]
    subst h0
    go_enter Tryz.func60, Tryz.ntmps60
    go_wp2
    go_ret
    exact ⟨rfl, by go_grown⟩
  · rw [decide_eq_false h0]
    have h1 : (n == 0) = false := by simpa using h0
    go_enter Tryz.func60, Tryz.ntmps60
    go_wp2
    go_ret
    exact ⟨rfl, by go_grown⟩

set_option maxHeartbeats 1000000 in
theorem goodContent_none (k n u : Int) (t m : ByteArray) (w : World) (h1 : k ≠ 1) (h2 : k ≠ 2) (h3 : k ≠ 3) (h4 : k ≠ 4) (h5 : k ≠ 5) (h6 : k ≠ 6) (h7 : k ≠ 7) :
    Calls Tryz.prog 60 #[.agg #[.int .i64 k, .int .i64 n, .string t, .string m, .int .i64 u]] w fun e w' => e = .returned (.bool (false)) ∧ Below w.heap.size w w' := by
  have e1 : (k == 1) = false := by simpa using h1
  have e2 : (k == 2) = false := by simpa using h2
  have e3 : (k == 3) = false := by simpa using h3
  have e4 : (k == 4) = false := by simpa using h4
  have e5 : (k == 5) = false := by simpa using h5
  have e6 : (k == 6) = false := by simpa using h6
  have e7 : (k == 7) = false := by simpa using h7
  go_enter Tryz.func60, Tryz.ntmps60
  go_wp2
  go_ret
  exact ⟨rfl, by go_grown⟩

theorem goodContent_any (x : Nd) (w : World) (ht : x.text.size ≤ 2 ^ 40) :
    Calls Tryz.prog 60 #[.agg #[.int .i64 x.kind, .int .i64 x.num, .string x.text, .string x.name, .int .i64 x.up]] w fun e w' => e = .returned (.bool (contentB x)) ∧ Below w.heap.size w w' := by
  obtain ⟨k, n, t, m, u⟩ := x
  simp only [contentB] at *
  by_cases h4 : k = 4
  · subst h4; exact goodContent_four n u t m w
  rw [if_neg h4]
  by_cases h5 : k = 5
  · subst h5; exact goodContent_five n u t m w ht
  rw [if_neg h5]
  by_cases h1 : k = 1
  · subst h1; rw [if_pos (by simp)]; exact goodContent_one n u t m w
  by_cases h2 : k = 2
  · subst h2; rw [if_pos (by simp)]; exact goodContent_two n u t m w
  by_cases h3 : k = 3
  · subst h3; rw [if_pos (by simp)]; exact goodContent_three n u t m w
  by_cases h6 : k = 6
  · subst h6; rw [if_pos (by simp)]; exact goodContent_six n u t m w
  by_cases h7 : k = 7
  · subst h7; rw [if_pos (by simp)]; exact goodContent_seven n u t m w
  rw [if_neg (by simp [h1, h2, h3, h6, h7])]
  exact goodContent_none k n u t m w h1 h2 h3 h4 h5 h6 h7

end Go.Proofs.YtjbjgkkkkghcgaaGreatDoor
