/- Copies: the program's parts. No condition but that rows fit in memory. -/
import Derived.Test.YtbkdkiodkcpbeaaQuM
import Derived.Test.YtbkdkiodkcpbeaaQb
import Derived.WalkLawsBesides
import Derived.Test.YtbkdkiodkcpbeaaAp4
import Derived.Deep.RegionHeld3
import Derived.Deep.DeepFit
import Derived.Deep.DeepCutAuto
namespace Go.Proofs.Ytbkdkiodkcpbeaa
open Go.RowKit
set_option linter.unusedVariables false

theorem below_a1q (w : World) (o : Obj) : Below w.heap.size w (w.alloc o) := (Below.refl _ _).alloc (Nat.le_refl _) o
theorem below_a2q (w : World) (o o' : Obj) : Below w.heap.size w ((w.alloc o).alloc o') := ((Below.refl _ _).alloc (Nat.le_refl _) o).alloc (by simp) o'
theorem tl_eq (a b : ByteArray) : (a.toList == b.toList) = decide (a = b) := by
  by_cases h : a = b
  · subst h
    simp
  · rw [decide_eq_false h]
    cases e : (a.toList == b.toList) with
    | false => rfl
    | true =>
      have e' : a.toList = b.toList := by simpa using e
      rw [ByteArray.toList_eq, ByteArray.toList_eq] at e'
      exact absurd (ByteArray.ext (Array.toList_inj.1 e')) h
/-- A copy of a row, in its cells. -/
theorem rowC_at {w : World} {S : Nat → Prop} {a : Option Addr} {n c : Nat} {l : List DCopy} (h : (kRow kCopy).is false w S [.slice a n c] l) {k : Nat} (hk : k < n) :
    ∃ b o, a = some ⟨b, o, none⟩ ∧ b < w.heap.size ∧ IntOk (cp l k).1 ∧ IntOk (cp l k).2.1 ∧ (cp l k).2.2.size ≤ maxLen ∧ w.cell? ⟨b, o + k * 3, none⟩ = some (.int .i64 (cp l k).1) ∧ w.cell? ⟨b, o + k * 3 + 1, none⟩ = some (.int .i64 (cp l k).2.1) ∧ w.cell? ⟨b, o + k * 3 + 2, none⟩ = some (.string (cp l k).2.2) := by
  have hl := row_len h
  obtain ⟨b, o, B, C, rfl, hb, _, hi, _, hc⟩ := row_at h (cp_at (show k < l.length by omega))
  generalize cp l k = x at *
  obtain ⟨x1, x2, x3⟩ := x
  obtain ⟨rfl, g1, g2, g3⟩ := kCopy_open hi
  exact ⟨b, o, rfl, hb, g1, g2, g3, (hc 0 _ rfl).1, (hc 1 _ rfl).1, (hc 2 _ rfl).1⟩

set_option maxRecDepth 100000 in
set_option maxHeartbeats 1000000 in
theorem isGoodC_k (x y : Int) (t : ByteArray) (w : World) : Calls Try.prog 78 #[.agg #[.int .i64 x, .int .i64 y, .string t]] w fun e w' => e = .returned (.bool (decide (CpOk (x, y, t)))) ∧ Below w.heap.size w w' := by
  by_cases c1 : 1 ≤ x
  · by_cases c2 : x ≤ 10
    · by_cases c3 : 0 ≤ y
      · by_cases c4 : y ≤ 1000000
        · by_cases c5 : t.size ≤ 12
          · have HF : Hid (decide (CpOk (x, y, t)) = true) := decide_eq_true ⟨c1, c2, c3, c4, c5⟩
            have k5 : (t.size : Int) ≤ 12 := by omega
            go_enter Try.func78, Try.ntmps78
            go_wp2
            go_ret
            exact ⟨by rw [HF.out]; rfl, below_a1q _ _⟩
          · have HF : Hid (decide (CpOk (x, y, t)) = false) := decide_eq_false fun h => c5 h.2.2.2.2
            have k5 : ¬ (t.size : Int) ≤ 12 := by omega
            go_enter Try.func78, Try.ntmps78
            go_wp2
            go_ret
            exact ⟨by rw [HF.out]; rfl, below_a1q _ _⟩
        · have HF : Hid (decide (CpOk (x, y, t)) = false) := decide_eq_false fun h => c4 h.2.2.2.1
          go_enter Try.func78, Try.ntmps78
          go_wp2
          go_ret
          exact ⟨by rw [HF.out]; rfl, below_a1q _ _⟩
      · have HF : Hid (decide (CpOk (x, y, t)) = false) := decide_eq_false fun h => c3 h.2.2.1
        go_enter Try.func78, Try.ntmps78
        go_wp2
        go_ret
        exact ⟨by rw [HF.out]; rfl, below_a1q _ _⟩
    · have HF : Hid (decide (CpOk (x, y, t)) = false) := decide_eq_false fun h => c2 h.2.1
      go_enter Try.func78, Try.ntmps78
      go_wp2
      go_ret
      exact ⟨by rw [HF.out]; rfl, below_a1q _ _⟩
  · have HF : Hid (decide (CpOk (x, y, t)) = false) := decide_eq_false fun h => c1 h.1
    go_enter Try.func78, Try.ntmps78
    go_wp2
    go_ret
    exact ⟨by rw [HF.out]; rfl, below_a1q _ _⟩

set_option maxRecDepth 100000 in
set_option maxHeartbeats 1000000 in
theorem contradicts_k (x y x' y' : Int) (t t' : ByteArray) (w : World) : Calls Try.prog 80 #[.agg #[.int .i64 x, .int .i64 y, .string t], .agg #[.int .i64 x', .int .i64 y', .string t']] w fun e w' => e = .returned (.bool (cpUn (x, y, t) (x', y', t'))) ∧ Below w.heap.size w w' := by
  by_cases c1 : y = y'
  · subst c1
    by_cases c2 : t = t'
    · have HF : Hid (cpUn (x, y, t) (x', y, t') = false) := decide_eq_false fun h => h.2 c2
      have k2 : (t.toList == t'.toList) = true := by rw [tl_eq]; exact decide_eq_true c2
      go_enter Try.func80, Try.ntmps80
      go_wp2
      go_ret
      exact ⟨by rw [HF.out]; rfl, below_a2q _ _ _⟩
    · have HF : Hid (cpUn (x, y, t) (x', y, t') = true) := decide_eq_true ⟨rfl, c2⟩
      have k2 : (t.toList == t'.toList) = false := by rw [tl_eq]; exact decide_eq_false c2
      go_enter Try.func80, Try.ntmps80
      go_wp2
      go_ret
      exact ⟨by rw [HF.out]; rfl, below_a2q _ _ _⟩
  · have HF : Hid (cpUn (x, y, t) (x', y', t') = false) := decide_eq_false fun h => c1 h.1
    have k2 : (y == y') = false := by simpa using c1
    go_enter Try.func80, Try.ntmps80
    go_wp2
    go_ret
    exact ⟨by rw [HF.out]; rfl, below_a2q _ _ _⟩
end Go.Proofs.Ytbkdkiodkcpbeaa
