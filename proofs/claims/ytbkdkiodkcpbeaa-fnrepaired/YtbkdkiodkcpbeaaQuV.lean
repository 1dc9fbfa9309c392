/- Numbers looked for in a row, by number and by a function. No condition but that rows fit in memory. -/
import Derived.Test.YtbkdkiodkcpbeaaQuI
namespace Go.Proofs.Ytbkdkiodkcpbeaa
open Go.RowKit
set_option linter.unusedVariables false

theorem row_max {α : Type} {K : Kd α} {o : Bool} {w : World} {S : Nat → Prop} {a : Option Addr} {n c : Nat} {l : List α} (h : (kRow K).is o w S [.slice a n c] l) : n ≤ 9223372036854775807 := by
  have hnl := row_len h
  obtain ⟨_, _, _, h, _⟩ := row_form h
  rw [hnl]
  exact h
set_option maxRecDepth 100000 in
set_option maxHeartbeats 1000000 in
theorem indexI_k (l : List Int) (a : Option Addr) (n c : Nat) (S : Nat → Prop) (x : Int) (w : World) (h : (kRow kInt).is false w S [.slice a n c] l) :
    Calls Try.prog 85 #[.slice a n c, .int .i64 x] w fun e w' => ∃ z : Int, e = .returned (.int .i64 z) ∧ (0 ≤ z ↔ x ∈ l) ∧ w' = w := by
  have HNL : Hid (n = l.length) := row_len h
  have hmx := row_max h
  have H : Hid ((kRow kInt).is false w S [.slice a n c] l) := h
  clear h
  go_enter Try.func85, Try.ntmps85
  go_wp2_with fail
  go_loopw [8] (fun iv wr => ∃ (k : Nat), k ≤ n ∧ iv = .int .i64 k ∧ Hid (x ∉ l.take k) ∧ wr = w) (fun iv _ => n - (intOf iv).toNat)
  case atStart => exact ⟨0, Nat.zero_le _, rfl, (by simp : x ∉ l.take 0), rfl⟩
  case round =>
    obtain ⟨k, hk, rfl, HI, rfl⟩ := hrel
    by_cases hlt : k < n
    · obtain ⟨y, hy⟩ : ∃ y, l[k]? = some y := ⟨_, List.getElem?_eq_getElem (by rw [← HNL.out]; exact hlt)⟩
      obtain ⟨b, off, rfl, hb, _, A0⟩ := rowI_at H.out hy
      have i0 : (0 : Int) ≤ (k : Int) := by omega
      have i1 : (k : Int) < (n : Int) := by omega
      have HY : Hid (l[k]? = some y) := hy
      clear hy
      by_cases hxs : x = y
      · have HF : Hid (x ∈ l) := hxs ▸ List.mem_of_getElem? HY.out
        subst hxs
        go_wp2
        go_ret
        exact ⟨k, rfl, ⟨fun _ => HF.out, fun _ => i0⟩, rfl⟩
      · have HI2 : Hid (x ∉ l.take (k + 1)) := by
          show ¬ _
          rw [List.take_add_one, HY.out]
          intro h
          rcases List.mem_append.1 h with h | h
          · exact HI.out h
          · simp at h; exact hxs h
        have heq : (x == y) = false := by simpa using hxs
        go_wp2
        go_roundw
        case rel => exact ⟨k + 1, by omega, by go_num, HI2, trivial⟩
        case measure => simp [intOf]; omega
    · have HF : Hid (x ∉ l) := by
        have := HI.out
        rw [show k = l.length by rw [← HNL.out]; omega, List.take_length] at this
        exact this
      go_wp2
      go_ret
      exact ⟨-1, rfl, ⟨fun h => by omega, fun h => absurd h HF.out⟩, rfl⟩
set_option maxRecDepth 100000 in
set_option maxHeartbeats 1000000 in
theorem containsI_k (l : List Int) (a : Option Addr) (n c : Nat) (S : Nat → Prop) (x : Int) (w : World) (h : (kRow kInt).is false w S [.slice a n c] l) :
    Calls Try.prog 63 #[.slice a n c, .int .i64 x] w fun e w' => e = .returned (.bool (l.contains x)) ∧ w' = w := by
  have hcl := indexI_k l a n c S x w h
  have HC : Hid (l.contains x = decide (x ∈ l)) := by show _ = _; rw [Bool.eq_iff_iff, List.contains_iff_mem, decide_eq_true_eq]
  clear h
  go_enter Try.func63, Try.ntmps63
  go_wp2_with fail
  refine hcl.mono ?_
  rintro e w1 ⟨z, rfl, hz, rfl⟩
  have HZ : Hid (decide (x ∈ l) = decide (0 ≤ z)) := by show _ = _; rw [decide_eq_decide]; exact hz.symm
  clear hz
  by_cases c1 : 0 ≤ z
  · go_wp2
    go_ret
    rw [HC.out, HZ.out, decide_eq_true c1]
    exact ⟨rfl, rfl⟩
  · go_wp2
    go_ret
    rw [HC.out, HZ.out, decide_eq_false (show ¬ 0 ≤ z by omega)]
    exact ⟨rfl, rfl⟩
set_option maxRecDepth 100000 in
set_option maxHeartbeats 1000000 in
theorem indexFI_k (l : List Int) (a : Option Addr) (n c : Nat) (S : Nat → Prop) (F : FuncId) (cs : Array Value) (p : Int → Bool) (w : World) (eg : ∀ args W, (callFunc F args).run Try.prog W = .ok (.enter F args) W) (h : (kRow kInt).is false w S [.slice a n c] l)
    (hF : Hid (∀ W x, Below w.heap.size w W → x ∈ l → Calls Try.prog F (#[.int .i64 x] ++ cs) W fun e w' => e = .returned (.bool (p x)) ∧ Below W.heap.size W w')) :
    Calls Try.prog 86 #[.slice a n c, .func (.func F) #[] cs] w fun e w' => ∃ z : Int, e = .returned (.int .i64 z) ∧ (0 ≤ z ↔ l.any p = true) ∧ Below w.heap.size w w' := by
  have HNL : Hid (n = l.length) := row_len h
  have hmx := row_max h
  have H : Hid ((kRow kInt).is false w S [.slice a n c] l) := h
  clear h
  go_enter Try.func86, Try.ntmps86
  go_wp2_with fail
  go_loopw [8] (fun iv wr => ∃ (k : Nat), k ≤ n ∧ iv = .int .i64 k ∧ Hid ((l.take k).any p = false) ∧ Below w.heap.size w wr) (fun iv _ => n - (intOf iv).toNat)
  case atStart => exact ⟨0, Nat.zero_le _, rfl, rfl, Below.refl _ _⟩
  case round =>
    obtain ⟨k, hk, rfl, HI, hnx⟩ := hrel
    have zw := hnx.size
    by_cases hlt : k < n
    · obtain ⟨y, hy⟩ : ∃ y, l[k]? = some y := ⟨_, List.getElem?_eq_getElem (by rw [← HNL.out]; exact hlt)⟩
      obtain ⟨b, off, rfl, hb, _, A0⟩ := rowI_at (Kd.below H.out hnx) hy
      have i0 : (0 : Int) ≤ (k : Int) := by omega
      have i1 : (k : Int) < (n : Int) := by omega
      have HY : Hid (l[k]? = some y) := hy
      have hcl := hF.out wr y hnx (List.mem_of_getElem? hy)
      clear hy
      go_wp2_with fail
      refine hcl.mono ?_
      rintro e w1 ⟨rfl, hb1⟩
      have HB1 : Hid (Below w.heap.size w w1) := hnx.trans (hb1.mono zw)
      cases hp : p y with
      | true =>
        have HF : Hid (l.any p = true) := List.any_eq_true.2 ⟨y, List.mem_of_getElem? HY.out, hp⟩
        go_wp2
        go_ret
        exact ⟨k, rfl, ⟨fun _ => HF.out, fun _ => i0⟩, HB1.out⟩
      | false =>
        have HI2 : Hid ((l.take (k + 1)).any p = false) := by
          show _ = _
          rw [List.take_add_one, HY.out, List.any_append, HI.out]
          simp [hp]
        go_wp2
        go_roundw
        case rel => exact ⟨k + 1, by omega, by go_num, HI2, HB1.out⟩
        case measure => simp [intOf]; omega
    · have HF : Hid (l.any p = false) := by
        have := HI.out
        rw [show k = l.length by rw [← HNL.out]; omega, List.take_length] at this
        exact this
      go_wp2
      go_ret
      exact ⟨-1, rfl, ⟨fun h => by omega, fun h => by rw [HF.out] at h; cases h⟩, hnx⟩
set_option maxRecDepth 100000 in
set_option maxHeartbeats 1000000 in
theorem containsFI_k (l : List Int) (a : Option Addr) (n c : Nat) (S : Nat → Prop) (F : FuncId) (cs : Array Value) (p : Int → Bool) (w : World) (eg : ∀ args W, (callFunc F args).run Try.prog W = .ok (.enter F args) W) (h : (kRow kInt).is false w S [.slice a n c] l)
    (hF : Hid (∀ W x, Below w.heap.size w W → x ∈ l → Calls Try.prog F (#[.int .i64 x] ++ cs) W fun e w' => e = .returned (.bool (p x)) ∧ Below W.heap.size W w')) :
    Calls Try.prog 64 #[.slice a n c, .func (.func F) #[] cs] w fun e w' => e = .returned (.bool (l.any p)) ∧ Below w.heap.size w w' := by
  have hcl := indexFI_k l a n c S F cs p w eg h hF
  clear h hF eg
  go_enter Try.func64, Try.ntmps64
  go_wp2_with fail
  refine hcl.mono ?_
  rintro e w1 ⟨z, rfl, hz, hb⟩
  have HZ : Hid (l.any p = decide (0 ≤ z)) := by show _ = _; rw [Bool.eq_iff_iff, decide_eq_true_eq]; exact hz.symm
  have HB : Hid (Below w.heap.size w w1) := hb
  clear hz hb hcl
  by_cases c1 : 0 ≤ z
  · go_wp2
    go_ret
    rw [HZ.out, decide_eq_true c1]
    exact ⟨rfl, HB.out⟩
  · go_wp2
    go_ret
    rw [HZ.out, decide_eq_false (show ¬ 0 ≤ z by omega)]
    exact ⟨rfl, HB.out⟩
end Go.Proofs.Ytbkdkiodkcpbeaa
