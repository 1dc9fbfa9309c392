/- Enough of them, and the newest among some: both sides. No condition but that rows fit in memory. -/
import Derived.Test.YtbkdkiodkcpbeaaQuO
namespace Go.Proofs.Ytbkdkiodkcpbeaa
open Go.RowKit
set_option linter.unusedVariables false

/-- The number of the newest among the first j. -/
def bst (l : List DCopy) (s : List Int) : Nat → Nat
  | 0 => nat s 0
  | j + 1 => if (cp l (bst l s j)).2.1 < (cp l (nat s j)).2.1 then nat s j else bst l s j
theorem bst_lt {l : List DCopy} {s : List Int} {n : Nat} (hs : someTil s n s.length = true) (h0 : 0 < s.length) : ∀ {j : Nat}, j ≤ s.length → bst l s j < n
  | 0, _ => (some_nat hs h0).2
  | j + 1, hj => by
    unfold bst
    split
    · exact (some_nat hs (show j < s.length by omega)).2
    · exact bst_lt hs h0 (by omega)
theorem bst_in {l : List DCopy} {s : List Int} (h0 : 0 < s.length) : ∀ {j : Nat}, j ≤ s.length → ∃ i, i < s.length ∧ bst l s j = nat s i
  | 0, _ => ⟨0, h0, rfl⟩
  | j + 1, hj => by
    unfold bst
    split
    · exact ⟨j, by omega, rfl⟩
    · exact bst_in h0 (by omega)
theorem bst_ge {l : List DCopy} {s : List Int} : ∀ {j i : Nat}, i < j → (cp l (nat s i)).2.1 ≤ (cp l (bst l s j)).2.1
  | j + 1, i, h => by
    unfold bst
    by_cases e : i = j
    · subst e
      split <;> omega
    · have := bst_ge (l := l) (s := s) (show i < j by omega)
      split <;> omega
/-- The newest among some. -/
def nwc (l : List DCopy) (s : List Int) : DCopy := cp l (bst l s s.length)
def enoughB (v : DVoting) (s : List Int) (least : Int) : Bool := (fWeightIn v s).2 && decide (least ≤ (fWeightIn v s).1)
theorem enough_pos {v : DVoting} {s : List Int} {least : Int} (h : enoughB v s least = true) (hl : 1 ≤ least) : fGoodVoting v = true ∧ someOk s v.1.length = true ∧ least ≤ wIn v s ∧ 0 < s.length := by
  unfold enoughB fWeightIn at h
  split at h
  · next g =>
    simp only [Bool.true_and, decide_eq_true_eq] at h
    refine ⟨g.1, g.2, h, ?_⟩
    cases s with
    | nil =>
      have : wIn v [] = 0 := rfl
      omega
    | cons _ _ => simp
  · cases h
set_option maxRecDepth 100000 in
set_option maxHeartbeats 1000000 in
theorem areEnough_k (l : List DCopy) (a : Option Addr) (n c : Nat) (S : Nat → Prop) (r t : Int) (s : List Int) (a1 : Option Addr) (n1 c1 : Nat) (S1 : Nat → Prop) (least : Int) (w : World) (h : (kRow kCopy).is false w S [.slice a n c] l) (hcap : n ≤ c) (h1 : (kRow kInt).is false w S1 [.slice a1 n1 c1] s) :
    Calls Try.prog 45 #[.agg #[.slice a n c, .int .i64 r, .int .i64 t], .slice a1 n1 c1, .int .i64 least] w fun e w' => e = .returned (.bool (enoughB (l, r, t) s least)) ∧ Below w.heap.size w w' := by
  have hcl : Hid (∀ W, Below w.heap.size w W → Calls Try.prog 20 #[.agg #[.slice a n c, .int .i64 r, .int .i64 t], .slice a1 n1 c1] W (RWeightIn (l, r, t) s W)) := fun W hb => weightI_k l a n c S r t s a1 n1 c1 S1 W (Kd.below h hb) hcap (Kd.below h1 hb)
  clear h h1
  have HE : Hid (enoughB (l, r, t) s least = ((fWeightIn (l, r, t) s).2 && decide (least ≤ (fWeightIn (l, r, t) s).1))) := rfl
  unfold RWeightIn at hcl
  generalize fWeightIn (l, r, t) s = z at *
  obtain ⟨z1, z2⟩ := z
  go_enter Try.func45, Try.ntmps45
  go_wp2_with fail
  refine (hcl.out _ (below_a1q _ _)).mono ?_
  rintro e w1 ⟨rfl, _, hb1⟩
  have HB1 : Hid (Below w.heap.size w w1) := (below_a1q w _).trans (hb1.mono (by simp))
  clear hb1 hcl
  cases z2 with
  | false =>
    have HF : Hid (enoughB (l, r, t) s least = false) := HE.out
    go_wp2
    go_ret
    rw [HF.out]
    exact ⟨rfl, HB1.out⟩
  | true =>
    have HF : Hid (enoughB (l, r, t) s least = decide (least ≤ z1)) := by show _ = _; rw [HE.out]; rfl
    go_wp2
    go_ret
    rw [HF.out]
    exact ⟨rfl, HB1.out⟩
set_option maxRecDepth 100000 in
set_option maxHeartbeats 2000000 in
theorem best14_k (l : List DCopy) (a : Option Addr) (n c : Nat) (S : Nat → Prop) (r t : Int) (s : List Int) (a1 : Option Addr) (n1 c1 : Nat) (S1 : Nat → Prop) (w : World) (h : (kRow kCopy).is false w S [.slice a n c] l) (h1 : (kRow kInt).is false w S1 [.slice a1 n1 c1] s) (hs : someOk s n = true) (h0 : 0 < n1) :
    Calls Try.prog 50 #[.agg #[.slice a n c, .int .i64 r, .int .i64 t], .slice a1 n1 c1] w fun e w' => e = .returned (.int .i64 (bst l s n1)) ∧ Below w.heap.size w w' := by
  have HNL : Hid (n = l.length) := row_len h
  have HN1 : Hid (n1 = s.length) := row_len h1
  have hmx := row_max h1
  have H : Hid ((kRow kCopy).is false w S [.slice a n c] l) := h
  have H1 : Hid ((kRow kInt).is false w S1 [.slice a1 n1 c1] s) := h1
  have HS : Hid (someTil s n s.length = true) := hs
  obtain ⟨b1, o1, rfl, hb1, A00, _⟩ := rowN_at h1 h0
  have e00 := (some_nat HS.out (show 0 < s.length by rw [← HN1.out]; exact h0)).1
  rw [e00, Nat.add_zero] at A00
  clear h h1 hs e00
  have hn0 : (0 : Int) < (n1 : Int) := by omega
  go_enter Try.func50, Try.ntmps50
  go_wp2_with fail
  obtain ⟨W0, hW0⟩ : ∃ W, W = w.alloc (.cells #[.slice a n c, .int .i64 r, .int .i64 t] 25) := ⟨_, rfl⟩
  have C0 : W0.cell? ⟨w.heap.size, 0, none⟩ = some (.slice a n c) := by rw [hW0]; simp [go_sem]
  have HB0 : Hid (Below w.heap.size w W0) := by show Below _ _ _; rw [hW0]; exact below_a1q _ _
  rw [← hW0]
  clear hW0
  go_loopw [5, 13] (fun v iv wr => ∃ j : Nat, j ≤ n1 ∧ iv = .int .i64 j ∧ v = .int .i64 (bst l s j) ∧ Below W0.heap.size W0 wr) (fun _ iv _ => n1 - (intOf iv).toNat)
  case atStart => exact ⟨0, Nat.zero_le _, rfl, rfl, Below.refl _ _⟩
  case round =>
    obtain ⟨j, hj, rfl, rfl, hB⟩ := hrel
    have zw := hB.size
    have D0 : wr.cell? ⟨w.heap.size, 0, none⟩ = some (.slice a n c) := (hB.cell (World.block_lt_of_cell? _ _ C0)).trans C0
    have HBw : Hid (Below w.heap.size w wr) := HB0.out.trans (hB.mono HB0.out.size)
    by_cases hlt : j < n1
    · obtain ⟨b1', o1', e', _, A0, _⟩ := rowN_at (Kd.below H1.out HBw.out) hlt
      injection e' with e'; injection e' with eb eo; subst eb eo
      obtain ⟨e1, hkn⟩ := some_nat HS.out (show j < s.length by rw [← HN1.out]; exact hlt)
      have hbn := bst_lt (l := l) HS.out (by rw [← HN1.out]; exact h0) (j := j) (by rw [← HN1.out]; exact hj)
      have HW : Hid (bst l s (j + 1) = if (cp l (bst l s j)).2.1 < (cp l (nat s j)).2.1 then nat s j else bst l s j) := rfl
      rw [e1] at A0
      clear e1
      generalize bst l s j = m at *
      generalize nat s j = k at *
      obtain ⟨b, o, rfl, hb, _, _, _, _, B1, _⟩ := rowC_at (Kd.below H.out HBw.out) hkn
      obtain ⟨b', o', e', _, _, _, _, _, E1, _⟩ := rowC_at (Kd.below H.out HBw.out) hbn
      injection e' with e'; injection e' with eb eo; subst eb eo
      generalize (cp l k).2.1 = y at *
      generalize (cp l m).2.1 = z at *
      have i0 : (j : Int) < (n1 : Int) := by omega
      have i1 : (0 : Int) ≤ (j : Int) := by omega
      have i2 : (k : Int) < (n : Int) := by omega
      have i3 : (0 : Int) ≤ (k : Int) := by omega
      have i4 : (m : Int) < (n : Int) := by omega
      have i5 : (0 : Int) ≤ (m : Int) := by omega
      have U0 := fun p => BelowOf.cell D0 p
      have U1 := fun p => BelowOf.cell B1 p
      have U2 := fun p => BelowOf.cell E1 p
      have hne := belowOf_ne wr
      clear D0 B1 E1
      go_upto_region 5 with fail
      refine region_below (by kernel_rfl) (by kernel_rfl) ?_
      repeat (go_big_quiet_step (fail))
      refine wpQuiet_nil (belowOf_all ?_)
      intro w3 hb3
      have HB3 : Hid (Below W0.heap.size W0 w3) := hB.trans (hb3.mono zw)
      by_cases c1 : z < y
      · have HW2 : Hid (bst l s (j + 1) = k) := by show _ = _; rw [HW.out, if_pos c1]
        go_wp2
        go_roundw
        case rel => exact ⟨j + 1, by omega, by go_num, by rw [HW2.out], HB3.out⟩
        case measure => simp [intOf]; omega
      · have HW2 : Hid (bst l s (j + 1) = m) := by show _ = _; rw [HW.out, if_neg c1]
        go_wp2
        go_roundw
        case rel => exact ⟨j + 1, by omega, by go_num, by rw [HW2.out], HB3.out⟩
        case measure => simp [intOf]; omega
    · obtain rfl : j = n1 := by omega
      have i0 : ¬ (j : Int) < (j : Int) := by omega
      go_wp2
      go_ret
      exact ⟨rfl, HBw.out⟩
end Go.Proofs.Ytbkdkiodkcpbeaa
