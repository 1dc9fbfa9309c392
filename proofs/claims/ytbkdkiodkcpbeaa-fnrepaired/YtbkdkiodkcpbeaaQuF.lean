/- The newest among some: the program's. No condition but that rows fit in memory. -/
import Derived.Test.YtbkdkiodkcpbeaaQuE
namespace Go.Proofs.Ytbkdkiodkcpbeaa
open Go.RowKit
set_option linter.unusedVariables false

set_option maxRecDepth 100000 in
set_option maxHeartbeats 2000000 in
theorem newestAmong_k (l : List DCopy) (a : Option Addr) (n c : Nat) (S : Nat → Prop) (s : List Int) (a1 : Option Addr) (n1 c1 : Nat) (S1 : Nat → Prop) (w : World) (h : (kRow kCopy).is false w S [.slice a n c] l) (h1 : (kRow kInt).is false w S1 [.slice a1 n1 c1] s) (hs : someOk s n = true) (h0 : 0 < n1) :
    Calls Try.prog 46 #[.slice a n c, .slice a1 n1 c1] w fun e w' => e = .returned (.agg #[.int .i64 (cp l (bst l s n1)).1, .int .i64 (cp l (bst l s n1)).2.1, .string (cp l (bst l s n1)).2.2]) ∧ Below w.heap.size w w' := by
  have HNL : Hid (n = l.length) := row_len h
  have HN1 : Hid (n1 = s.length) := row_len h1
  have hmx := row_max h1
  have H : Hid ((kRow kCopy).is false w S [.slice a n c] l) := h
  have H1 : Hid ((kRow kInt).is false w S1 [.slice a1 n1 c1] s) := h1
  have HS : Hid (someTil s n s.length = true) := hs
  obtain ⟨b1, o1, rfl, hb1, A00, _⟩ := rowN_at h1 h0
  obtain ⟨e00, hk0⟩ := some_nat HS.out (show 0 < s.length by rw [← HN1.out]; exact h0)
  rw [e00, Nat.add_zero] at A00
  obtain ⟨b, o, rfl, hb, y1, y2, y3, B0, B1, B2⟩ := rowC_at h hk0
  have HM : Hid (cp l (bst l s 0) = cp l (nat s 0)) := rfl
  clear h h1 hs e00
  generalize nat s 0 = k0 at *
  generalize cp l k0 = d at *
  obtain ⟨d1, d2, d3⟩ := d
  simp only at B0 B1 B2
  have hn0 : (0 : Int) < (n1 : Int) := by omega
  have i2 : (k0 : Int) < (n : Int) := by omega
  have i3 : (0 : Int) ≤ (k0 : Int) := by omega
  go_enter Try.func46, Try.ntmps46
  go_wp2_with fail
  go_loopw [16] (fun iv wr => ∃ j : Nat, j ≤ n1 ∧ iv = .int .i64 j ∧ Hid (Below w.heap.size w wr ∧ CpAt wr (w.heap.size + 1) (cp l (bst l s j)) ∧ CpAt wr w.heap.size (0, 0, ⟨#[]⟩))) (fun iv _ => n1 - (intOf iv).toNat)
  case atStart =>
    refine ⟨0, Nat.zero_le _, rfl, ?_, ?_, ?_⟩
    · exact below_a2q _ _ _
    · rw [HM.out]
      have := alloc_cp (w.alloc (.cells #[.int .i64 0, .int .i64 0, .string ⟨#[]⟩] 40)) (d1, d2, d3) 40
      simpa using this
    · exact (alloc_cp w (0, 0, ⟨#[]⟩) 40).below (below_a1q _ _)
  case round =>
    obtain ⟨j, hj, rfl, HH⟩ := hrel
    obtain ⟨hB, hC, hD⟩ := HH.out
    have zw := hB.size
    have gg := hC.lt
    have HC : Hid (CpAt wr (w.heap.size + 1) (cp l (bst l s j))) := hC
    clear B0 B1 B2 A00 HM y1 y2 y3
    by_cases hlt : j < n1
    · obtain ⟨b1', o1', e', _, A0, _⟩ := rowN_at (Kd.below H1.out hB) hlt
      injection e' with e'; injection e' with eb eo; subst eb eo
      obtain ⟨e1, hkn⟩ := some_nat HS.out (show j < s.length by rw [← HN1.out]; exact hlt)
      have HW : Hid (bst l s (j + 1) = if (cp l (bst l s j)).2.1 < (cp l (nat s j)).2.1 then nat s j else bst l s j) := rfl
      rw [e1] at A0
      clear e1
      generalize bst l s j = m at *
      generalize nat s j = k at *
      obtain ⟨b', o', e', hb', j1, j2, j3, B0, B1, B2⟩ := rowC_at (Kd.below H.out hB) hkn
      injection e' with e'; injection e' with eb eo; subst eb eo
      obtain ⟨C0, C1, C2, F0, F1, F2⟩ := hC
      have HMM : Hid (cp l m = cp l m) := rfl
      obtain ⟨x, hx⟩ : ∃ x, x = cp l m := ⟨_, rfl⟩
      obtain ⟨y, hy⟩ : ∃ y, y = cp l k := ⟨_, rfl⟩
      have HX : Hid (x = cp l m) := hx
      have HY : Hid (y = cp l k) := hy
      rw [← hx, ← hy] at HW
      rw [← hy] at B0 B1 B2 j1 j2 j3
      rw [← hx] at HC C0 C1 C2
      clear hx hy HMM
      obtain ⟨x1, x2, x3⟩ := x
      obtain ⟨y1, y2, y3⟩ := y
      simp only at B0 B1 B2 C0 C1 C2
      have i0 : (j : Int) < (n1 : Int) := by omega
      have i1 : (0 : Int) ≤ (j : Int) := by omega
      have i4 : (k : Int) < (n : Int) := by omega
      have i5 : (0 : Int) ≤ (k : Int) := by omega
      have U1 := fun q => BelowOf.cell B0 q
      have U2 := fun q => BelowOf.cell B1 q
      have U3 := fun q => BelowOf.cell B2 q
      have U4 := fun q => BelowOf.cell C0 q
      have U5 := fun q => BelowOf.cell C1 q
      have U6 := fun q => BelowOf.cell C2 q
      have hne := belowOf_ne wr
      go_upto_region 5 with fail
      refine region_below (by kernel_rfl) (by kernel_rfl) ?_
      repeat (go_big_quiet_step (fail))
      refine wpQuiet_nil (belowOf_all ?_)
      intro w4 hb4
      have D0 : w4.cell? ⟨b, o + k * 3, none⟩ = some (.int .i64 y1) := U1 ⟨w4, hb4⟩
      have D1 : w4.cell? ⟨b, o + k * 3 + 1, none⟩ = some (.int .i64 y2) := U2 ⟨w4, hb4⟩
      have D2 : w4.cell? ⟨b, o + k * 3 + 2, none⟩ = some (.string y3) := U3 ⟨w4, hb4⟩
      have HC4 : Hid (CpAt w4 (w.heap.size + 1) (x1, x2, x3)) := HC.out.below hb4
      have HD4 : Hid (CpAt w4 w.heap.size (0, 0, ⟨#[]⟩)) := hD.below hb4
      have HB4 : Hid (Below w.heap.size w w4) := hB.trans (hb4.mono zw)
      obtain ⟨G0, G1, G2, J0, J1, J2⟩ := HC4.out
      simp only at G0 G1 G2
      clear U1 U2 U3 U4 U5 U6 hne B0 B1 B2 C0 C1 C2 F0 F1 F2
      by_cases c1 : x2 < y2
      · have HM2 : Hid (bst l s (j + 1) = k) := by show _ = _; rw [HW.out]; exact if_pos c1
        go_wp2
        go_roundw
        case rel => exact ⟨j + 1, by omega, by go_num, below_put HB4.out (by omega) (y1, y2, y3), by rw [HM2.out, ← HY.out]; exact HC4.out.put (y1, y2, y3), HD4.out.keep (putC_block w4 _ (y1, y2, y3) (by omega))⟩
        case measure => simp [intOf]; omega
      · have HM2 : Hid (bst l s (j + 1) = m) := by show _ = _; rw [HW.out]; exact if_neg c1
        go_wp2
        go_roundw
        case rel => exact ⟨j + 1, by omega, by go_num, HB4.out, by rw [HM2.out, ← HX.out]; exact HC4.out, HD4.out⟩
        case measure => simp [intOf]; omega
    · obtain rfl : j = n1 := by omega
      have i0 : ¬ (j : Int) < (j : Int) := by omega
      obtain ⟨m, hm⟩ : ∃ m, m = cp l (bst l s j) := ⟨_, rfl⟩
      rw [← hm] at HC hC
      have HN : Hid (cp l (bst l s j) = m) := hm.symm
      clear hm HH
      obtain ⟨m1, m2, m3⟩ := m
      obtain ⟨C0, C1, C2, F0, F1, F2⟩ := hC
      obtain ⟨G0, G1, G2, J0, J1, J2⟩ := hD
      simp only at C0 C1 C2 G0 G1 G2
      have HD : Hid (CpAt wr w.heap.size (0, 0, ⟨#[]⟩)) := ⟨G0, G1, G2, J0, J1, J2⟩
      go_wp2
      have q := HD.out.put (m1, m2, m3)
      obtain ⟨Q0, Q1, Q2, _, _, _⟩ := q
      unfold putC at Q0 Q1 Q2
      simp only at Q0 Q1 Q2
      refine bodyPost_ret (v := .agg #[.int .i64 m1, .int .i64 m2, .string m3]) (by simp [results, Try.results46, go_sem, Q0, Q1, Q2]) rfl ?_
      rw [HN.out]
      exact ⟨rfl, below_put hB (Nat.le_refl _) (m1, m2, m3)⟩
end Go.Proofs.Ytbkdkiodkcpbeaa
