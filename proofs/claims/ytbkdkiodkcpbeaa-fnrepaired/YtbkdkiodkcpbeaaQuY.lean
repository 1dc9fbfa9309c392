/- WriteText: the specification's. No condition but that rows fit in memory. -/
import Derived.Test.YtbkdkiodkcpbeaaQuX
namespace Go.Proofs.Ytbkdkiodkcpbeaa
open Go.RowKit
set_option linter.unusedVariables false

set_option maxRecDepth 100000 in
set_option maxHeartbeats 4000000 in
theorem own14_k (l : List DCopy) (a : Option Addr) (n c : Nat) (S : Nat → Prop) (r t : Int) (w : World) (h : (kRow kCopy).is false w S [.slice a n c] l) (hn7 : n ≤ 7) :
    Calls Try.prog 51 #[.agg #[.slice a n c, .int .i64 r, .int .i64 t]] w fun e w' => ∃ a' c', e = .returned (.agg #[.slice a' n c', .int .i64 r, .int .i64 t]) ∧ (kRow kCopy).is true w' (fun k => w.heap.size ≤ k) [.slice a' n c'] l ∧ Below w.heap.size w w' := by
  have HN : Hid (n = l.length) := row_len h
  have HI : Hid (∀ x ∈ l, CpI x) := row_cpi h
  have hl7 : l.length ≤ 7 := by rw [← HN.out]; exact hn7
  have H : Hid ((kRow kCopy).is false w S [.slice a n c] l) := h
  clear h
  go_enter Try.func51, Try.ntmps51
  have HOE : Hid (OwnL cpC 40 3 (((w.alloc (.cells #[.slice a n c, .int .i64 r, .int .i64 t] 25)).alloc (.cells #[.slice none 0 0, .int .i64 0, .int .i64 0] 25)).alloc (.cells #[] 40)) (w.heap.size + 2) (.slice (some ⟨w.heap.size + 1 + 1, 0, none⟩) 0 0) []) := by
    have := own_empC ((w.alloc (.cells #[.slice a n c, .int .i64 r, .int .i64 t] 25)).alloc (.cells #[.slice none 0 0, .int .i64 0, .int .i64 0] 25)) (w.heap.size + 2) (by simp)
    rw [show ((w.alloc (.cells #[.slice a n c, .int .i64 r, .int .i64 t] 25)).alloc (.cells #[.slice none 0 0, .int .i64 0, .int .i64 0] 25)).heap.size = w.heap.size + 1 + 1 by simp] at this
    exact this
  have HB2 : Hid (Below w.heap.size w (((w.alloc (.cells #[.slice a n c, .int .i64 r, .int .i64 t] 25)).alloc (.cells #[.slice none 0 0, .int .i64 0, .int .i64 0] 25)).alloc (.cells #[] 40))) := (below_a2q _ _ _).alloc (by simp; omega) _
  have HR1 : Hid ((kRow kCopy).is false (((w.alloc (.cells #[.slice a n c, .int .i64 r, .int .i64 t] 25)).alloc (.cells #[.slice none 0 0, .int .i64 0, .int .i64 0] 25)).alloc (.cells #[] 40)) S [.slice a n c] l) := Kd.below H.out HB2.out
  have HT : Hid (Tri (((w.alloc (.cells #[.slice a n c, .int .i64 r, .int .i64 t] 25)).alloc (.cells #[.slice none 0 0, .int .i64 0, .int .i64 0] 25)).alloc (.cells #[] 40)) w.heap.size (.slice a n c) (.int .i64 r) (.int .i64 t) ∧ Tri (((w.alloc (.cells #[.slice a n c, .int .i64 r, .int .i64 t] 25)).alloc (.cells #[.slice none 0 0, .int .i64 0, .int .i64 0] 25)).alloc (.cells #[] 40)) (w.heap.size + 1) (.slice none 0 0) (.int .i64 0) (.int .i64 0)) := by
    refine ⟨((alloc_tri w _ _ _ _).below (below_a1q _ _)).below (below_a1q _ _), ?_⟩
    have := (alloc_tri (w.alloc (.cells #[.slice a n c, .int .i64 r, .int .i64 t] 25)) (.slice none 0 0) (.int .i64 0) (.int .i64 0) 25).below (below_a1q _ (.cells #[] 40))
    simpa using this
  go_wp2_with (first | (at_builtin; go_loud (refine app_cps rfl _ _ rfl (w.heap.size + 2) _ [] rfl HOE.out a n c S l rfl HR1.out (by simp; omega) (by simp) ?_)))
  intro v3 w3 ho3 hb3 _
  obtain ⟨a3, c3, rfl, _⟩ := ho3.form
  have HO : Hid (OwnL cpC 40 3 w3 (w.heap.size + 2) (.slice a3 l.length c3) l) := ho3
  have hz : w.heap.size + 1 < w3.heap.size := by have := hb3.size; simp at this; omega
  have HT3 : Hid (Tri w3 w.heap.size (.slice a n c) (.int .i64 r) (.int .i64 t)) := HT.out.1.keep (hb3.block _ (by omega))
  have HT4 : Hid (Tri w3 (w.heap.size + 1) (.slice none 0 0) (.int .i64 0) (.int .i64 0)) := HT.out.2.keep (hb3.block _ (by omega))
  have HB3 : Hid (Below w.heap.size w w3) := HB2.out.trans (hb3.mono (by omega))
  have HRW : Hid ((kRow kCopy).is true w3 (fun k => w.heap.size + 2 ≤ k) [.slice a3 n c3] l) := by show (kRow kCopy).is _ _ _ _ _; rw [HN.out]; exact own_cps HO.out (by omega) HI.out
  rw [show l.length = n from HN.out.symm]
  clear ho3 hb3 HT HR1 HB2 HOE
  obtain ⟨D0, D1, D2, E0, E1, E2⟩ := HT3.out
  obtain ⟨R0, R1, R2, F0, F1, F2⟩ := HT4.out
  have q0 : Tri (w3.setCell ⟨w.heap.size, 0, none⟩ (.slice a3 n c3)) (w.heap.size + 1) (.slice none 0 0) (.int .i64 0) (.int .i64 0) := HT4.out.keep (heap_set_ne (by omega))
  have HQ := q0.put (.slice a3 n c3) (.int .i64 r) (.int .i64 t)
  have hk := put3_kept (w3.setCell ⟨w.heap.size, 0, none⟩ (.slice a3 n c3)) (w.heap.size + 1) (.slice a3 n c3) (.int .i64 r) (.int .i64 t)
  have hk0 : KeptO (fun k => k = w.heap.size) w3 (w3.setCell ⟨w.heap.size, 0, none⟩ (.slice a3 n c3)) := ⟨rfl, rfl, rfl, by simp, fun k hk hn => heap_set_ne hn⟩
  have HBZ : Hid (Below w.heap.size w (put3 (w3.setCell ⟨w.heap.size, 0, none⟩ (.slice a3 n c3)) (w.heap.size + 1) (.slice a3 n c3) (.int .i64 r) (.int .i64 t))) := below_put3 (HB3.out.trans (hk0.below (by omega) (fun k hk e => by omega))) (by omega) _ _ _
  have HRZ : Hid ((kRow kCopy).is true (put3 (w3.setCell ⟨w.heap.size, 0, none⟩ (.slice a3 n c3)) (w.heap.size + 1) (.slice a3 n c3) (.int .i64 r) (.int .i64 t)) (fun k => w.heap.size ≤ k) [.slice a3 n c3] l) := Kd.mono (Kd.kept (Kd.kept HRW.out hk0 (fun q _ h e => by omega)) hk (fun q _ h e => by omega)) (fun q hq => by omega)
  obtain ⟨Q0, Q1, Q2, _, _, _⟩ := HQ
  unfold put3 at Q0 Q1 Q2 HBZ HRZ
  clear hk q0
  go_wp2
  refine bodyPost_ret (v := .agg #[.slice a3 n c3, .int .i64 r, .int .i64 t]) (by simp [results, Try.results51, go_sem, Q0, Q1, Q2]) rfl ?_
  exact ⟨a3, c3, rfl, HRZ.out, HBZ.out⟩
set_option maxRecDepth 100000 in
set_option maxHeartbeats 8000000 in
theorem writeSp_k (l : List DCopy) (a : Option Addr) (n c : Nat) (S : Nat → Prop) (r t : Int) (s : List Int) (a1 : Option Addr) (n1 c1 : Nat) (S1 : Nat → Prop) (x2 : ByteArray) (w : World) (h : (kRow kCopy).is false w S [.slice a n c] l) (hcap : n ≤ c) (h1 : (kRow kInt).is false w S1 [.slice a1 n1 c1] s) (hi1 : IntOk r) (hi2 : IntOk t) :
    Calls Try.prog 15 #[.agg #[.slice a n c, .int .i64 r, .int .i64 t], .slice a1 n1 c1, .string x2] w (RWriteText (l, r, t) s x2 w) := by
  have HI : Hid (IntOk r ∧ IntOk t) := ⟨hi1, hi2⟩
  clear hi1 hi2
  have HNL : Hid (n = l.length) := row_len h
  have HN1 : Hid (n1 = s.length) := row_len h1
  have H : Hid ((kRow kCopy).is false w S [.slice a n c] l) := h
  have H1 : Hid ((kRow kInt).is false w S1 [.slice a1 n1 c1] s) := h1
  clear h h1
  go_enter Try.func15, Try.ntmps15
  go_upto_region 1 with fail
  obtain ⟨W0, hW0⟩ : ∃ W, W = (w.alloc (.cells #[.slice a n c, .int .i64 r, .int .i64 t] 25)).alloc (.cells #[.slice none 0 0, .int .i64 0, .int .i64 0] 25) := ⟨_, rfl⟩
  have CT : Hid (Tri W0 w.heap.size (.slice a n c) (.int .i64 r) (.int .i64 t) ∧ Tri W0 (w.heap.size + 1) (.slice none 0 0) (.int .i64 0) (.int .i64 0)) := by
    show _ ∧ _
    rw [hW0]
    refine ⟨(alloc_tri w _ _ _ _).below (below_a1q _ _), ?_⟩
    have := alloc_tri (w.alloc (.cells #[.slice a n c, .int .i64 r, .int .i64 t] 25)) (.slice none 0 0) (.int .i64 0) (.int .i64 0) 25
    simpa using this
  have C : W0.cell? ⟨w.heap.size, 0, none⟩ = some (.slice a n c) ∧ W0.cell? ⟨w.heap.size, 1, none⟩ = some (.int .i64 r) ∧ W0.cell? ⟨w.heap.size, 2, none⟩ = some (.int .i64 t) := ⟨CT.out.1.c0, CT.out.1.c1, CT.out.1.c2⟩
  have HB0 : Hid (Below w.heap.size w W0) := by show Below _ _ _; rw [hW0]; exact below_a2q _ _ _
  rw [← hW0]
  clear hW0
  obtain ⟨C0, C1, C2⟩ := C
  have hg0 : w.heap.size < W0.heap.size := World.block_lt_of_cell? _ _ C0
  have U0 := fun p => BelowOf.cell C0 p
  have U1 := fun p => BelowOf.cell C1 p
  have U2 := fun p => BelowOf.cell C2 p
  have hne := belowOf_ne W0
  have HGD : Hid (∀ p : BelowOf W0, Calls Try.prog 18 #[.agg #[.slice a n c, .int .i64 r, .int .i64 t]] p.v fun e w' => e = .returned (.bool (fGoodVoting (l, r, t))) ∧ Below p.v.heap.size p.v w') := fun p => goodS_k l a n c S r t p.v (Kd.below (Kd.below H.out HB0.out) p.h) hcap
  cases hg : fGoodVoting (l, r, t) with
  | false =>
    rw [hg] at HGD
    have HF : Hid (fWriteText (l, r, t) s x2 = (noV, false)) := write_no (fun g => by have := g.1; rw [enough_no1 hg] at this; cases this)
    clear hg
    refine region_below (by kernel_rfl) (by kernel_rfl) ?_
    repeat (go_big_quiet_step (first | (go_at_call 18; exact BelowOf.calls (HGD.out _))))
    refine wpQuiet_nil (belowOf_all ?_)
    intro w3 hb3
    have HB3 : Hid (Below w.heap.size w w3) := HB0.out.trans (hb3.mono HB0.out.size)
    have HDR : Hid (Tri w3 (w.heap.size + 1) (.slice none 0 0) (.int .i64 0) (.int .i64 0)) := CT.out.2.below hb3
    obtain ⟨R0, R1, R2, F0, F1, F2⟩ := HDR.out
    have HZ := HDR.out.put (.slice none 0 0) (.int .i64 0) (.int .i64 0)
    obtain ⟨Z0, Z1, Z2, _, _, _⟩ := HZ
    have HZB : Hid (Below w.heap.size w (put3 w3 (w.heap.size + 1) (.slice none 0 0) (.int .i64 0) (.int .i64 0))) := below_put3 HB3.out (by omega) _ _ _
    unfold put3 at Z0 Z1 Z2 HZB
    go_wp2
    refine bodyPost_ret (v := .tuple #[.agg #[.slice none 0 0, .int .i64 0, .int .i64 0], .bool false]) (by simp [results, Try.results15, go_sem, Z0, Z1, Z2]) rfl ?_
    unfold RWriteText
    rw [HF.out]
    exact ⟨_, _, rfl, noV_is _ w.heap.size, fun k h => h, noV_cnt, HZB.out⟩
  | true =>
    have g := (vg_iff _).1 hg
    have hok : okTil l n = true := by rw [HNL.out]; exact g.ok
    have h7 : n ≤ 7 := by rw [HNL.out]; exact g.hi
    have HME : Hid (MeetOk (allW l) r t) := g.meet
    have HK : Hid (okTil l n = true) := hok
    have HVG : Hid (fGoodVoting (l, r, t) = true) := hg
    have HSO : Hid (∀ p : BelowOf W0, Calls Try.prog 48 #[.slice a1 n1 c1, .int .i64 n] p.v fun e w' => e = .returned (.bool (someOk s n)) ∧ Below p.v.heap.size p.v w') := fun p => (some14_k s a1 n1 c1 S1 n p.v (Kd.below (Kd.below H1.out HB0.out) p.h) (by omega)).mono fun e w' h => ⟨h.1, by rw [h.2]; exact Below.refl _ _⟩
    rw [hg] at HGD
    clear g hg hok
    cases hs : someOk s n with
    | false =>
      rw [hs] at HSO
      have HF : Hid (fWriteText (l, r, t) s x2 = (noV, false)) := write_no (fun g => by have := g.1; rw [enough_no2 (by show someOk s l.length = false; rw [← HNL.out]; exact hs)] at this; cases this)
      clear hs
      refine region_below (by kernel_rfl) (by kernel_rfl) ?_
      repeat (go_big_quiet_step (first | (go_at_call 18; exact BelowOf.calls (HGD.out _)) | (go_at_call 48; exact BelowOf.calls (HSO.out _))))
      refine wpQuiet_nil (belowOf_all ?_)
      intro w3 hb3
      have HB3 : Hid (Below w.heap.size w w3) := HB0.out.trans (hb3.mono HB0.out.size)
      have HDR : Hid (Tri w3 (w.heap.size + 1) (.slice none 0 0) (.int .i64 0) (.int .i64 0)) := CT.out.2.below hb3
      obtain ⟨R0, R1, R2, F0, F1, F2⟩ := HDR.out
      have HZ := HDR.out.put (.slice none 0 0) (.int .i64 0) (.int .i64 0)
      obtain ⟨Z0, Z1, Z2, _, _, _⟩ := HZ
      have HZB : Hid (Below w.heap.size w (put3 w3 (w.heap.size + 1) (.slice none 0 0) (.int .i64 0) (.int .i64 0))) := below_put3 HB3.out (by omega) _ _ _
      unfold put3 at Z0 Z1 Z2 HZB
      go_wp2
      refine bodyPost_ret (v := .tuple #[.agg #[.slice none 0 0, .int .i64 0, .int .i64 0], .bool false]) (by simp [results, Try.results15, go_sem, Z0, Z1, Z2]) rfl ?_
      unfold RWriteText
      rw [HF.out]
      exact ⟨_, _, rfl, noV_is _ w.heap.size, fun k h => h, noV_cnt, HZB.out⟩
    | true =>
      rw [hs] at HSO
      have HSS : Hid (someOk s n = true) := hs
      have HWT : Hid (∀ p : BelowOf W0, Calls Try.prog 49 #[.agg #[.slice a n c, .int .i64 r, .int .i64 t], .slice a1 n1 c1] p.v fun e w' => e = .returned (.int .i64 (wIn (l, r, t) s)) ∧ Below p.v.heap.size p.v w') := fun p => by
        rw [show wIn (l, r, t) s = wS l s n1 by show wS l s s.length = _; rw [HN1.out]]
        exact weight14_k l a n c S r t s a1 n1 c1 S1 p.v (Kd.below (Kd.below H.out HB0.out) p.h) (Kd.below (Kd.below H1.out HB0.out) p.h) h7 HK.out HSS.out
      have HEN : Hid (enoughB (l, r, t) s t = decide (t ≤ wIn (l, r, t) s)) := enough_eq HVG.out (by show someOk s l.length = true; rw [← HNL.out]; exact HSS.out)
      clear hs
      by_cases c3 : t ≤ wIn (l, r, t) s
      · have HE1 : Hid (enoughB (l, r, t) s t = true) := by show _ = _; rw [HEN.out]; exact decide_eq_true c3
        have hn1 : 0 < n1 := by rw [HN1.out]; exact (enough_pos HE1.out (by have := HME.out; unfold MeetOk at this; omega)).2.2.2
        generalize wIn (l, r, t) s = z at *
        have kd : decide (z < t) = false := decide_eq_false (by omega)
        by_cases c12 : x2.size ≤ 12
        · have k12 : (x2.size : Int) ≤ 12 := by omega
          refine region_below (by kernel_rfl) (by kernel_rfl) ?_
          repeat (go_big_quiet_step (first | (go_at_call 18; exact BelowOf.calls (HGD.out _)) | (go_at_call 48; exact BelowOf.calls (HSO.out _)) | (go_at_call 49; exact BelowOf.calls (HWT.out _))))
          refine wpQuiet_nil (belowOf_all ?_)
          intro w3 hb3
          have HB3 : Hid (Below w.heap.size w w3) := HB0.out.trans (hb3.mono HB0.out.size)
          have HBT : Hid (∀ p : BelowOf w3, Calls Try.prog 50 #[.agg #[.slice a n c, .int .i64 r, .int .i64 t], .slice a1 n1 c1] p.v fun e w' => e = .returned (.int .i64 (bst l s n1)) ∧ Below p.v.heap.size p.v w') := fun p => best14_k l a n c S r t s a1 n1 c1 S1 p.v (Kd.below (Kd.below H.out HB3.out) p.h) (Kd.below (Kd.below H1.out HB3.out) p.h) HSS.out hn1
          have hbn : bst l s n1 < n := bst_lt HSS.out (by rw [← HN1.out]; exact hn1) (by rw [HN1.out]; exact Nat.le_refl _)
          have HNW : Hid (nwc l s = cp l (bst l s n1)) := by show cp l (bst l s s.length) = _; rw [HN1.out]
          have HOK : Hid (CpOk (cp l (bst l s n1))) := cpAt_ok (okTil_at HK.out hbn)
          have HSL : Hid (someOk s l.length = true ∧ 0 < s.length) := ⟨by rw [← HNL.out]; exact HSS.out, by rw [← HN1.out]; exact hn1⟩
          have HVV : Hid (VG (l, r, t)) := (vg_iff _).1 HVG.out
          have HTOP : Hid ((cp l (bst l s n1)).2.1 = tp l l.length) := by
            show _ = _
            rw [← HNW.out]
            have hmm := HME.out
            unfold MeetOk at hmm
            exact best_top (v := (l, r, t)) HVV.out HSL.out.1 HSL.out.2 (least := t) (enough_pos HE1.out hmm.2.2.1).2.2.1 (by show allW l < t + t; omega)
          have HWI : Hid (t ≤ wIn (l, r, t) s) := (enough_pos HE1.out (by have hmm := HME.out; unfold MeetOk at hmm; exact hmm.2.2.1)).2.2.1
          obtain ⟨b, o, hba, hb, _, _, _, A0, A1, A2⟩ := rowC_at (Kd.below H.out HB3.out) hbn
          have HFY : Hid ((cp l (bst l s n1)).2.1 + 1 ≤ 1000000 → fWriteText (l, r, t) s x2 = ((hol l s ((cp l (bst l s n1)).2.1 + 1) x2 n1, r, t), true)) := fun h => by
            rw [write_yes ⟨HE1.out, c12, by show (nwc l s).2.1 + 1 ≤ _; rw [HNW.out]; exact h⟩]
            show ((hol l s ((nwc l s).2.1 + 1) x2 s.length, r, t), true) = _
            rw [HNW.out, ← HN1.out]
          have HFN : Hid (¬ (cp l (bst l s n1)).2.1 + 1 ≤ 1000000 → fWriteText (l, r, t) s x2 = (noV, false)) := fun h => write_no fun g => h (by have := g.2.2; simp only at this; rw [HNW.out] at this; exact this)
          have HGG : Hid (fGoodVoting (hol l s ((cp l (bst l s n1)).2.1 + 1) x2 n1, r, t) = decide ((cp l (bst l s n1)).2.1 + 1 ≤ 1000000)) := by
            show _ = _
            rw [show hol l s ((cp l (bst l s n1)).2.1 + 1) x2 n1 = held l s ((cp l (bst l s n1)).2.1 + 1) x2 by unfold held; rw [HN1.out]]
            by_cases cv : (cp l (bst l s n1)).2.1 + 1 ≤ 1000000
            · rw [decide_eq_true cv]
              exact (vg_iff _).2 (write_good (v := (l, r, t)) HVV.out HSL.out.1 HSL.out.2 c12 HWI.out (by show tp l l.length < _; rw [← HTOP.out]; omega) cv)
            · rw [decide_eq_false cv]
              exact write_bad (v := (l, r, t)) HSL.out.1 HSL.out.2 cv
          clear HTOP HVV HWI HNW
          generalize bst l s n1 = k at *
          obtain ⟨x, hx⟩ : ∃ x, x = cp l k := ⟨_, rfl⟩
          rw [← hx] at HOK A0 A1 A2 HFY HFN HGG
          clear hx
          obtain ⟨x1, x2', x3⟩ := x
          obtain ⟨_, _, v1, v2, _⟩ := HOK.out
          simp only at A0 A1 A2 HFY HFN HGG v1 v2
          have D0 : w3.cell? ⟨w.heap.size, 0, none⟩ = some (.slice a n c) := U0 ⟨w3, hb3⟩
          have D1 : w3.cell? ⟨w.heap.size, 1, none⟩ = some (.int .i64 r) := U1 ⟨w3, hb3⟩
          have D2 : w3.cell? ⟨w.heap.size, 2, none⟩ = some (.int .i64 t) := U2 ⟨w3, hb3⟩
          have CT3 : Hid (Tri w3 w.heap.size (.slice a n c) (.int .i64 r) (.int .i64 t) ∧ Tri w3 (w.heap.size + 1) (.slice none 0 0) (.int .i64 0) (.int .i64 0)) := ⟨CT.out.1.below hb3, CT.out.2.below hb3⟩
          have i2 : (k : Int) < (n : Int) := by omega
          have i3 : (0 : Int) ≤ (k : Int) := by omega
          clear U0 U1 U2 hne C0 C1 C2 HGD HSO HWT hb3
          have V0 := fun p => BelowOf.cell D0 p
          have V1 := fun p => BelowOf.cell D1 p
          have V2 := fun p => BelowOf.cell D2 p
          have V3 := fun p => BelowOf.cell A1 p
          have hne := belowOf_ne w3
          rw [hba] at V0 HBT D0
          go_upto_region 3 with fail
          refine region_below (by kernel_rfl) (by kernel_rfl) ?_
          repeat (go_big_quiet_step (first | (go_at_call 50; exact BelowOf.calls (HBT.out _))))
          refine wpQuiet_nil (belowOf_all ?_)
          intro w4 hb4
          have HB4 : Hid (Below w.heap.size w w4) := HB3.out.trans (hb4.mono HB3.out.size)
          have CT4 : Hid (Tri w4 w.heap.size (.slice a n c) (.int .i64 r) (.int .i64 t) ∧ Tri w4 (w.heap.size + 1) (.slice none 0 0) (.int .i64 0) (.int .i64 0)) := ⟨CT3.out.1.below hb4, CT3.out.2.below hb4⟩
          clear hb4 D0 D1 D2 V0 V1 V2 V3 hne A0 A1 A2 hba hb HBT CT3
          obtain ⟨D0, D1, D2, _, _, _⟩ := CT4.out.1
          go_wp2_with fail
          refine (own14_k l a n c S r t w4 (Kd.below H.out HB4.out) h7).mono ?_
          rintro e w5 ⟨a', c', rfl, hr5, hb5⟩
          have HB5 : Hid (Below w.heap.size w w5) := HB4.out.trans (hb5.mono HB4.out.size)
          have CT5 : Hid (Tri w5 w.heap.size (.slice a n c) (.int .i64 r) (.int .i64 t) ∧ Tri w5 (w.heap.size + 1) (.slice none 0 0) (.int .i64 0) (.int .i64 0)) := ⟨CT4.out.1.below hb5, CT4.out.2.below hb5⟩
          have hz4 : w.heap.size + 2 ≤ w4.heap.size := by have := CT4.out.2.lt; omega
          have HR5 : Hid ((kRow kCopy).is true w5 (fun k => w.heap.size + 2 ≤ k) [.slice a' n c'] l) := Kd.mono hr5 (fun q h => by have h' : w4.heap.size ≤ q := h; omega)
          clear hr5 hb5 D0 D1 D2 CT4
          obtain ⟨D0, D1, D2, E0, E1, E2⟩ := CT5.out.1
          have HP := CT5.out.1.put (.slice a' n c') (.int .i64 r) (.int .i64 t)
          have hk := put3_kept w5 w.heap.size (.slice a' n c') (.int .i64 r) (.int .i64 t)
          have HT2 : Tri (put3 w5 w.heap.size (.slice a' n c') (.int .i64 r) (.int .i64 t)) (w.heap.size + 1) (.slice none 0 0) (.int .i64 0) (.int .i64 0) := CT5.out.2.keep (put3_block _ _ _ _ _ (by omega))
          have HH0 : Hid (HoAt w (put3 w5 w.heap.size (.slice a' n c') (.int .i64 r) (.int .i64 t)) a' n c' r t l) := ⟨Kd.kept HR5.out hk (fun q _ h e => by omega), HP.c0, HP.c1, HP.c2, HT2.c0, HT2.c1, HT2.c2, HT2.f0, HT2.f1, HT2.f2, below_put3 HB5.out (Nat.le_refl _) _ _ _, by have h1 := CT5.out.2.lt; have h2 := put3_size w5 w.heap.size (.slice a' n c') (.int .i64 r) (.int .i64 t); omega⟩
          clear HP hk HT2
          go_wp2_with fail
          rw [show ((w5.setCell ⟨w.heap.size, 0, none⟩ (.slice a' n c')).setCell ⟨w.heap.size, 1, none⟩ (.int .i64 r)).setCell ⟨w.heap.size, 2, none⟩ (.int .i64 t) = put3 w5 w.heap.size (.slice a' n c') (.int .i64 r) (.int .i64 t) from rfl]
          generalize put3 w5 w.heap.size (.slice a' n c') (.int .i64 r) (.int .i64 t) = W6 at *
          clear D0 D1 D2 E0 E1 E2 HR5 CT5 HB5 HB4 hz4
          have hmx := row_max H1.out
          have HTX : Hid (x2.size ≤ maxLen) := by show x2.size ≤ maxLen; unfold maxLen; omega
          have HY : Hid (IntOk (x2' + 1)) := by show IntOk _; unfold IntOk; omega
          obtain ⟨y, hy⟩ : ∃ y, y = x2' + 1 := ⟨_, rfl⟩
          rw [← hy] at HY HFY HFN HGG ⊢
          clear hy
          go_loopw [49] (fun iv wr => ∃ j : Nat, j ≤ n1 ∧ iv = .int .i64 j ∧ Hid (HoAt w wr a' n c' r t (hol l s y x2 j))) (fun iv _ => n1 - (intOf iv).toNat)
          case atStart => exact ⟨0, Nat.zero_le _, rfl, HH0⟩
          case round =>
            obtain ⟨j, hj, rfl, HA⟩ := hrel
            have E0 := HA.out.c0
            have hsz := HA.out.siz
            by_cases hlt : j < n1
            · obtain ⟨b1, o1, rfl, hb1, A0, _⟩ := rowN_at (Kd.below H1.out HA.out.bel) hlt
              obtain ⟨e1, hkn⟩ := some_nat HSS.out (show j < s.length by rw [← HN1.out]; exact hlt)
              have HW : Hid (hol l s y x2 (j + 1) = (hol l s y x2 j).set (nat s j) ((cp l (nat s j)).1, y, x2)) := rfl
              have HWT : Hid ((cp (hol l s y x2 j) (nat s j)).1 = (cp l (nat s j)).1) := by
                show _ = _
                rw [hol_cp HSS.out (by rw [← HNL.out]; exact hkn) (by rw [← HN1.out]; omega)]
                split <;> rfl
              rw [e1] at A0
              clear e1
              generalize nat s j = m at *
              obtain ⟨b, o, rfl, hbl, hbS, _, _, q1, q2, u1, u2, p1, p2, hrow, hkp⟩ := rowC_put HA.out.row hkn y x2 HY.out HTX.out
              rw [HWT.out, ← HW.out] at hrow
              have HN : Hid (HoAt w ((wr.setCell ⟨b, o + m * 3 + 1, none⟩ (.int .i64 y)).setCell ⟨b, o + m * 3 + 2, none⟩ (.string x2)) (some ⟨b, o, none⟩) n c' r t (hol l s y x2 (j + 1))) := HA.out.kept hkp hrow
              have hbS' : w.heap.size + 2 ≤ b := hbS
              have i0 : (j : Int) < (n1 : Int) := by omega
              have i1 : (0 : Int) ≤ (j : Int) := by omega
              have i4 : (m : Int) < (n : Int) := by omega
              have i5 : (0 : Int) ≤ (m : Int) := by omega
              clear hrow hkp i2 i3
              go_wp2
              go_roundw
              case rel => exact ⟨j + 1, by omega, by go_num, HN⟩
              case measure => simp [intOf]; omega
            · obtain rfl : j = n1 := by omega
              have i0 : ¬ (j : Int) < (j : Int) := by omega
              obtain ⟨hrow, g0, g1, g2, k0, k1, k2, f0, f1, f2, hbel, _⟩ := HA.out
              have HRW : Hid ((kRow kCopy).is true wr (fun k => w.heap.size + 2 ≤ k) [.slice a' n c'] (hol l s y x2 j)) := hrow
              have HBL : Hid (Below w.heap.size w wr) := hbel
              have HT : Hid (Tri wr (w.heap.size + 1) (.slice none 0 0) (.int .i64 0) (.int .i64 0)) := ⟨k0, k1, k2, f0, f1, f2⟩
              have HTB : Hid (wr.cell? ⟨w.heap.size, 0, none⟩ = some (.slice a' n c') ∧ wr.cell? ⟨w.heap.size, 1, none⟩ = some (.int .i64 r) ∧ wr.cell? ⟨w.heap.size, 2, none⟩ = some (.int .i64 t)) := ⟨g0, g1, g2⟩
              have hcap' := row_cap hrow
              have hlen : (hol l s y x2 j).length ≤ 7 := by rw [hol_len, ← HNL.out]; exact h7
              have HLN : Hid ((hol l s y x2 j).length ≤ 7) := hlen
              clear hrow hbel k0 k1 k2 f0 f1 f2 hlen i2 i3
              go_wp2_with fail
              refine (goodS_k (hol l s y x2 j) a' n c' _ r t wr ((kRow kCopy).read HRW.out) hcap').mono ?_
              rintro e w7 ⟨rfl, hb7⟩
              rw [HGG.out]
              have HT7 : Hid (Tri w7 (w.heap.size + 1) (.slice none 0 0) (.int .i64 0) (.int .i64 0)) := HT.out.below hb7
              have l0 := (hb7.cell (World.block_lt_of_cell? _ _ g0)).trans g0
              have l1 := (hb7.cell (World.block_lt_of_cell? _ _ g1)).trans g1
              have l2 := (hb7.cell (World.block_lt_of_cell? _ _ g2)).trans g2
              have HR7 : Hid ((kRow kCopy).is true w7 (fun k => w.heap.size + 2 ≤ k) [.slice a' n c'] (hol l s y x2 j)) := Kd.below HRW.out hb7
              have HB7 : Hid (Below w.heap.size w w7) := HBL.out.trans (hb7.mono HBL.out.size)
              clear hb7 g0 g1 g2
              obtain ⟨R0, R1, R2, F0, F1, F2⟩ := HT7.out
              by_cases cv : y ≤ 1000000
              · have HF : Hid (fWriteText (l, r, t) s x2 = ((hol l s y x2 j, r, t), true)) := HFY.out cv
                rw [decide_eq_true cv]
                have q := HT7.out.put (.slice a' n c') (.int .i64 r) (.int .i64 t)
                have hk := put3_kept w7 (w.heap.size + 1) (.slice a' n c') (.int .i64 r) (.int .i64 t)
                have HBZ : Hid (Below w.heap.size w (put3 w7 (w.heap.size + 1) (.slice a' n c') (.int .i64 r) (.int .i64 t))) := below_put3 HB7.out (by omega) _ _ _
                have HRZ : Hid ((kRow kCopy).is true (put3 w7 (w.heap.size + 1) (.slice a' n c') (.int .i64 r) (.int .i64 t)) (fun k => w.heap.size ≤ k) [.slice a' n c'] (hol l s y x2 j)) := Kd.mono (Kd.kept HR7.out hk (fun q _ h e => by omega)) (fun q hq => by omega)
                obtain ⟨Q0, Q1, Q2, _, _, _⟩ := q
                unfold put3 at Q0 Q1 Q2 HBZ HRZ
                clear hk
                go_wp2
                refine bodyPost_ret (v := .tuple #[.agg #[.slice a' n c', .int .i64 r, .int .i64 t], .bool true]) (by simp [results, Try.results15, go_sem, Q0, Q1, Q2]) rfl ?_
                unfold RWriteText
                rw [HF.out]
                exact ⟨_, _, rfl, vot_shut (v := (hol l s y x2 j, r, t)) HRZ.out HI.out.1 HI.out.2, fun k h => h, vot_cnt HLN.out, HBZ.out⟩
              · have HF : Hid (fWriteText (l, r, t) s x2 = (noV, false)) := HFN.out (by omega)
                rw [decide_eq_false cv]
                have HZ := HT7.out.put (.slice none 0 0) (.int .i64 0) (.int .i64 0)
                obtain ⟨Z0, Z1, Z2, _, _, _⟩ := HZ
                have HZB : Hid (Below w.heap.size w (put3 w7 (w.heap.size + 1) (.slice none 0 0) (.int .i64 0) (.int .i64 0))) := below_put3 HB7.out (by omega) _ _ _
                unfold put3 at Z0 Z1 Z2 HZB
                go_wp2
                refine bodyPost_ret (v := .tuple #[.agg #[.slice none 0 0, .int .i64 0, .int .i64 0], .bool false]) (by simp [results, Try.results15, go_sem, Z0, Z1, Z2]) rfl ?_
                unfold RWriteText
                rw [HF.out]
                exact ⟨_, _, rfl, noV_is _ w.heap.size, fun k h => h, noV_cnt, HZB.out⟩
        · have k12 : ¬ (x2.size : Int) ≤ 12 := by omega
          have k13 : (12 : Int) < (x2.size : Int) := by omega
          have HF : Hid (fWriteText (l, r, t) s x2 = (noV, false)) := write_no fun g => c12 g.2.1
          refine region_below (by kernel_rfl) (by kernel_rfl) ?_
          repeat (go_big_quiet_step (first | (go_at_call 18; exact BelowOf.calls (HGD.out _)) | (go_at_call 48; exact BelowOf.calls (HSO.out _)) | (go_at_call 49; exact BelowOf.calls (HWT.out _))))
          refine wpQuiet_nil (belowOf_all ?_)
          intro w3 hb3
          have HB3 : Hid (Below w.heap.size w w3) := HB0.out.trans (hb3.mono HB0.out.size)
          have HDR : Hid (Tri w3 (w.heap.size + 1) (.slice none 0 0) (.int .i64 0) (.int .i64 0)) := CT.out.2.below hb3
          obtain ⟨R0, R1, R2, F0, F1, F2⟩ := HDR.out
          have HZ := HDR.out.put (.slice none 0 0) (.int .i64 0) (.int .i64 0)
          obtain ⟨Z0, Z1, Z2, _, _, _⟩ := HZ
          have HZB : Hid (Below w.heap.size w (put3 w3 (w.heap.size + 1) (.slice none 0 0) (.int .i64 0) (.int .i64 0))) := below_put3 HB3.out (by omega) _ _ _
          unfold put3 at Z0 Z1 Z2 HZB
          go_wp2
          refine bodyPost_ret (v := .tuple #[.agg #[.slice none 0 0, .int .i64 0, .int .i64 0], .bool false]) (by simp [results, Try.results15, go_sem, Z0, Z1, Z2]) rfl ?_
          unfold RWriteText
          rw [HF.out]
          exact ⟨_, _, rfl, noV_is _ w.heap.size, fun k h => h, noV_cnt, HZB.out⟩
      · have HF : Hid (fWriteText (l, r, t) s x2 = (noV, false)) := write_no (fun g => by have := g.1; rw [show enoughB (l, r, t) s (l, r, t).2.2 = false from by rw [HEN.out]; exact decide_eq_false c3] at this; cases this)
        generalize wIn (l, r, t) s = z at *
        have kd : decide (z < t) = true := decide_eq_true (by omega)
        refine region_below (by kernel_rfl) (by kernel_rfl) ?_
        repeat (go_big_quiet_step (first | (go_at_call 18; exact BelowOf.calls (HGD.out _)) | (go_at_call 48; exact BelowOf.calls (HSO.out _)) | (go_at_call 49; exact BelowOf.calls (HWT.out _))))
        refine wpQuiet_nil (belowOf_all ?_)
        intro w3 hb3
        have HB3 : Hid (Below w.heap.size w w3) := HB0.out.trans (hb3.mono HB0.out.size)
        have HDR : Hid (Tri w3 (w.heap.size + 1) (.slice none 0 0) (.int .i64 0) (.int .i64 0)) := CT.out.2.below hb3
        obtain ⟨R0, R1, R2, F0, F1, F2⟩ := HDR.out
        have HZ := HDR.out.put (.slice none 0 0) (.int .i64 0) (.int .i64 0)
        obtain ⟨Z0, Z1, Z2, _, _, _⟩ := HZ
        have HZB : Hid (Below w.heap.size w (put3 w3 (w.heap.size + 1) (.slice none 0 0) (.int .i64 0) (.int .i64 0))) := below_put3 HB3.out (by omega) _ _ _
        unfold put3 at Z0 Z1 Z2 HZB
        go_wp2
        refine bodyPost_ret (v := .tuple #[.agg #[.slice none 0 0, .int .i64 0, .int .i64 0], .bool false]) (by simp [results, Try.results15, go_sem, Z0, Z1, Z2]) rfl ?_
        unfold RWriteText
        rw [HF.out]
        exact ⟨_, _, rfl, noV_is _ w.heap.size, fun k h => h, noV_cnt, HZB.out⟩
theorem specWriteText_k (x0 : DVoting) (C0 : List Value) (S0 : Nat → Prop) (x1 : List Int) (a1 : Option Addr) (n1 c1 : Nat) (S1 : Nat → Prop) (x2 : ByteArray) (w : World) (h0 : kVoting.is true w S0 C0 x0) (z0 : kVoting.sz x0 ≤ 2 ^ 20) (h1 : (kRow kInt).is true w S1 [.slice a1 n1 c1] x1) (z1 : (kRow kInt).sz x1 ≤ 2 ^ 20) (h2 : x2.size ≤ 2 ^ 20) :
    Calls Try.prog 15 #[.agg C0.toArray, .slice a1 n1 c1, .string x2] w (RWriteText x0 x1 x2 w) := by
  obtain ⟨a, n, c, T, rfl, hn, hr, _, i1, i2⟩ := vot_open h0
  obtain ⟨l, r, s⟩ := x0
  exact writeSp_k l a n c T r s x1 a1 n1 c1 S1 x2 w ((kRow kCopy).read hr) (row_cap hr) ((kRow kInt).read h1) i1 i2
end Go.Proofs.Ytbkdkiodkcpbeaa
