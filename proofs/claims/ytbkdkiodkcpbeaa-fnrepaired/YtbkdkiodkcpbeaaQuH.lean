/- ReadText: both sides. No condition but that rows fit in memory. -/
import Derived.Test.YtbkdkiodkcpbeaaQuF
namespace Go.Proofs.Ytbkdkiodkcpbeaa
open Go.RowKit
set_option linter.unusedVariables false

theorem enough_eq {v : DVoting} {s : List Int} {least : Int} (h : fGoodVoting v = true) (h2 : someOk s v.1.length = true) : enoughB v s least = decide (least ≤ wIn v s) := by unfold enoughB; rw [fWeight_yes h h2]; rfl
theorem enough_no1 {v : DVoting} {s : List Int} {least : Int} (h : fGoodVoting v = false) : enoughB v s least = false := by unfold enoughB; rw [fWeight_no1 h]; rfl
theorem enough_no2 {v : DVoting} {s : List Int} {least : Int} (h2 : someOk s v.1.length = false) : enoughB v s least = false := by unfold enoughB; rw [fWeight_no2 h2]; rfl
/-- ReadText. -/
def fReadText (v : DVoting) (s : List Int) : ByteArray × Int × Bool := if enoughB v s v.2.1 = true then ((nwc v.1 s).2.2, (nwc v.1 s).2.1, true) else (⟨#[]⟩, 0, false)
/-- What ReadText answers. -/
def RReadText (x0 : DVoting) (x1 : List Int) (w : World) (e : Ending) (w' : World) : Prop := e = .returned (.tuple #[.string (fReadText x0 x1).1, .int .i64 (fReadText x0 x1).2.1, .bool (fReadText x0 x1).2.2]) ∧ (fReadText x0 x1).1.size ≤ 2 ^ 24 ∧ IntOk (fReadText x0 x1).2.1 ∧ Below w.heap.size w w'
theorem read_no {v : DVoting} {s : List Int} (h : enoughB v s v.2.1 = false) : fReadText v s = (⟨#[]⟩, 0, false) := by unfold fReadText; rw [if_neg (by simp [h])]
theorem read_yes {v : DVoting} {s : List Int} (h : enoughB v s v.2.1 = true) : fReadText v s = ((nwc v.1 s).2.2, (nwc v.1 s).2.1, true) := by unfold fReadText; rw [if_pos h]
theorem nwc_ok {l : List DCopy} {s : List Int} {n : Nat} (hok : okTil l n = true) (hs : someOk s n = true) (h0 : 0 < s.length) : CpOk (nwc l s) := cpAt_ok (okTil_at hok (bst_lt hs h0 (Nat.le_refl _)))
set_option maxRecDepth 100000 in
set_option maxHeartbeats 4000000 in
theorem readSp_k (l : List DCopy) (a : Option Addr) (n c : Nat) (S : Nat → Prop) (r t : Int) (s : List Int) (a1 : Option Addr) (n1 c1 : Nat) (S1 : Nat → Prop) (w : World) (h : (kRow kCopy).is false w S [.slice a n c] l) (hcap : n ≤ c) (h1 : (kRow kInt).is false w S1 [.slice a1 n1 c1] s) :
    Calls Try.prog 24 #[.agg #[.slice a n c, .int .i64 r, .int .i64 t], .slice a1 n1 c1] w (RReadText (l, r, t) s w) := by
  have HNL : Hid (n = l.length) := row_len h
  have HN1 : Hid (n1 = s.length) := row_len h1
  have H : Hid ((kRow kCopy).is false w S [.slice a n c] l) := h
  have H1 : Hid ((kRow kInt).is false w S1 [.slice a1 n1 c1] s) := h1
  clear h h1
  go_enter Try.func24, Try.ntmps24
  go_upto_region 1 with fail
  obtain ⟨W0, hW0⟩ : ∃ W, W = w.alloc (.cells #[.slice a n c, .int .i64 r, .int .i64 t] 25) := ⟨_, rfl⟩
  have C : W0.cell? ⟨w.heap.size, 0, none⟩ = some (.slice a n c) ∧ W0.cell? ⟨w.heap.size, 1, none⟩ = some (.int .i64 r) ∧ W0.cell? ⟨w.heap.size, 2, none⟩ = some (.int .i64 t) := by rw [hW0]; simp [go_sem]
  have HB0 : Hid (Below w.heap.size w W0) := by show Below _ _ _; rw [hW0]; exact below_a1q _ _
  rw [← hW0]
  clear hW0
  obtain ⟨C0, C1, C2⟩ := C
  have hg0 : w.heap.size < W0.heap.size := World.block_lt_of_cell? _ _ C0
  have U0 := fun p => BelowOf.cell C0 p
  have U1 := fun p => BelowOf.cell C1 p
  have U2 := fun p => BelowOf.cell C2 p
  have hne := belowOf_ne W0
  have HGD : Hid (∀ p : BelowOf W0, Calls Try.prog 18 #[.agg #[.slice a n c, .int .i64 r, .int .i64 t]] p.v fun e w' => e = .returned (.bool (fGoodVoting (l, r, t))) ∧ Below p.v.heap.size p.v w') := fun p => goodS_k l a n c S r t p.v (Kd.below (Kd.below H.out HB0.out) p.h) hcap
  cases hg : fGoodVoting (l, r, t) with
  | false =>
    rw [hg] at HGD
    have HF : Hid (fReadText (l, r, t) s = (⟨#[]⟩, 0, false)) := read_no (enough_no1 hg)
    clear hg
    refine region_below (by kernel_rfl) (by kernel_rfl) ?_
    repeat (go_big_quiet_step (first | (go_at_call 18; exact BelowOf.calls (HGD.out _))))
    refine wpQuiet_nil (belowOf_all ?_)
    intro w3 hb3
    have HB3 : Hid (Below w.heap.size w w3) := HB0.out.trans (hb3.mono HB0.out.size)
    go_wp2
    refine bodyPost_ret (v := .tuple #[.string ⟨#[]⟩, .int .i64 0, .bool false]) (by simp [results, Try.results24, go_sem]) rfl ?_
    unfold RReadText
    rw [HF.out]
    exact ⟨rfl, Nat.zero_le _, zero_ok, HB3.out⟩
  | true =>
    have g := (vg_iff _).1 hg
    have hok : okTil l n = true := by rw [HNL.out]; exact g.ok
    have h7 : n ≤ 7 := by rw [HNL.out]; exact g.hi
    have HME : Hid (MeetOk (allW l) r t) := g.meet
    have HK : Hid (okTil l n = true) := hok
    have HVG : Hid (fGoodVoting (l, r, t) = true) := hg
    have HSO : Hid (∀ p : BelowOf W0, Calls Try.prog 48 #[.slice a1 n1 c1, .int .i64 n] p.v fun e w' => e = .returned (.bool (someOk s n)) ∧ Below p.v.heap.size p.v w') := fun p => (some14_k s a1 n1 c1 S1 n p.v (Kd.below (Kd.below H1.out HB0.out) p.h) (by omega)).mono fun e w' h => ⟨h.1, by rw [h.2]; exact Below.refl _ _⟩
    rw [hg] at HGD
    clear g hg hok
    cases hs : someOk s n with
    | false =>
      rw [hs] at HSO
      have HF : Hid (fReadText (l, r, t) s = (⟨#[]⟩, 0, false)) := read_no (enough_no2 (by show someOk s l.length = false; rw [← HNL.out]; exact hs))
      clear hs
      refine region_below (by kernel_rfl) (by kernel_rfl) ?_
      repeat (go_big_quiet_step (first | (go_at_call 18; exact BelowOf.calls (HGD.out _)) | (go_at_call 48; exact BelowOf.calls (HSO.out _))))
      refine wpQuiet_nil (belowOf_all ?_)
      intro w3 hb3
      have HB3 : Hid (Below w.heap.size w w3) := HB0.out.trans (hb3.mono HB0.out.size)
      go_wp2
      refine bodyPost_ret (v := .tuple #[.string ⟨#[]⟩, .int .i64 0, .bool false]) (by simp [results, Try.results24, go_sem]) rfl ?_
      unfold RReadText
      rw [HF.out]
      exact ⟨rfl, Nat.zero_le _, zero_ok, HB3.out⟩
    | true =>
      rw [hs] at HSO
      have HSS : Hid (someOk s n = true) := hs
      have HWT : Hid (∀ p : BelowOf W0, Calls Try.prog 49 #[.agg #[.slice a n c, .int .i64 r, .int .i64 t], .slice a1 n1 c1] p.v fun e w' => e = .returned (.int .i64 (wIn (l, r, t) s)) ∧ Below p.v.heap.size p.v w') := fun p => by
        rw [show wIn (l, r, t) s = wS l s n1 by show wS l s s.length = _; rw [HN1.out]]
        exact weight14_k l a n c S r t s a1 n1 c1 S1 p.v (Kd.below (Kd.below H.out HB0.out) p.h) (Kd.below (Kd.below H1.out HB0.out) p.h) h7 HK.out HSS.out
      have HEN : Hid (enoughB (l, r, t) s r = decide (r ≤ wIn (l, r, t) s)) := enough_eq HVG.out (by show someOk s l.length = true; rw [← HNL.out]; exact HSS.out)
      clear hs
      by_cases c3 : r ≤ wIn (l, r, t) s
      · have HE1 : Hid (enoughB (l, r, t) s r = true) := by show _ = _; rw [HEN.out]; exact decide_eq_true c3
        have hn1 : 0 < n1 := by rw [HN1.out]; exact (enough_pos HE1.out (by have := HME.out; unfold MeetOk at this; omega)).2.2.2
        generalize wIn (l, r, t) s = z at *
        refine region_below (by kernel_rfl) (by kernel_rfl) ?_
        repeat (go_big_quiet_step (first | (go_at_call 18; exact BelowOf.calls (HGD.out _)) | (go_at_call 48; exact BelowOf.calls (HSO.out _)) | (go_at_call 49; exact BelowOf.calls (HWT.out _))))
        refine wpQuiet_nil (belowOf_all ?_)
        intro w3 hb3
        have HB3 : Hid (Below w.heap.size w w3) := HB0.out.trans (hb3.mono HB0.out.size)
        have HF : Hid (fReadText (l, r, t) s = ((cp l (bst l s n1)).2.2, (cp l (bst l s n1)).2.1, true)) := by show _ = _; rw [read_yes HE1.out]; unfold nwc; rw [HN1.out]
        have hbn : bst l s n1 < n := bst_lt HSS.out (by rw [← HN1.out]; exact hn1) (by rw [HN1.out]; exact Nat.le_refl _)
        have HOK : Hid (CpOk (cp l (bst l s n1))) := cpAt_ok (okTil_at HK.out hbn)
        have HB : Hid (∀ W, Below w3.heap.size w3 W → Calls Try.prog 50 #[.agg #[.slice a n c, .int .i64 r, .int .i64 t], .slice a1 n1 c1] W fun e w' => e = .returned (.int .i64 (bst l s n1)) ∧ Below W.heap.size W w') := fun W hb => best14_k l a n c S r t s a1 n1 c1 S1 W (Kd.below (Kd.below H.out HB3.out) hb) (Kd.below (Kd.below H1.out HB3.out) hb) HSS.out hn1
        obtain ⟨b, o, rfl, hb, _, _, _, A0, A1, A2⟩ := rowC_at (Kd.below H.out HB3.out) hbn
        generalize bst l s n1 = k at *
        obtain ⟨x, hx⟩ : ∃ x, x = cp l k := ⟨_, rfl⟩
        rw [← hx] at HF HOK A0 A1 A2
        clear hx
        obtain ⟨x1, x2, x3⟩ := x
        simp only at A0 A1 A2
        have D0 : w3.cell? ⟨w.heap.size, 0, none⟩ = some (.slice (some ⟨b, o, none⟩) n c) := U0 ⟨w3, hb3⟩
        have D1 : w3.cell? ⟨w.heap.size, 1, none⟩ = some (.int .i64 r) := U1 ⟨w3, hb3⟩
        have D2 : w3.cell? ⟨w.heap.size, 2, none⟩ = some (.int .i64 t) := U2 ⟨w3, hb3⟩
        have hg3 : w.heap.size < w3.heap.size := Nat.lt_of_lt_of_le hg0 hb3.size
        have i2 : (k : Int) < (n : Int) := by omega
        have i3 : (0 : Int) ≤ (k : Int) := by omega
        clear U0 U1 U2 hne C0 C1 C2 HGD HSO HWT
        go_upto_region 3 with fail
        go_cut [7] (fun p wx => ∃ g, p = .pointer (some ⟨g, 0, none⟩) ∧ Hid (CpAt wx g (x1, x2, x3) ∧ Below w.heap.size w wx))
        case first =>
          have HBa : Hid (Below w3.heap.size w3 (w3.alloc (.cells #[.int .i64 0, .int .i64 0, .string ⟨#[]⟩] 40))) := below_a1q _ _
          have HZa : Hid (CpAt (w3.alloc (.cells #[.int .i64 0, .int .i64 0, .string ⟨#[]⟩] 40)) w3.heap.size (0, 0, ⟨#[]⟩)) := alloc_cp w3 (0, 0, ⟨#[]⟩) 40
          go_region_with (first | (go_at_call 50; go_fit (HB.out w3.drew (Below.refl _ _).drew); rintro e w4 ⟨rfl, hb4⟩; have BX : Below w3.heap.size w3 w4 := (Below.drew (Below.refl w3.heap.size w3)).trans hb4; have HBX : Hid (Below w3.heap.size w3 w4) := BX; have hz4 := BX.size; have X0 := (BX.cell (World.block_lt_of_cell? _ _ D0)).trans D0; have Y0 := (BX.cell (World.block_lt_of_cell? _ _ A0)).trans A0; have Y1 := (BX.cell (World.block_lt_of_cell? _ _ A1)).trans A1; have Y2 := (BX.cell (World.block_lt_of_cell? _ _ A2)).trans A2; have z8 : b < w4.heap.size := World.block_lt_of_cell? _ _ Y0; have z9 : w.heap.size < w4.heap.size := World.block_lt_of_cell? _ _ X0; clear hb4 BX) | (go_at_call 50; go_fit (HB.out (w3.alloc (.cells #[.int .i64 0, .int .i64 0, .string ⟨#[]⟩] 40)).drew HBa.out.drew); rintro e w4 ⟨rfl, hb4⟩; have BX : Below w3.heap.size w3 w4 := HBa.out.drew.trans (hb4.mono (by simp)); have HCZ : Hid (CpAt w4 w3.heap.size (0, 0, ⟨#[]⟩)) := HZa.out.keep (hb4.block w3.heap.size (by simp)); have Z0 := HCZ.out.c0; have Z1 := HCZ.out.c1; have Z2 := HCZ.out.c2; have ZF0 := HCZ.out.f0; have ZF1 := HCZ.out.f1; have ZF2 := HCZ.out.f2; have HBX : Hid (Below w3.heap.size w3 w4) := BX; have hz4 := BX.size; have X0 := (BX.cell (World.block_lt_of_cell? _ _ D0)).trans D0; have Y0 := (BX.cell (World.block_lt_of_cell? _ _ A0)).trans A0; have Y1 := (BX.cell (World.block_lt_of_cell? _ _ A1)).trans A1; have Y2 := (BX.cell (World.block_lt_of_cell? _ _ A2)).trans A2; have z8 : b < w4.heap.size := World.block_lt_of_cell? _ _ Y0; have z9 : w.heap.size < w4.heap.size := World.block_lt_of_cell? _ _ X0; clear hb4 BX))
          all_goals
            go_wp2_with fail
            go_meet
            case rel => first | exact ⟨_, rfl, alloc_cp w4 (x1, x2, x3) 40, HB3.out.trans ((HBX.out.trans ((below_a1q _ _).mono hz4)).mono HB3.out.size)⟩ | exact ⟨_, rfl, HCZ.out.put (x1, x2, x3), below_put (HB3.out.trans (HBX.out.mono HB3.out.size)) (Nat.le_of_lt hg3) (x1, x2, x3)⟩
        case rest =>
          obtain ⟨g, rfl, HC⟩ := hcut
          obtain ⟨⟨E0, E1, E2, _, _, _⟩, hB⟩ := HC.out
          simp only at E0 E1 E2
          have V0 := fun p => BelowOf.cell E0 p
          have V1 := fun p => BelowOf.cell E1 p
          have V2 := fun p => BelowOf.cell E2 p
          have hne := belowOf_ne wc
          go_upto_region 4 with fail
          refine region_below (by kernel_rfl) (by kernel_rfl) ?_
          repeat (go_big_quiet_step (fail))
          refine wpQuiet_nil (belowOf_all ?_)
          intro w5 hb5
          have HB5 : Hid (Below w.heap.size w w5) := hB.trans (hb5.mono hB.size)
          go_wp2
          refine bodyPost_ret (v := .tuple #[.string x3, .int .i64 x2, .bool true]) (by simp [results, Try.results24, go_sem]) rfl ?_
          unfold RReadText
          rw [HF.out]
          obtain ⟨_, _, q1, q2, q3⟩ := HOK.out
          exact ⟨rfl, by show x3.size ≤ _; simp only at q3; omega, by show IntOk x2; unfold IntOk; simp only at q1 q2; omega, HB5.out⟩
      · have HF : Hid (fReadText (l, r, t) s = (⟨#[]⟩, 0, false)) := read_no (by rw [HEN.out]; exact decide_eq_false c3)
        generalize wIn (l, r, t) s = z at *
        refine region_below (by kernel_rfl) (by kernel_rfl) ?_
        repeat (go_big_quiet_step (first | (go_at_call 18; exact BelowOf.calls (HGD.out _)) | (go_at_call 48; exact BelowOf.calls (HSO.out _)) | (go_at_call 49; exact BelowOf.calls (HWT.out _))))
        refine wpQuiet_nil (belowOf_all ?_)
        intro w3 hb3
        have HB3 : Hid (Below w.heap.size w w3) := HB0.out.trans (hb3.mono HB0.out.size)
        go_wp2
        refine bodyPost_ret (v := .tuple #[.string ⟨#[]⟩, .int .i64 0, .bool false]) (by simp [results, Try.results24, go_sem]) rfl ?_
        unfold RReadText
        rw [HF.out]
        exact ⟨rfl, Nat.zero_le _, zero_ok, HB3.out⟩
set_option maxRecDepth 100000 in
set_option maxHeartbeats 4000000 in
theorem readI_k (l : List DCopy) (a : Option Addr) (n c : Nat) (S : Nat → Prop) (r t : Int) (s : List Int) (a1 : Option Addr) (n1 c1 : Nat) (S1 : Nat → Prop) (w : World) (h : (kRow kCopy).is false w S [.slice a n c] l) (hcap : n ≤ c) (h1 : (kRow kInt).is false w S1 [.slice a1 n1 c1] s) :
    Calls Try.prog 21 #[.agg #[.slice a n c, .int .i64 r, .int .i64 t], .slice a1 n1 c1] w (RReadText (l, r, t) s w) := by
  have HNL : Hid (n = l.length) := row_len h
  have HN1 : Hid (n1 = s.length) := row_len h1
  have H : Hid ((kRow kCopy).is false w S [.slice a n c] l) := h
  have H1 : Hid ((kRow kInt).is false w S1 [.slice a1 n1 c1] s) := h1
  clear h h1
  go_enter Try.func21, Try.ntmps21
  go_wp2_with fail
  obtain ⟨W0, hW0⟩ : ∃ W, W = w.alloc (.cells #[.slice a n c, .int .i64 r, .int .i64 t] 25) := ⟨_, rfl⟩
  have C : W0.cell? ⟨w.heap.size, 0, none⟩ = some (.slice a n c) ∧ W0.cell? ⟨w.heap.size, 1, none⟩ = some (.int .i64 r) ∧ W0.cell? ⟨w.heap.size, 2, none⟩ = some (.int .i64 t) := by rw [hW0]; simp [go_sem]
  have HB0 : Hid (Below w.heap.size w W0) := by show Below _ _ _; rw [hW0]; exact below_a1q _ _
  rw [← hW0]
  clear hW0
  obtain ⟨C0, C1, C2⟩ := C
  refine (areEnough_k l a n c S r t s a1 n1 c1 S1 r W0 (Kd.below H.out HB0.out) hcap (Kd.below H1.out HB0.out)).mono ?_
  rintro e w3 ⟨rfl, hb3⟩
  have D0 : w3.cell? ⟨w.heap.size, 0, none⟩ = some (.slice a n c) := (hb3.cell (World.block_lt_of_cell? _ _ C0)).trans C0
  have HB3 : Hid (Below w.heap.size w w3) := HB0.out.trans (hb3.mono HB0.out.size)
  clear hb3 C0 C1 C2 HB0
  cases he : enoughB (l, r, t) s r with
  | false =>
    have HF : Hid (fReadText (l, r, t) s = (⟨#[]⟩, 0, false)) := read_no he
    go_wp2
    refine bodyPost_ret (v := .tuple #[.string ⟨#[]⟩, .int .i64 0, .bool false]) (by simp [results, Try.results21, go_sem]) rfl ?_
    unfold RReadText
    rw [HF.out]
    exact ⟨rfl, Nat.zero_le _, zero_ok, HB3.out⟩
  | true =>
    have HE1 : Hid (enoughB (l, r, t) s r = true) := he
    have hr1 : 1 ≤ r := by
      have hg : fGoodVoting (l, r, t) = true := by
        cases h : fGoodVoting (l, r, t) with
        | true => rfl
        | false => rw [enough_no1 h] at he; cases he
      have := ((vg_iff _).1 hg).meet
      unfold MeetOk at this
      exact this.1
    obtain ⟨hg, hs, _, hs0⟩ := enough_pos he hr1
    have hok : okTil l n = true := by rw [HNL.out]; exact ((vg_iff _).1 hg).ok
    have hss : someOk s n = true := by rw [HNL.out]; exact hs
    have hn1 : 0 < n1 := by rw [HN1.out]; exact hs0
    have hbn : bst l s n1 < n := bst_lt hss (by rw [← HN1.out]; exact hn1) (by rw [HN1.out]; exact Nat.le_refl _)
    have HF : Hid (fReadText (l, r, t) s = ((cp l (bst l s n1)).2.2, (cp l (bst l s n1)).2.1, true)) := by show _ = _; rw [read_yes HE1.out]; unfold nwc; rw [HN1.out]
    have HOK : Hid (CpOk (cp l (bst l s n1))) := cpAt_ok (okTil_at hok hbn)
    have hcl := newestAmong_k l a n c S s a1 n1 c1 S1 w3 (Kd.below H.out HB3.out) (Kd.below H1.out HB3.out) hss hn1
    clear hg hs hs0 hok hss hbn he hr1
    generalize cp l (bst l s n1) = x at *
    obtain ⟨x1, x2, x3⟩ := x
    simp only at hcl
    go_wp2_with fail
    refine hcl.mono ?_
    rintro e w4 ⟨rfl, hb4⟩
    have HB4 : Hid (Below w.heap.size w w4) := HB3.out.trans (hb4.mono HB3.out.size)
    clear hcl hb4
    go_upto_region 4 with fail
    obtain ⟨W5, hW5⟩ : ∃ W, W = w4.alloc (.cells #[.int .i64 x1, .int .i64 x2, .string x3] 40) := ⟨_, rfl⟩
    have hC := alloc_cp w4 (x1, x2, x3) 40
    have HB5 : Hid (Below w.heap.size w W5) := by show Below _ _ _; rw [hW5]; exact HB4.out.trans ((below_a1q _ _).mono HB4.out.size)
    simp only at hC
    rw [← hW5] at hC ⊢
    clear hW5
    obtain ⟨E0, E1, E2, _, _, _⟩ := hC
    simp only at E0 E1 E2
    have V0 := fun p => BelowOf.cell E0 p
    have V1 := fun p => BelowOf.cell E1 p
    have V2 := fun p => BelowOf.cell E2 p
    have hne := belowOf_ne W5
    refine region_below (by kernel_rfl) (by kernel_rfl) ?_
    repeat (go_big_quiet_step (fail))
    refine wpQuiet_nil (belowOf_all ?_)
    intro w5 hb5
    have HB6 : Hid (Below w.heap.size w w5) := HB5.out.trans (hb5.mono HB5.out.size)
    go_wp2
    refine bodyPost_ret (v := .tuple #[.string x3, .int .i64 x2, .bool true]) (by simp [results, Try.results21, go_sem]) rfl ?_
    unfold RReadText
    rw [HF.out]
    obtain ⟨_, _, q1, q2, q3⟩ := HOK.out
    exact ⟨rfl, by show x3.size ≤ _; simp only at q3; omega, by show IntOk x2; unfold IntOk; simp only at q1 q2; omega, HB6.out⟩
theorem implReadText_k (x0 : DVoting) (C0 : List Value) (S0 : Nat → Prop) (x1 : List Int) (a1 : Option Addr) (n1 c1 : Nat) (S1 : Nat → Prop) (w : World) (h0 : kVoting.is true w S0 C0 x0) (z0 : kVoting.sz x0 ≤ 2 ^ 20) (h1 : (kRow kInt).is true w S1 [.slice a1 n1 c1] x1) (z1 : (kRow kInt).sz x1 ≤ 2 ^ 20) :
    Calls Try.prog 21 #[.agg C0.toArray, .slice a1 n1 c1] w (RReadText x0 x1 w) := by
  obtain ⟨a, n, c, T, rfl, hn, hr, _, _, _⟩ := vot_open h0
  obtain ⟨l, r, s⟩ := x0
  exact readI_k l a n c T r s x1 a1 n1 c1 S1 w ((kRow kCopy).read hr) (row_cap hr) ((kRow kInt).read h1)
theorem specReadText_k (x0 : DVoting) (C0 : List Value) (S0 : Nat → Prop) (x1 : List Int) (a1 : Option Addr) (n1 c1 : Nat) (S1 : Nat → Prop) (w : World) (h0 : kVoting.is true w S0 C0 x0) (z0 : kVoting.sz x0 ≤ 2 ^ 20) (h1 : (kRow kInt).is true w S1 [.slice a1 n1 c1] x1) (z1 : (kRow kInt).sz x1 ≤ 2 ^ 20) :
    Calls Try.prog 24 #[.agg C0.toArray, .slice a1 n1 c1] w (RReadText x0 x1 w) := by
  obtain ⟨a, n, c, T, rfl, hn, hr, _, _, _⟩ := vot_open h0
  obtain ⟨l, r, s⟩ := x0
  exact readSp_k l a n c T r s x1 a1 n1 c1 S1 w ((kRow kCopy).read hr) (row_cap hr) ((kRow kInt).read h1)
end Go.Proofs.Ytbkdkiodkcpbeaa
