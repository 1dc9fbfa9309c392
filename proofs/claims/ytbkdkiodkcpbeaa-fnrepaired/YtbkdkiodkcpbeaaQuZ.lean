/- RepairCopies: both sides. No condition but that rows fit in memory. -/
import Derived.Test.YtbkdkiodkcpbeaaQuY
namespace Go.Proofs.Ytbkdkiodkcpbeaa
open Go.RowKit
set_option linter.unusedVariables false

/-- RepairCopies. -/
def fRepairCopies (v : DVoting) (s : List Int) : DVoting × Int × Bool := if enoughB v s v.2.1 = true then ((held v.1 s (nwc v.1 s).2.1 (nwc v.1 s).2.2, v.2.1, v.2.2), rpc v.1 s (nwc v.1 s) s.length, true) else (noV, 0, false)
/-- What RepairCopies answers. -/
def RRepairCopies (x0 : DVoting) (x1 : List Int) (w : World) (e : Ending) (w' : World) : Prop := ∃ (C0 : List Value) (T0 : Nat → Prop), e = .returned (.tuple #[.agg C0.toArray, .int .i64 (fRepairCopies x0 x1).2.1, .bool (fRepairCopies x0 x1).2.2]) ∧ kVoting.is true w' T0 C0 (fRepairCopies x0 x1).1 ∧ (∀ k, T0 k → w.heap.size ≤ k) ∧ hVoting_cnt (fRepairCopies x0 x1).1 ≤ 2 ^ 26 ∧ IntOk (fRepairCopies x0 x1).2.1 ∧ Below w.heap.size w w'
theorem repair_no {v : DVoting} {s : List Int} (h : enoughB v s v.2.1 = false) : fRepairCopies v s = (noV, 0, false) := by unfold fRepairCopies; rw [if_neg (by simp [h])]
theorem repair_yes {v : DVoting} {s : List Int} (h : enoughB v s v.2.1 = true) : fRepairCopies v s = ((held v.1 s (nwc v.1 s).2.1 (nwc v.1 s).2.2, v.2.1, v.2.2), rpc v.1 s (nwc v.1 s) s.length, true) := by unfold fRepairCopies; rw [if_pos h]
theorem some_len {s : List Int} {n : Nat} (hs : someOk s n = true) : s.length ≤ n := by
  have : ∀ m : Nat, m ≤ s.length → m ≠ 0 → m ≤ nat s (m - 1) + 1 := fun m => by
    induction m with
    | zero => intro _ h; exact absurd rfl h
    | succ m ih =>
      intro hm _
      by_cases h0 : m = 0
      · omega
      · have h1 := ih (by omega) h0
        have h2 := some_lt hs (i := m - 1) m (by omega) (by omega)
        have h3 := (some_nat hs (show m - 1 < s.length by omega)).1
        have h4 := (some_nat hs (show m < s.length by omega)).1
        simp only [Nat.add_sub_cancel]
        omega
  by_cases h0 : s.length = 0
  · omega
  · have h1 := this s.length (Nat.le_refl _) h0
    have h2 := (some_nat hs (show s.length - 1 < s.length by omega)).2
    omega
set_option maxRecDepth 100000 in
set_option maxHeartbeats 8000000 in
theorem repairI_k (l : List DCopy) (a : Option Addr) (n c : Nat) (S : Nat → Prop) (r t : Int) (s : List Int) (a1 : Option Addr) (n1 c1 : Nat) (S1 : Nat → Prop) (w : World) (h : (kRow kCopy).is false w S [.slice a n c] l) (hcap : n ≤ c) (h1 : (kRow kInt).is false w S1 [.slice a1 n1 c1] s) (hi1 : IntOk r) (hi2 : IntOk t) :
    Calls Try.prog 26 #[.agg #[.slice a n c, .int .i64 r, .int .i64 t], .slice a1 n1 c1] w (RRepairCopies (l, r, t) s w) := by
  have HI : Hid (IntOk r ∧ IntOk t) := ⟨hi1, hi2⟩
  clear hi1 hi2
  have HNL : Hid (n = l.length) := row_len h
  have HN1 : Hid (n1 = s.length) := row_len h1
  have H : Hid ((kRow kCopy).is false w S [.slice a n c] l) := h
  have H1 : Hid ((kRow kInt).is false w S1 [.slice a1 n1 c1] s) := h1
  clear h h1
  go_enter Try.func26, Try.ntmps26
  go_wp2_with fail
  obtain ⟨W0, hW0⟩ : ∃ W, W = (w.alloc (.cells #[.slice a n c, .int .i64 r, .int .i64 t] 25)).alloc (.cells #[.slice none 0 0, .int .i64 0, .int .i64 0] 25) := ⟨_, rfl⟩
  have C : Tri W0 w.heap.size (.slice a n c) (.int .i64 r) (.int .i64 t) ∧ Tri W0 (w.heap.size + 1) (.slice none 0 0) (.int .i64 0) (.int .i64 0) := by
    rw [hW0]
    refine ⟨(alloc_tri w _ _ _ _).below (below_a1q _ _), ?_⟩
    have := alloc_tri (w.alloc (.cells #[.slice a n c, .int .i64 r, .int .i64 t] 25)) (.slice none 0 0) (.int .i64 0) (.int .i64 0) 25
    simpa using this
  have HB0 : Hid (Below w.heap.size w W0) := by show Below _ _ _; rw [hW0]; exact below_a2q _ _ _
  rw [← hW0]
  clear hW0
  obtain ⟨CB, CR⟩ := C
  refine (areEnough_k l a n c S r t s a1 n1 c1 S1 r W0 (Kd.below H.out HB0.out) hcap (Kd.below H1.out HB0.out)).mono ?_
  rintro e w3 ⟨rfl, hb3⟩
  have HDB : Hid (Tri w3 w.heap.size (.slice a n c) (.int .i64 r) (.int .i64 t)) := CB.below hb3
  have HDR : Hid (Tri w3 (w.heap.size + 1) (.slice none 0 0) (.int .i64 0) (.int .i64 0)) := CR.below hb3
  have HB3 : Hid (Below w.heap.size w w3) := HB0.out.trans (hb3.mono HB0.out.size)
  clear hb3 CB CR HB0
  obtain ⟨D0, D1, D2, _, _, _⟩ := HDB.out
  cases he : enoughB (l, r, t) s r with
  | false =>
    have HF : Hid (fRepairCopies (l, r, t) s = (noV, 0, false)) := repair_no he
    obtain ⟨R0, R1, R2, F0, F1, F2⟩ := HDR.out
    have HZ := HDR.out.put (.slice none 0 0) (.int .i64 0) (.int .i64 0)
    obtain ⟨Z0, Z1, Z2, _, _, _⟩ := HZ
    have HZB : Hid (Below w.heap.size w (put3 w3 (w.heap.size + 1) (.slice none 0 0) (.int .i64 0) (.int .i64 0))) := below_put3 HB3.out (by omega) _ _ _
    unfold put3 at Z0 Z1 Z2 HZB
    go_wp2
    refine bodyPost_ret (v := .tuple #[.agg #[.slice none 0 0, .int .i64 0, .int .i64 0], .int .i64 0, .bool false]) (by simp [results, Try.results26, go_sem, Z0, Z1, Z2]) rfl ?_
    unfold RRepairCopies
    rw [HF.out]
    exact ⟨_, _, rfl, noV_is _ w.heap.size, fun k h => h, noV_cnt, zero_ok, HZB.out⟩
  | true =>
    have HE1 : Hid (enoughB (l, r, t) s r = true) := he
    have hg : fGoodVoting (l, r, t) = true := by
      cases h : fGoodVoting (l, r, t) with
      | true => rfl
      | false => rw [enough_no1 h] at he; cases he
    have g := (vg_iff _).1 hg
    have hm := g.meet
    unfold MeetOk at hm
    obtain ⟨_, hs, _, hs0⟩ := enough_pos he (show 1 ≤ r by simp only at hm; omega)
    have hok : okTil l n = true := by rw [HNL.out]; exact g.ok
    have h7 : n ≤ 7 := by rw [HNL.out]; exact g.hi
    have hss : someOk s n = true := by rw [HNL.out]; exact hs
    have hn1 : 0 < n1 := by rw [HN1.out]; exact hs0
    have hn17 : n1 ≤ 7 := by have := some_len hss; rw [HN1.out]; omega
    have hbn : bst l s n1 < n := bst_lt hss (by rw [← HN1.out]; exact hn1) (by rw [HN1.out]; exact Nat.le_refl _)
    have hokc := cpAt_ok (okTil_at hok hbn)
    have hcl := newestAmong_k l a n c S s a1 n1 c1 S1 w3 (Kd.below H.out HB3.out) (Kd.below H1.out HB3.out) hss hn1
    have HSS : Hid (someOk s n = true) := hss
    have HGE : Hid (∀ j, j < n1 → (cp l (nat s j)).2.1 ≤ (cp l (bst l s n1)).2.1) := fun j hj => bst_ge hj
    have HF : Hid (fRepairCopies (l, r, t) s = ((hol l s (cp l (bst l s n1)).2.1 (cp l (bst l s n1)).2.2 n1, r, t), rpc l s (cp l (bst l s n1)) n1, true)) := by
      show _ = _
      rw [repair_yes HE1.out]
      show ((hol l s (nwc l s).2.1 (nwc l s).2.2 s.length, r, t), rpc l s (nwc l s) s.length, true) = _
      rw [show nwc l s = cp l (bst l s n1) by show cp l (bst l s s.length) = _; rw [HN1.out], ← HN1.out]
    clear hg hs hs0 hok hbn he hm g hss
    generalize cp l (bst l s n1) = x at *
    obtain ⟨x1, x2, x3⟩ := x
    simp only at hcl HGE
    obtain ⟨_, _, q1, q2, q3⟩ := hokc
    simp only at q1 q2 q3
    go_wp2_with fail
    refine hcl.mono ?_
    rintro e w4 ⟨rfl, hb4⟩
    have HB4 : Hid (Below w.heap.size w w4) := HB3.out.trans (hb4.mono HB3.out.size)
    have HEB : Hid (Tri w4 w.heap.size (.slice a n c) (.int .i64 r) (.int .i64 t)) := HDB.out.below hb4
    have HER : Hid (Tri w4 (w.heap.size + 1) (.slice none 0 0) (.int .i64 0) (.int .i64 0)) := HDR.out.below hb4
    clear hcl hb4 D0 D1 D2
    go_wp2_with fail
    obtain ⟨W5, hW5⟩ : ∃ W, W = w4.alloc (.cells #[.int .i64 x1, .int .i64 x2, .string x3] 40) := ⟨_, rfl⟩
    have HC : Hid (CpAt W5 w4.heap.size (x1, x2, x3)) := by show CpAt _ _ _; rw [hW5]; exact alloc_cp w4 (x1, x2, x3) 40
    have hb45 : Below w4.heap.size w4 W5 := by rw [hW5]; exact below_a1q _ _
    have HB5 : Hid (Below w.heap.size w W5) := HB4.out.trans (hb45.mono HB4.out.size)
    have HT5 : Hid (Tri W5 w.heap.size (.slice a n c) (.int .i64 r) (.int .i64 t)) := HEB.out.below hb45
    have HS5 : Hid (Tri W5 (w.heap.size + 1) (.slice none 0 0) (.int .i64 0) (.int .i64 0)) := HER.out.below hb45
    have hgz : w.heap.size + 1 < w4.heap.size := HER.out.lt
    rw [← hW5]
    clear hW5 hb45
    obtain ⟨gz, hgze⟩ : ∃ gz, gz = w4.heap.size := ⟨_, rfl⟩
    rw [← hgze] at HC hgz ⊢
    clear hgze
    go_loopw [8, 24] (fun v iv wr => ∃ j : Nat, j ≤ n1 ∧ iv = .int .i64 j ∧ v = .int .i64 (rpc l s (x1, x2, x3) j) ∧ Below W5.heap.size W5 wr) (fun _ iv _ => n1 - (intOf iv).toNat)
    case atStart => exact ⟨0, Nat.zero_le _, rfl, rfl, Below.refl _ _⟩
    case round =>
      obtain ⟨j, hj, rfl, rfl, hB⟩ := hrel
      have zw := hB.size
      obtain ⟨D0, D1, D2, _, _, _⟩ := HT5.out.below hB
      have HCr : Hid (CpAt wr gz (x1, x2, x3)) := HC.out.below hB
      have HBr : Hid (Below w.heap.size w wr) := HB5.out.trans (hB.mono HB5.out.size)
      obtain ⟨C0, C1, C2, _, _, _⟩ := HCr.out
      simp only at C0 C1 C2
      obtain ⟨z0, z1⟩ := rpc_bd l s (x1, x2, x3) j
      by_cases hlt : j < n1
      · obtain ⟨b1, o1, rfl, hb1, A0, _⟩ := rowN_at (Kd.below H1.out HBr.out) hlt
        obtain ⟨e1, hkn⟩ := some_nat HSS.out (show j < s.length by rw [← HN1.out]; exact hlt)
        have HW : Hid (rpc l s (x1, x2, x3) (j + 1) = if (cp l (nat s j)).2.1 = x2 then rpc l s (x1, x2, x3) j else rpc l s (x1, x2, x3) j + 1) := rfl
        have hge := HGE.out j hlt
        rw [e1] at A0
        clear e1
        generalize rpc l s (x1, x2, x3) j = z at *
        generalize nat s j = k at *
        obtain ⟨b, o, rfl, hb, _, _, _, _, A1, _⟩ := rowC_at (Kd.below H.out HBr.out) hkn
        generalize (cp l k).2.1 = y at *
        have i0 : (j : Int) < (n1 : Int) := by omega
        have i1 : (0 : Int) ≤ (j : Int) := by omega
        have i2 : (k : Int) < (n : Int) := by omega
        have i3 : (0 : Int) ≤ (k : Int) := by omega
        have z2 : z ≤ 7 := by omega
        have U0 := fun p => BelowOf.cell D0 p
        have U1 := fun p => BelowOf.cell A1 p
        have U2 := fun p => BelowOf.cell C1 p
        have hne := belowOf_ne wr
        clear C0 C1 C2 D0 D1 D2 A1
        go_upto_region 8 with fail
        refine region_below (by kernel_rfl) (by kernel_rfl) ?_
        repeat (go_big_quiet_step (fail))
        refine wpQuiet_nil (belowOf_all ?_)
        intro w6 hb6
        have HB6 : Hid (Below W5.heap.size W5 w6) := hB.trans (hb6.mono zw)
        by_cases c1 : y < x2
        · have HW2 : Hid (rpc l s (x1, x2, x3) (j + 1) = z + 1) := by show _ = _; rw [HW.out, if_neg (by omega)]
          go_wp2
          go_roundw
          case rel => exact ⟨j + 1, by omega, by go_num, by rw [HW2.out], HB6.out⟩
          case measure => simp [intOf]; omega
        · have HW2 : Hid (rpc l s (x1, x2, x3) (j + 1) = z) := by show _ = _; rw [HW.out, if_pos (by omega)]
          go_wp2
          go_roundw
          case rel => exact ⟨j + 1, by omega, by go_num, by rw [HW2.out], HB6.out⟩
          case measure => simp [intOf]; omega
      · obtain rfl : j = n1 := by omega
        have i0 : ¬ (j : Int) < (j : Int) := by omega
        have HRB : Hid (IntOk (rpc l s (x1, x2, x3) j)) := by show IntOk _; unfold IntOk; omega
        have HST : Hid (Tri wr (w.heap.size + 1) (.slice none 0 0) (.int .i64 0) (.int .i64 0)) := HS5.out.below hB
        have hlen : (hol l s x2 x3 j).length ≤ 7 := by rw [hol_len, ← HNL.out]; exact h7
        have HLN : Hid ((hol l s x2 x3 j).length ≤ 7) := hlen
        clear hlen
        go_wp2_with fail
        refine (holding_k l a n c S r t s a1 j c1 S1 x2 x3 wr (Kd.below H.out HBr.out) h7 (Kd.below H1.out HBr.out) HSS.out (by unfold IntOk; omega) q3).mono ?_
        rintro e w7 ⟨a', c', rfl, hr7, hb7⟩
        have HB7 : Hid (Below w.heap.size w w7) := HBr.out.trans (hb7.mono HBr.out.size)
        have HT7 : Hid (Tri w7 (w.heap.size + 1) (.slice none 0 0) (.int .i64 0) (.int .i64 0)) := HST.out.below hb7
        have hzz : w.heap.size + 1 < wr.heap.size := HST.out.lt
        have HR7 : Hid ((kRow kCopy).is true w7 (fun k => wr.heap.size ≤ k) [.slice a' n c'] (hol l s x2 x3 j)) := hr7
        clear hr7 hb7 D0 D1 D2 C0 C1 C2
        obtain ⟨R0, R1, R2, F0, F1, F2⟩ := HT7.out
        have q := HT7.out.put (.slice a' n c') (.int .i64 r) (.int .i64 t)
        have hk := put3_kept w7 (w.heap.size + 1) (.slice a' n c') (.int .i64 r) (.int .i64 t)
        have HBZ : Hid (Below w.heap.size w (put3 w7 (w.heap.size + 1) (.slice a' n c') (.int .i64 r) (.int .i64 t))) := below_put3 HB7.out (by omega) _ _ _
        have HRZ : Hid ((kRow kCopy).is true (put3 w7 (w.heap.size + 1) (.slice a' n c') (.int .i64 r) (.int .i64 t)) (fun k => w.heap.size ≤ k) [.slice a' n c'] (hol l s x2 x3 j)) := Kd.mono (Kd.kept HR7.out hk (fun q _ h e => by omega)) (fun q hq => by omega)
        obtain ⟨Q0, Q1, Q2, _, _, _⟩ := q
        unfold put3 at Q0 Q1 Q2 HBZ HRZ
        clear hk
        generalize rpc l s (x1, x2, x3) j = z at *
        go_wp2
        refine bodyPost_ret (v := .tuple #[.agg #[.slice a' n c', .int .i64 r, .int .i64 t], .int .i64 z, .bool true]) (by simp [results, Try.results26, go_sem, Q0, Q1, Q2]) rfl ?_
        unfold RRepairCopies
        rw [HF.out]
        exact ⟨_, _, rfl, vot_shut (v := (hol l s x2 x3 j, r, t)) HRZ.out HI.out.1 HI.out.2, fun k h => h, vot_cnt HLN.out, HRB.out, HBZ.out⟩
/-- While it is repaired. -/
structure HoC (w wr : World) (a : Option Addr) (n c : Nat) (r t : Int) (L : List DCopy) (B g : Nat) (x : DCopy) : Prop where
  row : (kRow kCopy).is true wr (fun k => w.heap.size + 2 ≤ k ∧ k < B) [.slice a n c] L
  box : Tri wr w.heap.size (.slice a n c) (.int .i64 r) (.int .i64 t)
  res : Tri wr (w.heap.size + 1) (.slice none 0 0) (.int .i64 0) (.int .i64 0)
  cpy : CpAt wr g x
  far : B ≤ g
  bel : Below w.heap.size w wr
  siz : w.heap.size + 2 ≤ wr.heap.size ∧ w.heap.size + 2 ≤ B
theorem HoC.kept {w wr w' : World} {a : Option Addr} {n c : Nat} {r t : Int} {L L' : List DCopy} {B g : Nat} {x : DCopy} (h : HoC w wr a n c r t L B g x) (hk : KeptO (fun k => w.heap.size + 2 ≤ k ∧ k < B) wr w') (hr : (kRow kCopy).is true w' (fun k => w.heap.size + 2 ≤ k ∧ k < B) [.slice a n c] L') : HoC w w' a n c r t L' B g x := by
  obtain ⟨s1, s2⟩ := h.siz
  have hf := h.far
  have hg := h.cpy.lt
  have hz := hk.size
  exact ⟨hr, h.box.keep (hk.block _ (by omega) (by omega)), h.res.keep (hk.block _ (by omega) (by omega)), h.cpy.keep (hk.block _ hg (by omega)), hf, h.bel.trans (hk.below h.bel.size (fun k hk' h' => by omega)), by omega, s2⟩
theorem HoC.below {w wr w' : World} {a : Option Addr} {n c : Nat} {r t : Int} {L : List DCopy} {B g : Nat} {x : DCopy} (h : HoC w wr a n c r t L B g x) (hb : Below wr.heap.size wr w') : HoC w w' a n c r t L B g x := by
  have hz := hb.size
  exact ⟨Kd.below h.row hb, h.box.below hb, h.res.below hb, h.cpy.below hb, h.far, h.bel.trans (hb.mono h.bel.size), by have := h.siz.1; omega, h.siz.2⟩
theorem rep_len (l : List DCopy) (s : List Int) (x : DCopy) : ∀ j : Nat, (rep l s x j).length = l.length
  | 0 => rfl
  | j + 1 => by
    unfold rep
    split
    · exact rep_len l s x j
    · rw [List.length_set, rep_len l s x j]
theorem rep_cp {l : List DCopy} {s : List Int} {x : DCopy} {n : Nat} (hs : someTil s n s.length = true) {k : Nat} (hk : k < l.length) : ∀ {j : Nat}, j ≤ s.length → (cp (rep l s x j) k).1 = (cp l k).1 ∧ (has s j k = false → cp (rep l s x j) k = cp l k)
  | 0, _ => ⟨rfl, fun _ => rfl⟩
  | j + 1, hj => by
    obtain ⟨h1, h2⟩ := rep_cp (x := x) hs hk (j := j) (by omega)
    have hn := has_next hs (show j < s.length by omega) k
    unfold rep
    split
    · refine ⟨h1, fun h => h2 ?_⟩
      rw [hn, Bool.or_eq_false_iff] at h
      exact h.1
    · rw [cp_set (by rw [rep_len]; exact hk)]
      by_cases e : k = nat s j
      · rw [if_pos e]
        refine ⟨by rw [e], fun h => ?_⟩
        rw [hn, decide_eq_true e, Bool.or_true] at h
        cases h
      · rw [if_neg e]
        refine ⟨h1, fun h => h2 ?_⟩
        rw [hn, Bool.or_eq_false_iff] at h
        exact h.1
set_option maxRecDepth 100000 in
set_option maxHeartbeats 8000000 in
theorem repairSp_k (l : List DCopy) (a : Option Addr) (n c : Nat) (S : Nat → Prop) (r t : Int) (s : List Int) (a1 : Option Addr) (n1 c1 : Nat) (S1 : Nat → Prop) (w : World) (h : (kRow kCopy).is false w S [.slice a n c] l) (hcap : n ≤ c) (h1 : (kRow kInt).is false w S1 [.slice a1 n1 c1] s) (hi1 : IntOk r) (hi2 : IntOk t) :
    Calls Try.prog 27 #[.agg #[.slice a n c, .int .i64 r, .int .i64 t], .slice a1 n1 c1] w (RRepairCopies (l, r, t) s w) := by
  have HI : Hid (IntOk r ∧ IntOk t) := ⟨hi1, hi2⟩
  clear hi1 hi2
  have HNL : Hid (n = l.length) := row_len h
  have HN1 : Hid (n1 = s.length) := row_len h1
  have H : Hid ((kRow kCopy).is false w S [.slice a n c] l) := h
  have H1 : Hid ((kRow kInt).is false w S1 [.slice a1 n1 c1] s) := h1
  clear h h1
  go_enter Try.func27, Try.ntmps27
  go_upto_region 1 with fail
  obtain ⟨W0, hW0⟩ : ∃ W, W = (w.alloc (.cells #[.slice a n c, .int .i64 r, .int .i64 t] 25)).alloc (.cells #[.slice none 0 0, .int .i64 0, .int .i64 0] 25) := ⟨_, rfl⟩
  have CT : Hid (Tri W0 w.heap.size (.slice a n c) (.int .i64 r) (.int .i64 t) ∧ Tri W0 (w.heap.size + 1) (.slice none 0 0) (.int .i64 0) (.int .i64 0)) := by
    show _ ∧ _
    rw [hW0]
    refine ⟨(alloc_tri w _ _ _ _).below (below_a1q _ _), ?_⟩
    have := alloc_tri (w.alloc (.cells #[.slice a n c, .int .i64 r, .int .i64 t] 25)) (.slice none 0 0) (.int .i64 0) (.int .i64 0) 25
    simpa using this
  have C : W0.cell? ⟨w.heap.size, 0, none⟩ = some (.slice a n c) ∧ W0.cell? ⟨w.heap.size, 1, none⟩ = some (.int .i64 r) ∧ W0.cell? ⟨w.heap.size, 2, none⟩ = some (.int .i64 t) := ⟨CT.out.1.c0, CT.out.1.c1, CT.out.1.c2⟩
  have HB0 : Hid (Below w.heap.size w W0) := by show Below _ _ _; rw [hW0]; exact below_a2q _ _ _
  rw [← hW0]
  clear hW0
  obtain ⟨C0, C1, C2⟩ := C
  have hg0 : w.heap.size < W0.heap.size := World.block_lt_of_cell? _ _ C0
  have U0 := fun p => BelowOf.cell C0 p
  have U1 := fun p => BelowOf.cell C1 p
  have U2 := fun p => BelowOf.cell C2 p
  have hne := belowOf_ne W0
  have HGD : Hid (∀ p : BelowOf W0, Calls Try.prog 18 #[.agg #[.slice a n c, .int .i64 r, .int .i64 t]] p.v fun e w' => e = .returned (.bool (fGoodVoting (l, r, t))) ∧ Below p.v.heap.size p.v w') := fun p => goodS_k l a n c S r t p.v (Kd.below (Kd.below H.out HB0.out) p.h) hcap
  cases hg : fGoodVoting (l, r, t) with
  | false =>
    rw [hg] at HGD
    have HF : Hid (fRepairCopies (l, r, t) s = (noV, 0, false)) := repair_no (enough_no1 hg)
    clear hg
    refine region_below (by kernel_rfl) (by kernel_rfl) ?_
    repeat (go_big_quiet_step (first | (go_at_call 18; exact BelowOf.calls (HGD.out _))))
    refine wpQuiet_nil (belowOf_all ?_)
    intro w3 hb3
    have HB3 : Hid (Below w.heap.size w w3) := HB0.out.trans (hb3.mono HB0.out.size)
    have HDR : Hid (Tri w3 (w.heap.size + 1) (.slice none 0 0) (.int .i64 0) (.int .i64 0)) := CT.out.2.below hb3
    obtain ⟨R0, R1, R2, F0, F1, F2⟩ := HDR.out
    have HZ := HDR.out.put (.slice none 0 0) (.int .i64 0) (.int .i64 0)
    obtain ⟨Z0, Z1, Z2, _, _, _⟩ := HZ
    have HZB : Hid (Below w.heap.size w (put3 w3 (w.heap.size + 1) (.slice none 0 0) (.int .i64 0) (.int .i64 0))) := below_put3 HB3.out (by omega) _ _ _
    unfold put3 at Z0 Z1 Z2 HZB
    go_wp2
    refine bodyPost_ret (v := .tuple #[.agg #[.slice none 0 0, .int .i64 0, .int .i64 0], .int .i64 0, .bool false]) (by simp [results, Try.results27, go_sem, Z0, Z1, Z2]) rfl ?_
    unfold RRepairCopies
    rw [HF.out]
    exact ⟨_, _, rfl, noV_is _ w.heap.size, fun k h => h, noV_cnt, zero_ok, HZB.out⟩
  | true =>
    have g := (vg_iff _).1 hg
    have hok : okTil l n = true := by rw [HNL.out]; exact g.ok
    have h7 : n ≤ 7 := by rw [HNL.out]; exact g.hi
    have HME : Hid (MeetOk (allW l) r t) := g.meet
    have HK : Hid (okTil l n = true) := hok
    have HVG : Hid (fGoodVoting (l, r, t) = true) := hg
    have HSO : Hid (∀ p : BelowOf W0, Calls Try.prog 48 #[.slice a1 n1 c1, .int .i64 n] p.v fun e w' => e = .returned (.bool (someOk s n)) ∧ Below p.v.heap.size p.v w') := fun p => (some14_k s a1 n1 c1 S1 n p.v (Kd.below (Kd.below H1.out HB0.out) p.h) (by omega)).mono fun e w' h => ⟨h.1, by rw [h.2]; exact Below.refl _ _⟩
    rw [hg] at HGD
    clear g hg hok
    cases hs : someOk s n with
    | false =>
      rw [hs] at HSO
      have HF : Hid (fRepairCopies (l, r, t) s = (noV, 0, false)) := repair_no (enough_no2 (by show someOk s l.length = false; rw [← HNL.out]; exact hs))
      clear hs
      refine region_below (by kernel_rfl) (by kernel_rfl) ?_
      repeat (go_big_quiet_step (first | (go_at_call 18; exact BelowOf.calls (HGD.out _)) | (go_at_call 48; exact BelowOf.calls (HSO.out _))))
      refine wpQuiet_nil (belowOf_all ?_)
      intro w3 hb3
      have HB3 : Hid (Below w.heap.size w w3) := HB0.out.trans (hb3.mono HB0.out.size)
      have HDR : Hid (Tri w3 (w.heap.size + 1) (.slice none 0 0) (.int .i64 0) (.int .i64 0)) := CT.out.2.below hb3
      obtain ⟨R0, R1, R2, F0, F1, F2⟩ := HDR.out
      have HZ := HDR.out.put (.slice none 0 0) (.int .i64 0) (.int .i64 0)
      obtain ⟨Z0, Z1, Z2, _, _, _⟩ := HZ
      have HZB : Hid (Below w.heap.size w (put3 w3 (w.heap.size + 1) (.slice none 0 0) (.int .i64 0) (.int .i64 0))) := below_put3 HB3.out (by omega) _ _ _
      unfold put3 at Z0 Z1 Z2 HZB
      go_wp2
      refine bodyPost_ret (v := .tuple #[.agg #[.slice none 0 0, .int .i64 0, .int .i64 0], .int .i64 0, .bool false]) (by simp [results, Try.results27, go_sem, Z0, Z1, Z2]) rfl ?_
      unfold RRepairCopies
      rw [HF.out]
      exact ⟨_, _, rfl, noV_is _ w.heap.size, fun k h => h, noV_cnt, zero_ok, HZB.out⟩
    | true =>
      rw [hs] at HSO
      have HSS : Hid (someOk s n = true) := hs
      have HWT : Hid (∀ p : BelowOf W0, Calls Try.prog 49 #[.agg #[.slice a n c, .int .i64 r, .int .i64 t], .slice a1 n1 c1] p.v fun e w' => e = .returned (.int .i64 (wIn (l, r, t) s)) ∧ Below p.v.heap.size p.v w') := fun p => by
        rw [show wIn (l, r, t) s = wS l s n1 by show wS l s s.length = _; rw [HN1.out]]
        exact weight14_k l a n c S r t s a1 n1 c1 S1 p.v (Kd.below (Kd.below H.out HB0.out) p.h) (Kd.below (Kd.below H1.out HB0.out) p.h) h7 HK.out HSS.out
      have HEN : Hid (enoughB (l, r, t) s r = decide (r ≤ wIn (l, r, t) s)) := enough_eq HVG.out (by show someOk s l.length = true; rw [← HNL.out]; exact HSS.out)
      clear hs
      by_cases c3 : r ≤ wIn (l, r, t) s
      · have HE1 : Hid (enoughB (l, r, t) s r = true) := by show _ = _; rw [HEN.out]; exact decide_eq_true c3
        have hn1 : 0 < n1 := by rw [HN1.out]; exact (enough_pos HE1.out (by have := HME.out; unfold MeetOk at this; omega)).2.2.2
        generalize wIn (l, r, t) s = z at *
        have kd : decide (z < r) = false := decide_eq_false (by omega)
        refine region_below (by kernel_rfl) (by kernel_rfl) ?_
        repeat (go_big_quiet_step (first | (go_at_call 18; exact BelowOf.calls (HGD.out _)) | (go_at_call 48; exact BelowOf.calls (HSO.out _)) | (go_at_call 49; exact BelowOf.calls (HWT.out _))))
        refine wpQuiet_nil (belowOf_all ?_)
        intro w3 hb3
        have HB3 : Hid (Below w.heap.size w w3) := HB0.out.trans (hb3.mono HB0.out.size)
        have HF : Hid (fRepairCopies (l, r, t) s = ((rep l s (cp l (bst l s n1)) n1, r, t), rpc l s (cp l (bst l s n1)) n1, true)) := by
          show _ = _
          rw [repair_yes HE1.out]
          show ((hol l s (nwc l s).2.1 (nwc l s).2.2 s.length, r, t), rpc l s (nwc l s) s.length, true) = _
          rw [show nwc l s = cp l (bst l s n1) by show cp l (bst l s s.length) = _; rw [HN1.out], ← HN1.out, rep_hol HNL.out HK.out HSS.out (bst_lt HSS.out (by rw [← HN1.out]; exact hn1) (by rw [HN1.out]; exact Nat.le_refl _)) (by rw [HN1.out]; exact Nat.le_refl _)]
        have hbn : bst l s n1 < n := bst_lt HSS.out (by rw [← HN1.out]; exact hn1) (by rw [HN1.out]; exact Nat.le_refl _)
        have hn17 : n1 ≤ 7 := by have := some_len HSS.out; rw [HN1.out]; omega
        have HOK : Hid (CpOk (cp l (bst l s n1))) := cpAt_ok (okTil_at HK.out hbn)
        have D0 : w3.cell? ⟨w.heap.size, 0, none⟩ = some (.slice a n c) := U0 ⟨w3, hb3⟩
        have D1 : w3.cell? ⟨w.heap.size, 1, none⟩ = some (.int .i64 r) := U1 ⟨w3, hb3⟩
        have D2 : w3.cell? ⟨w.heap.size, 2, none⟩ = some (.int .i64 t) := U2 ⟨w3, hb3⟩
        have CT3 : Hid (Tri w3 w.heap.size (.slice a n c) (.int .i64 r) (.int .i64 t) ∧ Tri w3 (w.heap.size + 1) (.slice none 0 0) (.int .i64 0) (.int .i64 0)) := ⟨CT.out.1.below hb3, CT.out.2.below hb3⟩
        clear U0 U1 U2 hne C0 C1 C2 HGD HSO HWT hb3
        go_wp2_with fail
        refine (own14_k l a n c S r t w3 (Kd.below H.out HB3.out) h7).mono ?_
        rintro e w5 ⟨a', c', rfl, hr5, hb5⟩
        have HB5 : Hid (Below w.heap.size w w5) := HB3.out.trans (hb5.mono HB3.out.size)
        have CT5 : Hid (Tri w5 w.heap.size (.slice a n c) (.int .i64 r) (.int .i64 t) ∧ Tri w5 (w.heap.size + 1) (.slice none 0 0) (.int .i64 0) (.int .i64 0)) := ⟨CT3.out.1.below hb5, CT3.out.2.below hb5⟩
        have hz3 : w.heap.size + 2 ≤ w3.heap.size := by have := CT3.out.2.lt; omega
        have HR5 : Hid ((kRow kCopy).is true w5 (fun k => w.heap.size + 2 ≤ k) [.slice a' n c'] l) := Kd.mono hr5 (fun q h => by have h' : w3.heap.size ≤ q := h; omega)
        clear hr5 hb5 D0 D1 D2 CT3
        obtain ⟨D0, D1, D2, E0, E1, E2⟩ := CT5.out.1
        have HP := CT5.out.1.put (.slice a' n c') (.int .i64 r) (.int .i64 t)
        have hk := put3_kept w5 w.heap.size (.slice a' n c') (.int .i64 r) (.int .i64 t)
        have HT2 : Hid (Tri (put3 w5 w.heap.size (.slice a' n c') (.int .i64 r) (.int .i64 t)) (w.heap.size + 1) (.slice none 0 0) (.int .i64 0) (.int .i64 0)) := CT5.out.2.keep (put3_block _ _ _ _ _ (by omega))
        have HT1 : Hid (Tri (put3 w5 w.heap.size (.slice a' n c') (.int .i64 r) (.int .i64 t)) w.heap.size (.slice a' n c') (.int .i64 r) (.int .i64 t)) := HP
        have HB6 : Hid (Below w.heap.size w (put3 w5 w.heap.size (.slice a' n c') (.int .i64 r) (.int .i64 t))) := below_put3 HB5.out (Nat.le_refl _) _ _ _
        have HR6 : Hid ((kRow kCopy).is true (put3 w5 w.heap.size (.slice a' n c') (.int .i64 r) (.int .i64 t)) (fun k => w.heap.size + 2 ≤ k ∧ k < (put3 w5 w.heap.size (.slice a' n c') (.int .i64 r) (.int .i64 t)).heap.size) [.slice a' n c'] l) := Kd.tight (kRow kCopy) (Kd.kept HR5.out hk (fun q _ h e => by omega)) (fun q hq h => ⟨h, hq⟩)
        clear HP hk
        go_upto_region 4 with fail
        rw [show ((w5.setCell ⟨w.heap.size, 0, none⟩ (.slice a' n c')).setCell ⟨w.heap.size, 1, none⟩ (.int .i64 r)).setCell ⟨w.heap.size, 2, none⟩ (.int .i64 t) = put3 w5 w.heap.size (.slice a' n c') (.int .i64 r) (.int .i64 t) from rfl]
        generalize put3 w5 w.heap.size (.slice a' n c') (.int .i64 r) (.int .i64 t) = w6 at *
        clear D0 D1 D2 E0 E1 E2 HR5 CT5 HB5 hz3
        have HBT : Hid (∀ W, Below w6.heap.size w6 W → Calls Try.prog 50 #[.agg #[.slice a' n c', .int .i64 r, .int .i64 t], .slice a1 n1 c1] W fun e w' => e = .returned (.int .i64 (bst l s n1)) ∧ Below W.heap.size W w') := fun W hb => best14_k l a' n c' _ r t s a1 n1 c1 S1 W (Kd.below ((kRow kCopy).read HR6.out) hb) (Kd.below (Kd.below H1.out HB6.out) hb) HSS.out hn1
        obtain ⟨b, o, rfl, hb, _, _, _, A0, A1, A2⟩ := rowC_at ((kRow kCopy).read HR6.out) hbn
        have HXE : Hid (cp l (bst l s n1) = cp l (bst l s n1)) := rfl
        generalize bst l s n1 = k at *
        obtain ⟨x, hx⟩ : ∃ x, x = cp l k := ⟨_, rfl⟩
        rw [← hx] at HOK A0 A1 A2 HF
        clear hx HXE
        obtain ⟨x1, x2, x3⟩ := x
        simp only at A0 A1 A2
        obtain ⟨D0, D1, D2, _, _, _⟩ := HT1.out
        have hg6 : w.heap.size < w6.heap.size := HT1.out.lt
        have i2 : (k : Int) < (n : Int) := by omega
        have i3 : (0 : Int) ≤ (k : Int) := by omega
        have HBa : Hid (Below w6.heap.size w6 (w6.alloc (.cells #[.int .i64 0, .int .i64 0, .string ⟨#[]⟩] 40))) := below_a1q _ _
        have HZa : Hid (CpAt (w6.alloc (.cells #[.int .i64 0, .int .i64 0, .string ⟨#[]⟩] 40)) w6.heap.size (0, 0, ⟨#[]⟩)) := alloc_cp w6 (0, 0, ⟨#[]⟩) 40
        go_cut [7] (fun p wx => ∃ g, p = .pointer (some ⟨g, 0, none⟩) ∧ Hid (w6.heap.size ≤ g ∧ CpAt wx g (x1, x2, x3) ∧ Below w6.heap.size w6 wx))
        case first =>
          go_region_with (first | (go_at_call 50; go_fit (HBT.out w6.drew (Below.refl _ _).drew); rintro e w4 ⟨rfl, hb4⟩; have BX : Below w6.heap.size w6 w4 := (Below.drew (Below.refl w6.heap.size w6)).trans hb4; have HBX : Hid (Below w6.heap.size w6 w4) := BX; have hz4 := BX.size; have X0 := (BX.cell (World.block_lt_of_cell? _ _ D0)).trans D0; have Y0 := (BX.cell (World.block_lt_of_cell? _ _ A0)).trans A0; have Y1 := (BX.cell (World.block_lt_of_cell? _ _ A1)).trans A1; have Y2 := (BX.cell (World.block_lt_of_cell? _ _ A2)).trans A2; have z8 : b < w4.heap.size := World.block_lt_of_cell? _ _ Y0; have z9 : w.heap.size < w4.heap.size := World.block_lt_of_cell? _ _ X0; clear hb4 BX) | (go_at_call 50; go_fit (HBT.out (w6.alloc (.cells #[.int .i64 0, .int .i64 0, .string ⟨#[]⟩] 40)).drew HBa.out.drew); rintro e w4 ⟨rfl, hb4⟩; have BX : Below w6.heap.size w6 w4 := HBa.out.drew.trans (hb4.mono (by simp)); have HCZ : Hid (CpAt w4 w6.heap.size (0, 0, ⟨#[]⟩)) := HZa.out.keep (hb4.block w6.heap.size (by simp)); have Z0 := HCZ.out.c0; have Z1 := HCZ.out.c1; have Z2 := HCZ.out.c2; have ZF0 := HCZ.out.f0; have ZF1 := HCZ.out.f1; have ZF2 := HCZ.out.f2; have HBX : Hid (Below w6.heap.size w6 w4) := BX; have hz4 := BX.size; have X0 := (BX.cell (World.block_lt_of_cell? _ _ D0)).trans D0; have Y0 := (BX.cell (World.block_lt_of_cell? _ _ A0)).trans A0; have Y1 := (BX.cell (World.block_lt_of_cell? _ _ A1)).trans A1; have Y2 := (BX.cell (World.block_lt_of_cell? _ _ A2)).trans A2; have z8 : b < w4.heap.size := World.block_lt_of_cell? _ _ Y0; have z9 : w.heap.size < w4.heap.size := World.block_lt_of_cell? _ _ X0; clear hb4 BX))
          all_goals
            go_wp2_with fail
            go_meet
            case rel => first | exact ⟨_, rfl, by omega, alloc_cp w4 (x1, x2, x3) 40, HBX.out.trans ((below_a1q _ _).mono hz4)⟩ | exact ⟨_, rfl, Nat.le_refl _, HCZ.out.put (x1, x2, x3), below_put HBX.out (Nat.le_refl _) (x1, x2, x3)⟩
        case rest =>
          obtain ⟨g, rfl, HC⟩ := hcut
          obtain ⟨hgg, hCC, hBC⟩ := HC.out
          have HH0 : Hid (HoC w wc (some ⟨b, o, none⟩) n c' r t l w6.heap.size g (x1, x2, x3)) := ⟨Kd.below HR6.out hBC, HT1.out.below hBC, HT2.out.below hBC, hCC, hgg, HB6.out.trans (hBC.mono HB6.out.size), by have h1 := HT2.out.lt; have h2 := hBC.size; omega, by have h1 := HT2.out.lt; omega⟩
          obtain ⟨B, hBe⟩ : ∃ B, B = w6.heap.size := ⟨_, rfl⟩
          rw [← hBe] at HH0
          clear hBe HC hgg hCC hBC HBT A0 A1 A2 D0 D1 D2 HBa HZa HR6 HT1 HT2 HB6 hb i2 i3 hg6
          obtain ⟨_, _, v1, v2, v3⟩ := HOK.out
          simp only at v1 v2 v3
          have HTX : Hid (x3.size ≤ maxLen) := by show x3.size ≤ maxLen; unfold maxLen; omega
          have HY : Hid (IntOk x2) := by show IntOk _; unfold IntOk; omega
          go_wp2_with fail
          go_loopw [8, 42] (fun v iv wr => ∃ j : Nat, j ≤ n1 ∧ iv = .int .i64 j ∧ v = .int .i64 (rpc l s (x1, x2, x3) j) ∧ Hid (HoC w wr (some ⟨b, o, none⟩) n c' r t (rep l s (x1, x2, x3) j) B g (x1, x2, x3))) (fun _ iv _ => n1 - (intOf iv).toNat)
          case atStart => exact ⟨0, Nat.zero_le _, rfl, rfl, HH0⟩
          case round =>
            obtain ⟨j, hj, rfl, rfl, HA⟩ := hrel
            obtain ⟨z0, z1⟩ := rpc_bd l s (x1, x2, x3) j
            by_cases hlt : j < n1
            · obtain ⟨b1, o1, rfl, hb1, A0, _⟩ := rowN_at (Kd.below H1.out HA.out.bel) hlt
              obtain ⟨e1, hkn⟩ := some_nat HSS.out (show j < s.length by rw [← HN1.out]; exact hlt)
              have HW : Hid (rpc l s (x1, x2, x3) (j + 1) = if (cp l (nat s j)).2.1 = x2 then rpc l s (x1, x2, x3) j else rpc l s (x1, x2, x3) j + 1) := rfl
              have HWR : Hid (rep l s (x1, x2, x3) (j + 1) = if (cp l (nat s j)).2.1 = x2 then rep l s (x1, x2, x3) j else (rep l s (x1, x2, x3) j).set (nat s j) ((cp l (nat s j)).1, x2, x3)) := rfl
              obtain ⟨g1, g2⟩ := rep_cp (x := (x1, x2, x3)) HSS.out (show nat s j < l.length by rw [← HNL.out]; exact hkn) (j := j) (by rw [← HN1.out]; omega)
              have HWC : Hid (cp (rep l s (x1, x2, x3) j) (nat s j) = cp l (nat s j)) := g2 (has_not HSS.out (by rw [← HN1.out]; exact hlt))
              rw [e1] at A0
              clear e1 g1 g2
              generalize rpc l s (x1, x2, x3) j = z at *
              generalize nat s j = m at *
              generalize rep l s (x1, x2, x3) j = L at *
              obtain ⟨b', o', hbe, hb', _, _, _, B0, B1, B2⟩ := rowC_at ((kRow kCopy).read HA.out.row) hkn
              injection hbe with hbe; injection hbe with eb eo; subst eb eo
              rw [HWC.out] at B0 B1 B2
              obtain ⟨b'', o'', hbe, hbl, hbS, _, _, q1, q2, u1, u2, p1, p2, hrow, hkp⟩ := rowC_put HA.out.row hkn x2 x3 HY.out HTX.out
              injection hbe with hbe; injection hbe with eb eo; subst eb eo
              rw [HWC.out] at hrow
              generalize cp l m = y at *
              obtain ⟨y1, y2, y3⟩ := y
              simp only at B0 B1 B2 hrow HW HWR
              obtain ⟨E0, E1, E2, _, _, _⟩ := HA.out.box
              obtain ⟨C0, C1, C2, _, _, _⟩ := HA.out.cpy
              simp only at C0 C1 C2
              have hgfar := HA.out.far
              have hbS' : w.heap.size + 2 ≤ b ∧ b < B := hbS
              obtain ⟨hb1', hb2'⟩ := hbS'
              have hbg : b ≠ g := by omega
              have hbg' : g ≠ b := by omega
              have i0 : (j : Int) < (n1 : Int) := by omega
              have i1 : (0 : Int) ≤ (j : Int) := by omega
              have i4 : (m : Int) < (n : Int) := by omega
              have i5 : (0 : Int) ≤ (m : Int) := by omega
              have z2 : z ≤ 7 := by omega
              have U0 := fun p => BelowOf.cell E0 p
              have U1 := fun p => BelowOf.cell B1 p
              have U2 := fun p => BelowOf.cell C1 p
              have hne := belowOf_ne wr
              go_upto_region 9 with fail
              by_cases c1 : y2 = x2
              · subst c1
                have HW2 : Hid (rpc l s (x1, y2, x3) (j + 1) = z) := by show _ = _; rw [HW.out, if_pos rfl]
                have HR2 : Hid (rep l s (x1, y2, x3) (j + 1) = L) := by show _ = _; rw [HWR.out, if_pos rfl]
                clear hrow hkp HW HWR B0 B2 E0 E1 E2 C0 C1 C2 p1 p2 q1 q2 B1
                refine region_below (by kernel_rfl) (by kernel_rfl) ?_
                repeat (go_big_quiet_step (fail))
                refine wpQuiet_nil (belowOf_all ?_)
                intro w7 hb7
                have HN : Hid (HoC w w7 (some ⟨b, o, none⟩) n c' r t (rep l s (x1, y2, x3) (j + 1)) B g (x1, y2, x3)) := by show HoC _ _ _ _ _ _ _ _ _ _ _; rw [HR2.out]; exact HA.out.below hb7
                go_wp2
                go_roundw
                case rel => exact ⟨j + 1, by omega, by go_num, by rw [HW2.out], HN⟩
                case measure => simp [intOf]; omega
              · have c2 : (y2 == x2) = false := by simpa using c1
                have HW2 : Hid (rpc l s (x1, x2, x3) (j + 1) = z + 1) := by show _ = _; rw [HW.out, if_neg c1]
                have HR2 : Hid (rep l s (x1, x2, x3) (j + 1) = L.set m (y1, x2, x3)) := by show _ = _; rw [HWR.out, if_neg c1]
                clear hrow hkp HW HWR B0 B2 E0 E1 E2 C0 C1 C2 p1 p2 q1 q2 B1
                refine region_below (by kernel_rfl) (by kernel_rfl) ?_
                repeat (go_big_quiet_step (fail))
                refine wpQuiet_nil (belowOf_all ?_)
                intro w7 hb7
                have HN7 : Hid (HoC w w7 (some ⟨b, o, none⟩) n c' r t L B g (x1, x2, x3)) := HA.out.below hb7
                obtain ⟨b'', o'', hbe, hbl, hbS, _, _, q1, q2, u1, u2, p1, p2, hrow, hkp⟩ := rowC_put HN7.out.row hkn x2 x3 HY.out HTX.out
                injection hbe with hbe; injection hbe with eb eo; subst eb eo
                rw [HWC.out] at hrow
                simp only at hrow
                have HN : Hid (HoC w ((w7.setCell ⟨b, o + m * 3 + 1, none⟩ (.int .i64 x2)).setCell ⟨b, o + m * 3 + 2, none⟩ (.string x3)) (some ⟨b, o, none⟩) n c' r t (rep l s (x1, x2, x3) (j + 1)) B g (x1, x2, x3)) := by show HoC _ _ _ _ _ _ _ _ _ _ _; rw [HR2.out]; exact HN7.out.kept hkp hrow
                obtain ⟨E0, E1, E2, _, _, _⟩ := HN7.out.box
                obtain ⟨C0, C1, C2, _, _, _⟩ := HN7.out.cpy
                simp only at C0 C1 C2
                clear hrow hkp U0 U1 U2 hne
                go_wp2
                go_roundw
                case rel => exact ⟨j + 1, by omega, by go_num, by rw [HW2.out], HN⟩
                case measure => simp [intOf]; omega
            · obtain rfl : j = n1 := by omega
              have i0 : ¬ (j : Int) < (j : Int) := by omega
              have HRB : Hid (IntOk (rpc l s (x1, x2, x3) j)) := by show IntOk _; unfold IntOk; omega
              have hlen : (rep l s (x1, x2, x3) j).length ≤ 7 := by rw [rep_len, ← HNL.out]; exact h7
              have HLN : Hid ((rep l s (x1, x2, x3) j).length ≤ 7) := hlen
              obtain ⟨hrow, hbox, hres, _, _, hbel, _⟩ := HA.out
              have HRW : Hid ((kRow kCopy).is true wr (fun k => w.heap.size + 2 ≤ k ∧ k < B) [.slice (some ⟨b, o, none⟩) n c'] (rep l s (x1, x2, x3) j)) := hrow
              have HBL : Hid (Below w.heap.size w wr) := hbel
              have HRS : Hid (Tri wr (w.heap.size + 1) (.slice none 0 0) (.int .i64 0) (.int .i64 0)) := hres
              obtain ⟨E0, E1, E2, _, _, _⟩ := hbox
              obtain ⟨R0, R1, R2, F0, F1, F2⟩ := hres
              have q := HRS.out.put (.slice (some ⟨b, o, none⟩) n c') (.int .i64 r) (.int .i64 t)
              have hk := put3_kept wr (w.heap.size + 1) (.slice (some ⟨b, o, none⟩) n c') (.int .i64 r) (.int .i64 t)
              have HBZ : Hid (Below w.heap.size w (put3 wr (w.heap.size + 1) (.slice (some ⟨b, o, none⟩) n c') (.int .i64 r) (.int .i64 t))) := below_put3 HBL.out (by omega) _ _ _
              have HRZ : Hid ((kRow kCopy).is true (put3 wr (w.heap.size + 1) (.slice (some ⟨b, o, none⟩) n c') (.int .i64 r) (.int .i64 t)) (fun k => w.heap.size ≤ k) [.slice (some ⟨b, o, none⟩) n c'] (rep l s (x1, x2, x3) j)) := Kd.mono (Kd.kept HRW.out hk (fun q _ h e => by omega)) (fun q hq => by omega)
              obtain ⟨Q0, Q1, Q2, _, _, _⟩ := q
              unfold put3 at Q0 Q1 Q2 HBZ HRZ
              clear hk hrow hbel hlen
              generalize rpc l s (x1, x2, x3) j = z at *
              go_wp2
              refine bodyPost_ret (v := .tuple #[.agg #[.slice (some ⟨b, o, none⟩) n c', .int .i64 r, .int .i64 t], .int .i64 z, .bool true]) (by simp [results, Try.results27, go_sem, Q0, Q1, Q2]) rfl ?_
              unfold RRepairCopies
              rw [HF.out]
              exact ⟨_, _, rfl, vot_shut (v := (rep l s (x1, x2, x3) j, r, t)) HRZ.out HI.out.1 HI.out.2, fun k h => h, vot_cnt HLN.out, HRB.out, HBZ.out⟩
      · have HF : Hid (fRepairCopies (l, r, t) s = (noV, 0, false)) := repair_no (by rw [HEN.out]; exact decide_eq_false c3)
        generalize wIn (l, r, t) s = z at *
        have kd : decide (z < r) = true := decide_eq_true (by omega)
        refine region_below (by kernel_rfl) (by kernel_rfl) ?_
        repeat (go_big_quiet_step (first | (go_at_call 18; exact BelowOf.calls (HGD.out _)) | (go_at_call 48; exact BelowOf.calls (HSO.out _)) | (go_at_call 49; exact BelowOf.calls (HWT.out _))))
        refine wpQuiet_nil (belowOf_all ?_)
        intro w3 hb3
        have HB3 : Hid (Below w.heap.size w w3) := HB0.out.trans (hb3.mono HB0.out.size)
        have HDR : Hid (Tri w3 (w.heap.size + 1) (.slice none 0 0) (.int .i64 0) (.int .i64 0)) := CT.out.2.below hb3
        obtain ⟨R0, R1, R2, F0, F1, F2⟩ := HDR.out
        have HZ := HDR.out.put (.slice none 0 0) (.int .i64 0) (.int .i64 0)
        obtain ⟨Z0, Z1, Z2, _, _, _⟩ := HZ
        have HZB : Hid (Below w.heap.size w (put3 w3 (w.heap.size + 1) (.slice none 0 0) (.int .i64 0) (.int .i64 0))) := below_put3 HB3.out (by omega) _ _ _
        unfold put3 at Z0 Z1 Z2 HZB
        go_wp2
        refine bodyPost_ret (v := .tuple #[.agg #[.slice none 0 0, .int .i64 0, .int .i64 0], .int .i64 0, .bool false]) (by simp [results, Try.results27, go_sem, Z0, Z1, Z2]) rfl ?_
        unfold RRepairCopies
        rw [HF.out]
        exact ⟨_, _, rfl, noV_is _ w.heap.size, fun k h => h, noV_cnt, zero_ok, HZB.out⟩
theorem implRepairCopies_k (x0 : DVoting) (C0 : List Value) (S0 : Nat → Prop) (x1 : List Int) (a1 : Option Addr) (n1 c1 : Nat) (S1 : Nat → Prop) (w : World) (h0 : kVoting.is true w S0 C0 x0) (z0 : kVoting.sz x0 ≤ 2 ^ 20) (h1 : (kRow kInt).is true w S1 [.slice a1 n1 c1] x1) (z1 : (kRow kInt).sz x1 ≤ 2 ^ 20) :
    Calls Try.prog 26 #[.agg C0.toArray, .slice a1 n1 c1] w (RRepairCopies x0 x1 w) := by
  obtain ⟨a, n, c, T, rfl, hn, hr, _, i1, i2⟩ := vot_open h0
  obtain ⟨l, r, s⟩ := x0
  exact repairI_k l a n c T r s x1 a1 n1 c1 S1 w ((kRow kCopy).read hr) (row_cap hr) ((kRow kInt).read h1) i1 i2
theorem specRepairCopies_k (x0 : DVoting) (C0 : List Value) (S0 : Nat → Prop) (x1 : List Int) (a1 : Option Addr) (n1 c1 : Nat) (S1 : Nat → Prop) (w : World) (h0 : kVoting.is true w S0 C0 x0) (z0 : kVoting.sz x0 ≤ 2 ^ 20) (h1 : (kRow kInt).is true w S1 [.slice a1 n1 c1] x1) (z1 : (kRow kInt).sz x1 ≤ 2 ^ 20) :
    Calls Try.prog 27 #[.agg C0.toArray, .slice a1 n1 c1] w (RRepairCopies x0 x1 w) := by
  obtain ⟨a, n, c, T, rfl, hn, hr, _, i1, i2⟩ := vot_open h0
  obtain ⟨l, r, s⟩ := x0
  exact repairSp_k l a n c T r s x1 a1 n1 c1 S1 w ((kRow kCopy).read hr) (row_cap hr) ((kRow kInt).read h1) i1 i2
end Go.Proofs.Ytbkdkiodkcpbeaa
