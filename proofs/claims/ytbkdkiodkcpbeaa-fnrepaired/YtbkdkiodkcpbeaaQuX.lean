/- WriteText: the program's. No condition but that rows fit in memory. -/
import Derived.Test.YtbkdkiodkcpbeaaQuC
namespace Go.Proofs.Ytbkdkiodkcpbeaa
open Go.RowKit
set_option linter.unusedVariables false

def noV : DVoting := ([], 0, 0)
/-- WriteText. -/
def fWriteText (v : DVoting) (s : List Int) (t : ByteArray) : DVoting × Bool := if enoughB v s v.2.2 = true ∧ t.size ≤ 12 ∧ (nwc v.1 s).2.1 + 1 ≤ 1000000 then ((held v.1 s ((nwc v.1 s).2.1 + 1) t, v.2.1, v.2.2), true) else (noV, false)
/-- What WriteText answers. -/
def RWriteText (x0 : DVoting) (x1 : List Int) (x2 : ByteArray) (w : World) (e : Ending) (w' : World) : Prop := ∃ (C0 : List Value) (T0 : Nat → Prop), e = .returned (.tuple #[.agg C0.toArray, .bool (fWriteText x0 x1 x2).2]) ∧ kVoting.is true w' T0 C0 (fWriteText x0 x1 x2).1 ∧ (∀ k, T0 k → w.heap.size ≤ k) ∧ hVoting_cnt (fWriteText x0 x1 x2).1 ≤ 2 ^ 26 ∧ Below w.heap.size w w'
theorem write_no {v : DVoting} {s : List Int} {t : ByteArray} (h : ¬ (enoughB v s v.2.2 = true ∧ t.size ≤ 12 ∧ (nwc v.1 s).2.1 + 1 ≤ 1000000)) : fWriteText v s t = (noV, false) := if_neg h
theorem write_yes {v : DVoting} {s : List Int} {t : ByteArray} (h : enoughB v s v.2.2 = true ∧ t.size ≤ 12 ∧ (nwc v.1 s).2.1 + 1 ≤ 1000000) : fWriteText v s t = ((held v.1 s ((nwc v.1 s).2.1 + 1) t, v.2.1, v.2.2), true) := if_pos h
theorem noV_is (w : World) (B : Nat) : kVoting.is true w (fun k => B ≤ k) [.slice none 0 0, .int .i64 0, .int .i64 0] noV := vot_shut (v := noV) (row_nil _ _ _ _ _ _) zero_ok zero_ok
theorem noV_cnt : hVoting_cnt noV ≤ 2 ^ 26 := by decide
theorem cp_cnt : ∀ l : List DCopy, sums kCopy.cnt l = l.length * 3
  | [] => rfl
  | x :: t => by
    show kCopy.cnt x + sums kCopy.cnt t = _
    rw [cp_cnt t, show kCopy.cnt x = 3 from rfl, List.length_cons]
    omega
theorem vot_cnt {v : DVoting} (h : v.1.length ≤ 7) : hVoting_cnt v ≤ 2 ^ 26 := by
  obtain ⟨l, r, s⟩ := v
  show sums kCopy.cnt l + (0 + 0) ≤ _
  rw [cp_cnt]
  simp only at h
  omega
set_option maxRecDepth 100000 in
set_option maxHeartbeats 4000000 in
theorem implWriteText_k (x0 : DVoting) (C0 : List Value) (S0 : Nat → Prop) (x1 : List Int) (a1 : Option Addr) (n1 c1 : Nat) (S1 : Nat → Prop) (x2 : ByteArray) (w : World) (h0 : kVoting.is true w S0 C0 x0) (z0 : kVoting.sz x0 ≤ 2 ^ 20) (h1 : (kRow kInt).is true w S1 [.slice a1 n1 c1] x1) (z1 : (kRow kInt).sz x1 ≤ 2 ^ 20) (h2 : x2.size ≤ 2 ^ 20) :
    Calls Try.prog 14 #[.agg C0.toArray, .slice a1 n1 c1, .string x2] w (RWriteText x0 x1 x2 w) := by
  obtain ⟨a, n, c, T, rfl, hn, hr, _, hi1, hi2⟩ := vot_open h0
  obtain ⟨l, r, t⟩ := x0
  have HI : Hid (IntOk r ∧ IntOk t) := ⟨hi1, hi2⟩
  have HNL : Hid (n = l.length) := hn
  have HN1 : Hid (n1 = x1.length) := row_len h1
  have H : Hid ((kRow kCopy).is false w T [.slice a n c] l) := (kRow kCopy).read hr
  have H1 : Hid ((kRow kInt).is false w S1 [.slice a1 n1 c1] x1) := (kRow kInt).read h1
  have hcap := row_cap hr
  clear h0 h1 hr hn z0 z1 hi1 hi2
  simp only
  show Calls Try.prog 14 #[.agg #[.slice a n c, .int .i64 r, .int .i64 t], .slice a1 n1 c1, .string x2] w (RWriteText (l, r, t) x1 x2 w)
  go_enter Try.func14, Try.ntmps14
  go_wp2_with fail
  obtain ⟨W0, hW0⟩ : ∃ W, W = (w.alloc (.cells #[.slice a n c, .int .i64 r, .int .i64 t] 25)).alloc (.cells #[.slice none 0 0, .int .i64 0, .int .i64 0] 25) := ⟨_, rfl⟩
  have C : Tri W0 w.heap.size (.slice a n c) (.int .i64 r) (.int .i64 t) ∧ Tri W0 (w.heap.size + 1) (.slice none 0 0) (.int .i64 0) (.int .i64 0) := by
    rw [hW0]
    refine ⟨(alloc_tri w _ _ _ _).below (below_a1q _ _), ?_⟩
    have := alloc_tri (w.alloc (.cells #[.slice a n c, .int .i64 r, .int .i64 t] 25)) (.slice none 0 0) (.int .i64 0) (.int .i64 0) 25
    simpa using this
  have HB0 : Hid (Below w.heap.size w W0) := by show Below _ _ _; rw [hW0]; exact below_a2q _ _ _
  rw [← hW0]
  clear hW0
  obtain ⟨CB, CR⟩ := C
  refine (areEnough_k l a n c T r t x1 a1 n1 c1 S1 t W0 (Kd.below H.out HB0.out) hcap (Kd.below H1.out HB0.out)).mono ?_
  rintro e w3 ⟨rfl, hb3⟩
  have HDB : Hid (Tri w3 w.heap.size (.slice a n c) (.int .i64 r) (.int .i64 t)) := CB.below hb3
  have HDR : Hid (Tri w3 (w.heap.size + 1) (.slice none 0 0) (.int .i64 0) (.int .i64 0)) := CR.below hb3
  have HB3 : Hid (Below w.heap.size w w3) := HB0.out.trans (hb3.mono HB0.out.size)
  clear hb3 CB CR HB0
  obtain ⟨D0, D1, D2, _, _, _⟩ := HDB.out
  obtain ⟨R0, R1, R2, F0, F1, F2⟩ := HDR.out
  have HZ := HDR.out.put (.slice none 0 0) (.int .i64 0) (.int .i64 0)
  obtain ⟨Z0, Z1, Z2, _, _, _⟩ := HZ
  have HZB : Hid (Below w.heap.size w (put3 w3 (w.heap.size + 1) (.slice none 0 0) (.int .i64 0) (.int .i64 0))) := below_put3 HB3.out (by omega) _ _ _
  unfold put3 at Z0 Z1 Z2 HZB
  cases he : enoughB (l, r, t) x1 t with
  | false =>
    have HF : Hid (fWriteText (l, r, t) x1 x2 = (noV, false)) := write_no fun g => by have := g.1; simp only at this; rw [he] at this; cases this
    go_wp2
    refine bodyPost_ret (v := .tuple #[.agg #[.slice none 0 0, .int .i64 0, .int .i64 0], .bool false]) (by simp [results, Try.results14, go_sem, Z0, Z1, Z2]) rfl ?_
    unfold RWriteText
    rw [HF.out]
    exact ⟨_, _, rfl, noV_is _ w.heap.size, fun k h => h, noV_cnt, HZB.out⟩
  | true =>
    by_cases c12 : x2.size ≤ 12
    · have k12 : (x2.size : Int) ≤ 12 := by omega
      have HE1 : Hid (enoughB (l, r, t) x1 t = true) := he
      have hg : fGoodVoting (l, r, t) = true := by
        cases h : fGoodVoting (l, r, t) with
        | true => rfl
        | false => rw [enough_no1 h] at he; cases he
      have g := (vg_iff _).1 hg
      have hm := g.meet
      unfold MeetOk at hm
      obtain ⟨_, hs, _, hs0⟩ := enough_pos he (show 1 ≤ t by simp only at hm; omega)
      have hok : okTil l n = true := by rw [HNL.out]; exact g.ok
      have h7 : n ≤ 7 := by rw [HNL.out]; exact g.hi
      have hss : someOk x1 n = true := by rw [HNL.out]; exact hs
      have hn1 : 0 < n1 := by rw [HN1.out]; exact hs0
      have hbn : bst l x1 n1 < n := bst_lt hss (by rw [← HN1.out]; exact hn1) (by rw [HN1.out]; exact Nat.le_refl _)
      have HNW : Hid (nwc l x1 = cp l (bst l x1 n1)) := by show cp l (bst l x1 x1.length) = _; rw [HN1.out]
      have hokc := cpAt_ok (okTil_at hok hbn)
      have hcl := newestAmong_k l a n c T x1 a1 n1 c1 S1 w3 (Kd.below H.out HB3.out) (Kd.below H1.out HB3.out) hss hn1
      have HSS : Hid (someOk x1 n = true) := hss
      clear hg hs hs0 hok hbn he hm g hss
      generalize cp l (bst l x1 n1) = x at *
      obtain ⟨x1', x2', x3'⟩ := x
      simp only at hcl
      obtain ⟨_, _, q1, q2, _⟩ := hokc
      simp only at q1 q2
      clear Z0 Z1 Z2 HZB
      go_wp2_with fail
      refine hcl.mono ?_
      rintro e w4 ⟨rfl, hb4⟩
      have HB4 : Hid (Below w.heap.size w w4) := HB3.out.trans (hb4.mono HB3.out.size)
      have HEB : Hid (Tri w4 w.heap.size (.slice a n c) (.int .i64 r) (.int .i64 t)) := HDB.out.below hb4
      have HER : Hid (Tri w4 (w.heap.size + 1) (.slice none 0 0) (.int .i64 0) (.int .i64 0)) := HDR.out.below hb4
      clear hcl hb4 D0 D1 D2 R0 R1 R2 F0 F1 F2
      obtain ⟨D0, D1, D2, _, _, _⟩ := HEB.out
      obtain ⟨R0, R1, R2, F0, F1, F2⟩ := HER.out
      have hfl : ∀ W, (Instr.field 40 (.agg #[.int .i64 x1', .int .i64 x2', .string x3']) 1).run Try.prog W = .ok (.int .i64 x2') W := fun W => rfl
      by_cases cv : x2' + 1 ≤ 1000000
      · have HF : Hid (fWriteText (l, r, t) x1 x2 = ((hol l x1 (x2' + 1) x2 n1, r, t), true)) := by
          show _ = _
          rw [write_yes ⟨HE1.out, c12, by show (nwc l x1).2.1 + 1 ≤ _; rw [HNW.out]; exact cv⟩]
          show ((hol l x1 ((nwc l x1).2.1 + 1) x2 x1.length, r, t), true) = _
          rw [HNW.out, ← HN1.out]
        have hlen : (hol l x1 (x2' + 1) x2 n1).length ≤ 7 := by rw [hol_len, ← HNL.out]; exact h7
        have HLN : Hid ((hol l x1 (x2' + 1) x2 n1).length ≤ 7) := hlen
        clear hlen
        go_wp2_with fail
        refine (holding_k l a n c T r t x1 a1 n1 c1 S1 (x2' + 1) x2 w4 (Kd.below H.out HB4.out) h7 (Kd.below H1.out HB4.out) HSS.out (by unfold IntOk; omega) c12).mono ?_
        rintro e w5 ⟨a', c', rfl, hr5, hb5⟩
        have HB5 : Hid (Below w.heap.size w w5) := HB4.out.trans (hb5.mono HB4.out.size)
        have HT5 : Hid (Tri w5 (w.heap.size + 1) (.slice none 0 0) (.int .i64 0) (.int .i64 0)) := HER.out.below hb5
        have HR5 : Hid ((kRow kCopy).is true w5 (fun k => w4.heap.size ≤ k) [.slice a' n c'] (hol l x1 (x2' + 1) x2 n1)) := hr5
        have hzz : w.heap.size + 1 < w4.heap.size := HER.out.lt
        clear hr5 hb5 D0 D1 D2 R0 R1 R2 F0 F1 F2
        obtain ⟨R0, R1, R2, F0, F1, F2⟩ := HT5.out
        have q := HT5.out.put (.slice a' n c') (.int .i64 r) (.int .i64 t)
        have hk := put3_kept w5 (w.heap.size + 1) (.slice a' n c') (.int .i64 r) (.int .i64 t)
        have HBZ : Hid (Below w.heap.size w (put3 w5 (w.heap.size + 1) (.slice a' n c') (.int .i64 r) (.int .i64 t))) := below_put3 HB5.out (by omega) _ _ _
        have HRZ : Hid ((kRow kCopy).is true (put3 w5 (w.heap.size + 1) (.slice a' n c') (.int .i64 r) (.int .i64 t)) (fun k => w.heap.size ≤ k) [.slice a' n c'] (hol l x1 (x2' + 1) x2 n1)) := Kd.mono (Kd.kept HR5.out hk (fun q _ h e => by omega)) (fun q hq => by omega)
        obtain ⟨Q0, Q1, Q2, _, _, _⟩ := q
        unfold put3 at Q0 Q1 Q2 HBZ HRZ
        clear hk
        go_wp2
        refine bodyPost_ret (v := .tuple #[.agg #[.slice a' n c', .int .i64 r, .int .i64 t], .bool true]) (by simp [results, Try.results14, go_sem, Q0, Q1, Q2]) rfl ?_
        unfold RWriteText
        rw [HF.out]
        exact ⟨_, _, rfl, vot_shut (v := (hol l x1 (x2' + 1) x2 n1, r, t)) HRZ.out HI.out.1 HI.out.2, fun k h => h, vot_cnt HLN.out, HBZ.out⟩
      · have HF : Hid (fWriteText (l, r, t) x1 x2 = (noV, false)) := write_no fun g => cv (by have := g.2.2; simp only at this; rw [HNW.out] at this; exact this)
        have HZ := HER.out.put (.slice none 0 0) (.int .i64 0) (.int .i64 0)
        obtain ⟨Z0, Z1, Z2, _, _, _⟩ := HZ
        have HZB : Hid (Below w.heap.size w (put3 w4 (w.heap.size + 1) (.slice none 0 0) (.int .i64 0) (.int .i64 0))) := below_put3 HB4.out (by omega) _ _ _
        unfold put3 at Z0 Z1 Z2 HZB
        go_wp2
        refine bodyPost_ret (v := .tuple #[.agg #[.slice none 0 0, .int .i64 0, .int .i64 0], .bool false]) (by simp [results, Try.results14, go_sem, Z0, Z1, Z2]) rfl ?_
        unfold RWriteText
        rw [HF.out]
        exact ⟨_, _, rfl, noV_is _ w.heap.size, fun k h => h, noV_cnt, HZB.out⟩
    · have HF : Hid (fWriteText (l, r, t) x1 x2 = (noV, false)) := write_no fun g => c12 g.2.1
      have k12 : (12 : Int) < (x2.size : Int) := by omega
      go_wp2
      refine bodyPost_ret (v := .tuple #[.agg #[.slice none 0 0, .int .i64 0, .int .i64 0], .bool false]) (by simp [results, Try.results14, go_sem, Z0, Z1, Z2]) rfl ?_
      unfold RWriteText
      rw [HF.out]
      exact ⟨_, _, rfl, noV_is _ w.heap.size, fun k h => h, noV_cnt, HZB.out⟩
end Go.Proofs.Ytbkdkiodkcpbeaa
