/- FnRepaired: what is repaired is read alike by all, and repaired again nothing changes. No condition. -/
import Derived.Test.YtbkdkiodkcpbeaaQuRl
import Derived.Test.YtbkdkiodkcpbeaaQuSv
import Derived.Test.YtbkdkiodkcpbeaaQuZ
import Derived.Test.YtbkdkiodkcpbeaaQuNv
namespace Go.Proofs.Ytbkdkiodkcpbeaa
open Go.RowKit
set_option linter.unusedVariables false

set_option maxRecDepth 100000 in
set_option maxHeartbeats 8000000 in
theorem lawRepaired_k (x0 x1 : List Int) (a0 a1 : Option Addr) (n0 c0 n1 c1 : Nat) (w : World) (h0 : (kRow kU8).is false w (fun _ => True) [.slice a0 n0 c0] x0) (h1 : (kRow kU8).is false w (fun _ => True) [.slice a1 n1 c1] x1) :
    Calls Try.prog 4 #[.slice a0 n0 c0, .slice a1 n1 c1] w fun e w' => e = .returned (.bool true) ∧ Below w.heap.size w w' := by
  have hm0 := row_max h0
  have hm1 := row_max h1
  have H0 : Hid ((kRow kU8).is false w (fun _ => True) [.slice a0 n0 c0] x0) := h0
  have H1 : Hid ((kRow kU8).is false w (fun _ => True) [.slice a1 n1 c1] x1) := h1
  clear h0 h1
  go_enter Try.func4, Try.ntmps4
  obtain ⟨qq, hqq0⟩ : ∃ q, q = wrap64 ((n0 : Int) + (n1 : Int)) := ⟨_, rfl⟩
  by_cases hbig : (1048576 : Int) < qq
  · rw [hqq0] at hbig
    clear hqq0
    go_wp2
    go_ret
    exact ⟨rfl, Below.refl _ _⟩
  · rw [hqq0] at hbig
    clear hqq0
    go_wp2_with fail
    refine (drawRepairCopies_k w x0 a0 n0 c0 H0.out hm0).mono ?_
    rintro e w1 ⟨a, n, c, r, t, L, T, sa, sn, sc, sT, sl, rfl, hrow, hT, hio, ⟨hn1, hn7⟩, hs, hsT, hb⟩
    have HL1 : Hid ((kRow kCopy).is true w1 T [.slice a n c] L) := hrow
    have HS1 : Hid ((kRow kInt).is false w1 sT [.slice sa sn sc] sl) := (kRow kInt).read hs
    have HIO : Hid (IntOk r ∧ IntOk t) := hio
    have HB1 : Hid (Below w.heap.size w w1) := hb
    have hcapv := row_cap hrow
    have HNL0 : Hid (n = L.length) := row_len hrow
    have HNS : Hid (sn = sl.length) := row_len hs
    clear hrow hT hio hs hsT hb
    go_wp2_with fail
    obtain ⟨w2, hw2⟩ : ∃ W, W = w1.alloc (.cells #[.slice a n c, .int .i64 r, .int .i64 t] 25) := ⟨_, rfl⟩
    obtain ⟨g5, hg5⟩ : ∃ g5, g5 = w1.heap.size := ⟨_, rfl⟩
    have hb12 : Below w1.heap.size w1 w2 := by rw [hw2]; exact below_a1q _ _
    have HT2 : Hid (Tri w2 g5 (.slice a n c) (.int .i64 r) (.int .i64 t)) := by show Tri _ _ _ _ _; rw [hw2, hg5]; exact alloc_tri w1 _ _ _ _
    rw [← hw2, ← hg5]
    clear hw2 hg5
    refine (repairI_k L a n c T r t sl sa sn sc sT w2 (Kd.below ((kRow kCopy).read HL1.out) hb12) hcapv (Kd.below HS1.out hb12) HIO.out.1 HIO.out.2).mono ?_
    unfold RRepairCopies
    obtain ⟨V, hF⟩ : ∃ V, V = fRepairCopies (L, r, t) sl := ⟨_, rfl⟩
    have HFF : Hid (fRepairCopies (L, r, t) sl = V) := hF.symm
    rw [← hF]
    clear hF
    obtain ⟨⟨L', r', t'⟩, m, q⟩ := V
    rintro e w3 ⟨C0, T0, rfl, hv, hT0, _, him, hb3⟩
    have HIM : Hid (IntOk m) := him
    have HL3 : Hid ((kRow kCopy).is true w3 T [.slice a n c] L) := Kd.below (Kd.below HL1.out hb12) hb3
    have HS3 : Hid ((kRow kInt).is false w3 sT [.slice sa sn sc] sl) := Kd.below (Kd.below HS1.out hb12) hb3
    have HT3 : Hid (Tri w3 g5 (.slice a n c) (.int .i64 r) (.int .i64 t)) := HT2.out.below hb3
    have HB3 : Hid (Below w.heap.size w w3) := HB1.out.trans ((hb12.trans (hb3.mono hb12.size)).mono HB1.out.size)
    obtain ⟨a', n', c', TX, rfl, hnl', hrow', _, _, _⟩ := vot_open hv
    simp only at hnl' hrow'
    have HNLX : Hid (n' = L'.length) := hnl'
    have HX3 : Hid ((kRow kCopy).is true w3 TX [.slice a' n' c'] L') := hrow'
    clear hv hT0 hb3 hb12 HT2 HL1 HS1 HB1 hrow' hnl' him
    simp only
    obtain ⟨D0, D1, D2, _, _, _⟩ := HT3.out
    have hg53 := HT3.out.lt
    go_wp2_with fail
    obtain ⟨w4, hw4⟩ : ∃ W, W = w3.alloc (.cells #[.slice a' n' c', .int .i64 r', .int .i64 t'] 25) := ⟨_, rfl⟩
    obtain ⟨g8, hg8⟩ : ∃ g8, g8 = w3.heap.size := ⟨_, rfl⟩
    have hb34 : Below w3.heap.size w3 w4 := by rw [hw4]; exact below_a1q _ _
    have HT84 : Hid (Tri w4 g8 (.slice a' n' c') (.int .i64 r') (.int .i64 t')) := by show Tri _ _ _ _ _; rw [hw4, hg8]; exact alloc_tri w3 _ _ _ _
    rw [← hw4, ← hg8]
    clear hw4 hg8
    refine (repairSp_k L a n c T r t sl sa sn sc sT w4 (Kd.below ((kRow kCopy).read HL3.out) hb34) hcapv (Kd.below HS3.out hb34) HIO.out.1 HIO.out.2).mono ?_
    unfold RRepairCopies
    rw [HFF.out]
    rintro e w5 ⟨C0, T0, rfl, hv, hT0, _, _, hb5⟩
    obtain ⟨a2, n2, c2, TY, rfl, hnl2, hrow2, _, _, _⟩ := vot_open hv
    simp only at hnl2 hrow2
    have hb35 : Below w3.heap.size w3 w5 := hb34.trans (hb5.mono hb34.size)
    obtain rfl : n' = n2 := by rw [HNLX.out, hnl2]
    have HY5 : Hid ((kRow kCopy).is true w5 TY [.slice a2 n' c2] L') := hrow2
    have HL5 : Hid ((kRow kCopy).is true w5 T [.slice a n c] L) := Kd.below HL3.out hb35
    have HS5 : Hid ((kRow kInt).is false w5 sT [.slice sa sn sc] sl) := Kd.below HS3.out hb35
    have HX5 : Hid ((kRow kCopy).is true w5 TX [.slice a' n' c'] L') := Kd.below HX3.out hb35
    have HT55 : Hid (Tri w5 g5 (.slice a n c) (.int .i64 r) (.int .i64 t)) := HT3.out.below hb35
    have HT85 : Hid (Tri w5 g8 (.slice a' n' c') (.int .i64 r') (.int .i64 t')) := HT84.out.below hb5
    have HB5 : Hid (Below w.heap.size w w5) := HB3.out.trans (hb35.mono HB3.out.size)
    clear hv hT0 hb5 hb34 hb35 HT3 HT84 HL3 HS3 HX3 HB3 hrow2 D0 D1 D2 hg53 hnl2
    simp only
    go_upto_region 6 with fail
    obtain ⟨w6, hw6⟩ : ∃ W, W = w5.alloc (.cells #[.slice a2 n' c2, .int .i64 r', .int .i64 t'] 25) := ⟨_, rfl⟩
    obtain ⟨g10, hg10⟩ : ∃ g10, g10 = w5.heap.size := ⟨_, rfl⟩
    have hb56 : Below w5.heap.size w5 w6 := by rw [hw6]; exact below_a1q _ _
    have HT106 : Hid (Tri w6 g10 (.slice a2 n' c2) (.int .i64 r') (.int .i64 t')) := by show Tri _ _ _ _ _; rw [hw6, hg10]; exact alloc_tri w5 _ _ _ _
    have HY6 : Hid ((kRow kCopy).is false w6 TY [.slice a2 n' c2] L') := Kd.below ((kRow kCopy).read HY5.out) hb56
    have HL6 : Hid ((kRow kCopy).is true w6 T [.slice a n c] L) := Kd.below HL5.out hb56
    have HS6 : Hid ((kRow kInt).is false w6 sT [.slice sa sn sc] sl) := Kd.below HS5.out hb56
    have HX6 : Hid ((kRow kCopy).is true w6 TX [.slice a' n' c'] L') := Kd.below HX5.out hb56
    have HT56 : Hid (Tri w6 g5 (.slice a n c) (.int .i64 r) (.int .i64 t)) := HT55.out.below hb56
    have HT86 : Hid (Tri w6 g8 (.slice a' n' c') (.int .i64 r') (.int .i64 t')) := HT85.out.below hb56
    have HB6 : Hid (Below w.heap.size w w6) := HB5.out.trans (hb56.mono HB5.out.size)
    rw [← hw6, ← hg10]
    clear hw6 hg10 hb56 HY5 HL5 HS5 HX5 HT55 HT85 HB5
    obtain ⟨E0, E1, E2, _, _, _⟩ := HT86.out
    obtain ⟨F0, F1, F2, _, _, _⟩ := HT106.out
    have he1 := HT86.out.lt
    have he2 := HT106.out.lt
    have hqq : (q != q) = false := by cases q <;> rfl
    have hmm : (m != m) = false := by simp
    go_wp2_with fail
    refine (sameVotings_k L' r' t' a' a2 n' c' c2 TX TY w6 ((kRow kCopy).read HX6.out) HY6.out).mono ?_
    rintro e w66 ⟨rfl, hb66⟩
    have HL66 : Hid ((kRow kCopy).is true w66 T [.slice a n c] L) := Kd.below HL6.out hb66
    have HS66 : Hid ((kRow kInt).is false w66 sT [.slice sa sn sc] sl) := Kd.below HS6.out hb66
    have HX66 : Hid ((kRow kCopy).is true w66 TX [.slice a' n' c'] L') := Kd.below HX6.out hb66
    have HT566 : Hid (Tri w66 g5 (.slice a n c) (.int .i64 r) (.int .i64 t)) := HT56.out.below hb66
    have HT866 : Hid (Tri w66 g8 (.slice a' n' c') (.int .i64 r') (.int .i64 t')) := HT86.out.below hb66
    have HB66 : Hid (Below w.heap.size w w66) := HB6.out.trans (hb66.mono HB6.out.size)
    clear hb66 E0 E1 E2 F0 F1 F2 HL6 HS6 HX6 HT56 HT86 HB6 HY6 HT106 hqq hmm he1 he2
    go_upto_if 73 with fail
    go_cut [] (fun wx => Hid (Below w.heap.size w wx))
    case first =>
      cases q with
      | false =>
        go_wp2_with fail
        go_meet
        case rel => exact HB66
      | true =>
        have hF := HFF.out
        have HL6 := HL66
        have HS6 := HS66
        have HX6 := HX66
        have HT5 := HT566
        have HT8 := HT866
        have HB6 := HB66
        clear HFF HL66 HS66 HX66 HT566 HT866 HB66
        generalize w66 = w6 at *
        obtain ⟨er, et, o, HMM⟩ := mended hF
        subst er et
        have HM : Hid (Mended L L' r' t' sl m o) := HMM
        have hn' : n' = n := by rw [HNLX.out, HMM.len, ← HNL0.out]
        subst hn'
        clear HMM hF
        have hcapx := row_cap HX6.out
        have hcapv := row_cap HL6.out
        obtain ⟨D0, D1, D2, _, _, _⟩ := HT8.out
        have hlt5 := HT5.out.lt
        have hlt8 := HT8.out.lt
        go_wp2_with fail
        refine (repairI_k L' a' n' c' TX r' t' sl sa sn sc sT w6 ((kRow kCopy).read HX6.out) hcapx HS6.out HIO.out.1 HIO.out.2).mono ?_
        unfold RRepairCopies
        rw [HM.out.again]
        rintro e w7 ⟨C0, T0, rfl, hv, hT0, _, _, hb7⟩
        obtain ⟨a3, n3, c3, TZ, rfl, hnl3, hrow3, _, _, _⟩ := vot_open hv
        simp only at hnl3 hrow3
        obtain rfl : n' = n3 := by rw [HNLX.out, hnl3]
        have HZ7 : Hid ((kRow kCopy).is false w7 TZ [.slice a3 n' c3] L') := (kRow kCopy).read hrow3
        have HL7 : Hid ((kRow kCopy).is true w7 T [.slice a n' c] L) := Kd.below HL6.out hb7
        have HX7 : Hid ((kRow kCopy).is true w7 TX [.slice a' n' c'] L') := Kd.below HX6.out hb7
        have HS7 : Hid ((kRow kInt).is false w7 sT [.slice sa sn sc] sl) := Kd.below HS6.out hb7
        have HT57 : Hid (Tri w7 g5 (.slice a n' c) (.int .i64 r') (.int .i64 t')) := HT5.out.below hb7
        have HT87 : Hid (Tri w7 g8 (.slice a' n' c') (.int .i64 r') (.int .i64 t')) := HT8.out.below hb7
        have HB7 : Hid (Below w.heap.size w w7) := HB6.out.trans (hb7.mono HB6.out.size)
        clear hb7 hv hT0 hrow3 hnl3 D0 D1 D2 HT5 HT8 HL6 HX6 HS6 HB6 hlt5 hlt8
        simp only
        obtain ⟨D0, D1, D2, _, _, _⟩ := HT57.out
        have hlt5 := HT57.out.lt
        have hlt8 := HT87.out.lt
        go_wp2_with fail
        obtain ⟨w8, hw8⟩ : ∃ W, W = w7.alloc (.cells #[.slice a3 n' c3, .int .i64 r', .int .i64 t'] 25) := ⟨_, rfl⟩
        obtain ⟨g13, hg13⟩ : ∃ g, g = w7.heap.size := ⟨_, rfl⟩
        have hbw8 : Below w7.heap.size w7 w8 := by rw [hw8]; exact below_a1q _ _
        have HT138 : Hid (Tri w8 g13 (.slice a3 n' c3) (.int .i64 r') (.int .i64 t')) := by show Tri _ _ _ _ _; rw [hw8, hg13]; exact alloc_tri w7 _ _ _ _
        have HZ8 : Hid ((kRow kCopy).is false w8 TZ [.slice a3 n' c3] L') := Kd.below HZ7.out hbw8
        have HL8 : Hid ((kRow kCopy).is true w8 T [.slice a n' c] L) := Kd.below HL7.out hbw8
        have HX8 : Hid ((kRow kCopy).is true w8 TX [.slice a' n' c'] L') := Kd.below HX7.out hbw8
        have HS8 : Hid ((kRow kInt).is false w8 sT [.slice sa sn sc] sl) := Kd.below HS7.out hbw8
        have HT58 : Hid (Tri w8 g5 (.slice a n' c) (.int .i64 r') (.int .i64 t')) := HT57.out.below hbw8
        have HT88 : Hid (Tri w8 g8 (.slice a' n' c') (.int .i64 r') (.int .i64 t')) := HT87.out.below hbw8
        have HB8 : Hid (Below w.heap.size w w8) := HB7.out.trans (hbw8.mono HB7.out.size)
        rw [← hw8, ← hg13]
        clear hw8 hg13 hbw8 HT57 HT87 HL7 HX7 HS7 HZ7 HB7 D0 D1 D2 hlt5 hlt8
        refine (newestI_k L a n' c T r' t' w8 ((kRow kCopy).read HL8.out) hcapv).mono ?_
        unfold RNewestOf
        rw [HM.out.old]
        rintro e w9 ⟨rfl, _, _, hb9⟩
        have HZ9 : Hid ((kRow kCopy).is false w9 TZ [.slice a3 n' c3] L') := Kd.below HZ8.out hb9
        have HX9 : Hid ((kRow kCopy).is true w9 TX [.slice a' n' c'] L') := Kd.below HX8.out hb9
        have HS9 : Hid ((kRow kInt).is false w9 sT [.slice sa sn sc] sl) := Kd.below HS8.out hb9
        have HT89 : Hid (Tri w9 g8 (.slice a' n' c') (.int .i64 r') (.int .i64 t')) := HT88.out.below hb9
        have HT139 : Hid (Tri w9 g13 (.slice a3 n' c3) (.int .i64 r') (.int .i64 t')) := HT138.out.below hb9
        have HB9 : Hid (Below w.heap.size w w9) := HB8.out.trans (hb9.mono HB8.out.size)
        clear hb9 HT58 HT88 HT138 HL8 HX8 HS8 HZ8 HB8
        obtain ⟨E0, E1, E2, _, _, _⟩ := HT89.out
        go_wp2_with fail
        refine (newestI_k L' a' n' c' TX r' t' w9 ((kRow kCopy).read HX9.out) hcapx).mono ?_
        unfold RNewestOf
        rw [HM.out.now]
        rintro e w10 ⟨rfl, _, _, hb10⟩
        have HZ10 : Hid ((kRow kCopy).is false w10 TZ [.slice a3 n' c3] L') := Kd.below HZ9.out hb10
        have HX10 : Hid ((kRow kCopy).is true w10 TX [.slice a' n' c'] L') := Kd.below HX9.out hb10
        have HS10 : Hid ((kRow kInt).is false w10 sT [.slice sa sn sc] sl) := Kd.below HS9.out hb10
        have HT810 : Hid (Tri w10 g8 (.slice a' n' c') (.int .i64 r') (.int .i64 t')) := HT89.out.below hb10
        have HT1310 : Hid (Tri w10 g13 (.slice a3 n' c3) (.int .i64 r') (.int .i64 t')) := HT139.out.below hb10
        have HB10 : Hid (Below w.heap.size w w10) := HB9.out.trans (hb10.mono HB9.out.size)
        clear hb10 HT89 HT139 HX9 HS9 HZ9 HB9 E0 E1 E2
        have hoo : (o != o) = false := by simp
        have kn : ¬ ((sn : Int) < m) := by
          have h1 := HM.out.kb.2
          have h2 := HNS.out
          omega
        obtain ⟨D0, D1, D2, _, _, _⟩ := HT810.out
        obtain ⟨E0, E1, E2, _, _, _⟩ := HT1310.out
        have he1 := HT810.out.lt
        have he2 := HT1310.out.lt
        go_wp2_with fail
        refine (sameVotings_k L' r' t' a3 a' n' c3 c' TZ TX w10 HZ10.out ((kRow kCopy).read HX10.out)).mono ?_
        rintro e w11 ⟨rfl, hb11⟩
        have HX11 : Hid ((kRow kCopy).is true w11 TX [.slice a' n' c'] L') := Kd.below HX10.out hb11
        have HS11 : Hid ((kRow kInt).is false w11 sT [.slice sa sn sc] sl) := Kd.below HS10.out hb11
        have HT811 : Hid (Tri w11 g8 (.slice a' n' c') (.int .i64 r') (.int .i64 t')) := HT810.out.below hb11
        have HB11 : Hid (Below w.heap.size w w11) := HB10.out.trans (hb11.mono HB10.out.size)
        clear hb11 HT810 HT1310 HX10 HS10 HZ10 HB10 D0 D1 D2 E0 E1 E2 he1 he2
        obtain ⟨D0, D1, D2, _, _, _⟩ := HT811.out
        have he1 := HT811.out.lt
        go_wp2_with fail
        refine (goodV_k L' a' n' c' TX r' t' w11 ((kRow kCopy).read HX11.out) hcapx).mono ?_
        unfold RGoodVoting
        rw [HM.out.gx]
        rintro e w12 ⟨rfl, hb12⟩
        have HX12 : Hid ((kRow kCopy).is true w12 TX [.slice a' n' c'] L') := Kd.below HX11.out hb12
        have HS12 : Hid ((kRow kInt).is false w12 sT [.slice sa sn sc] sl) := Kd.below HS11.out hb12
        have HT812 : Hid (Tri w12 g8 (.slice a' n' c') (.int .i64 r') (.int .i64 t')) := HT811.out.below hb12
        have HB12 : Hid (Below w.heap.size w w12) := HB11.out.trans (hb12.mono HB11.out.size)
        clear hb12 HT811 HX11 HS11 HB11 D0 D1 D2 he1
        obtain ⟨D0, D1, D2, _, _, _⟩ := HT812.out
        have he1 := HT812.out.lt
        go_wp2_with fail
        have hsm := row_max HS12.out
        go_loopw [131] (fun iv wr => ∃ i : Nat, i ≤ sn ∧ iv = .int .i64 i ∧ wr = w12) (fun iv _ => sn - (intOf iv).toNat)
        case atStart => exact ⟨0, Nat.zero_le _, rfl, rfl⟩
        case round =>
          obtain ⟨i, hi, rfl, rfl⟩ := hrel
          by_cases hlt : i < sn
          · obtain ⟨bs, os, rfl, hbs, A0, _⟩ := rowN_at HS12.out hlt
            have hil : i < sl.length := by rw [← HNS.out]; exact hlt
            obtain ⟨q1, q2⟩ := some_nat HM.out.some hil
            obtain ⟨b, o', hab, hb, _, _, _, _, A1, _⟩ := rowC_at ((kRow kCopy).read HX12.out) (show nat sl i < n' by rw [HNL0.out]; exact q2)
            rw [HM.out.vers i hil] at A1
            rw [q1] at A0
            rw [← HNL0.out] at q2
            clear q1
            generalize nat sl i = k at *
            have i0 : (i : Int) < (sn : Int) := by omega
            have i1 : (0 : Int) ≤ (i : Int) := by omega
            have i2 : (k : Int) < (n' : Int) := by omega
            have i3 : (0 : Int) ≤ (k : Int) := by omega
            subst hab
            go_wp2
            go_roundw
            case rel => exact ⟨i + 1, by omega, by go_num, trivial⟩
            case measure => simp [intOf]; omega
          · obtain rfl : i = sn := by omega
            have i0 : ¬ (i : Int) < (i : Int) := by omega
            go_wp2_with fail
            go_meet
            case rel => exact HB12
    case rest =>
      have HBC : Hid (Below w.heap.size w wc) := hcut
      clear HFF HL66 HS66 HX66 HT566 HT866 HB66 HNL0 HNLX HNS HIO hcapv hn1 hn7
      go_wp2_with fail
      refine (drawNewVoting_k wc x1 a1 n1 c1 (Kd.below H1.out HBC.out) hm1).mono ?_
      rintro e w1 ⟨aw, nw, cw, Tw, lw, r, t, rfl, hrow, ⟨hn1, hn5⟩, hlw, hr0, ht0, hb⟩
      have HW1 : Hid ((kRow kInt).is false w1 Tw [.slice aw nw cw] lw) := (kRow kInt).read hrow
      have HB1 : Hid (Below w.heap.size w w1) := HBC.out.trans (hb.mono HBC.out.size)
      have HNW : Hid (nw = lw.length) := row_len hrow
      have HLW : Hid (∀ x ∈ lw, 0 ≤ x ∧ x ≤ 11) := hlw
      have HZW : Hid ((kRow kInt).sz lw ≤ 2 ^ 20) := by
        have h1 : (kRow kInt).sz lw = lw.length + sums kInt.sz lw := rfl
        have h2 : sums kInt.sz lw = 0 := sums_zero lw
        have h3 := HNW.out
        show _ ≤ _
        omega
      have HIO : Hid (IntOk r ∧ IntOk t) := ⟨by unfold IntOk; omega, by unfold IntOk; omega⟩
      obtain ⟨hr0, hr1⟩ := hr0
      obtain ⟨ht0, ht1⟩ := ht0
      clear hrow hb hlw HBC
      go_wp2_with fail
      refine (implNewVoting_k lw aw nw cw Tw r t w1 HW1.out HZW.out HIO.out.1 HIO.out.2).mono ?_
      unfold RNewVoting
      have HMT : Hid ((fNewVoting lw r t).2 = true → sumI lw lw.length < r + t ∧ sumI lw lw.length < 2 * t) := new_meet
      obtain ⟨V, hF⟩ : ∃ V, V = fNewVoting lw r t := ⟨_, rfl⟩
      have HFF : Hid (fNewVoting lw r t = V) := hF.symm
      rw [← hF] at HMT ⊢
      clear hF
      obtain ⟨⟨L', r', t'⟩, q⟩ := V
      rintro e w2 ⟨C0, T0, rfl, hv, hT0, _, hb2⟩
      obtain ⟨a', n', c', TX, rfl, hnl', hrow', _, _, _⟩ := vot_open hv
      simp only at hnl' hrow'
      have HNLX : Hid (n' = L'.length) := hnl'
      have HX2 : Hid ((kRow kCopy).is true w2 TX [.slice a' n' c'] L') := hrow'
      have HW2 : Hid ((kRow kInt).is false w2 Tw [.slice aw nw cw] lw) := Kd.below HW1.out hb2
      have HB2 : Hid (Below w.heap.size w w2) := HB1.out.trans (hb2.mono HB1.out.size)
      clear hv hT0 hb2 hrow' hnl' HW1 HB1
      simp only at HMT
      simp only
      go_wp2_with fail
      obtain ⟨w3, hw3⟩ : ∃ W, W = w2.alloc (.cells #[.slice a' n' c', .int .i64 r', .int .i64 t'] 25) := ⟨_, rfl⟩
      obtain ⟨g27, hg27⟩ : ∃ g, g = w2.heap.size := ⟨_, rfl⟩
      have hbw3 : Below w2.heap.size w2 w3 := by rw [hw3]; exact below_a1q _ _
      have HT3 : Hid (Tri w3 g27 (.slice a' n' c') (.int .i64 r') (.int .i64 t')) := by show Tri _ _ _ _ _; rw [hw3, hg27]; exact alloc_tri w2 _ _ _ _
      have HX3 : Hid ((kRow kCopy).is true w3 TX [.slice a' n' c'] L') := Kd.below HX2.out hbw3
      have HW3 : Hid ((kRow kInt).is false w3 Tw [.slice aw nw cw] lw) := Kd.below HW2.out hbw3
      have HB3 : Hid (Below w.heap.size w w3) := HB2.out.trans (hbw3.mono HB2.out.size)
      rw [← hw3, ← hg27]
      clear hw3 hg27 hbw3 HX2 HW2 HB2
      refine (specNewVoting_k lw aw nw cw Tw r t w3 HW3.out HZW.out HIO.out.1 HIO.out.2).mono ?_
      unfold RNewVoting
      rw [HFF.out]
      rintro e w4 ⟨C0, T0, rfl, hv, hT0, _, hb4⟩
      obtain ⟨a2, n2, c2, TY, rfl, hnl2, hrow2, _, _, _⟩ := vot_open hv
      simp only at hnl2 hrow2
      obtain rfl : n' = n2 := by rw [HNLX.out, hnl2]
      have HY4 : Hid ((kRow kCopy).is false w4 TY [.slice a2 n' c2] L') := (kRow kCopy).read hrow2
      have HX4 : Hid ((kRow kCopy).is false w4 TX [.slice a' n' c'] L') := Kd.below ((kRow kCopy).read HX3.out) hb4
      have HW4 : Hid ((kRow kInt).is false w4 Tw [.slice aw nw cw] lw) := Kd.below HW3.out hb4
      have HT4 : Hid (Tri w4 g27 (.slice a' n' c') (.int .i64 r') (.int .i64 t')) := HT3.out.below hb4
      have HB4 : Hid (Below w.heap.size w w4) := HB3.out.trans (hb4.mono HB3.out.size)
      clear hv hT0 hb4 hrow2 hnl2 HX3 HW3 HT3 HB3 HFF HNLX
      simp only
      go_upto_region 23 with fail
      obtain ⟨w5, hw5⟩ : ∃ W, W = w4.alloc (.cells #[.slice a2 n' c2, .int .i64 r', .int .i64 t'] 25) := ⟨_, rfl⟩
      obtain ⟨g29, hg29⟩ : ∃ g, g = w4.heap.size := ⟨_, rfl⟩
      have hbw5 : Below w4.heap.size w4 w5 := by rw [hw5]; exact below_a1q _ _
      have HT5 : Hid (Tri w5 g29 (.slice a2 n' c2) (.int .i64 r') (.int .i64 t')) := by show Tri _ _ _ _ _; rw [hw5, hg29]; exact alloc_tri w4 _ _ _ _
      have HY5 : Hid ((kRow kCopy).is false w5 TY [.slice a2 n' c2] L') := Kd.below HY4.out hbw5
      have HX5 : Hid ((kRow kCopy).is false w5 TX [.slice a' n' c'] L') := Kd.below HX4.out hbw5
      have HW5 : Hid ((kRow kInt).is false w5 Tw [.slice aw nw cw] lw) := Kd.below HW4.out hbw5
      have HT275 : Hid (Tri w5 g27 (.slice a' n' c') (.int .i64 r') (.int .i64 t')) := HT4.out.below hbw5
      have HB5 : Hid (Below w.heap.size w w5) := HB4.out.trans (hbw5.mono HB4.out.size)
      rw [← hw5, ← hg29]
      clear hw5 hg29 hbw5 HY4 HX4 HW4 HT4 HB4
      obtain ⟨D0, D1, D2, _, _, _⟩ := HT275.out
      obtain ⟨E0, E1, E2, _, _, _⟩ := HT5.out
      have he1 := HT275.out.lt
      have he2 := HT5.out.lt
      have hqq : (q != q) = false := by cases q <;> rfl
      go_wp2_with fail
      refine (sameVotings_k L' r' t' a' a2 n' c' c2 TX TY w5 HX5.out HY5.out).mono ?_
      rintro e w6 ⟨rfl, hb6⟩
      have HW6 : Hid ((kRow kInt).is false w6 Tw [.slice aw nw cw] lw) := Kd.below HW5.out hb6
      have HB6 : Hid (Below w.heap.size w w6) := HB5.out.trans (hb6.mono HB5.out.size)
      clear hb6 HY5 HX5 HW5 HT275 HT5 HB5 D0 D1 D2 E0 E1 E2 he1 he2
      go_wp2_with fail
      go_loopw [31, 175] (fun v iv wr => ∃ k : Nat, k ≤ nw ∧ iv = .int .i64 k ∧ v = .int .i64 (sumI lw k) ∧ wr = w6) (fun _ iv _ => nw - (intOf iv).toNat)
      case atStart => exact ⟨0, Nat.zero_le _, rfl, rfl, rfl⟩
      case round =>
        obtain ⟨k, hk, rfl, rfl, rfl⟩ := hrel
        obtain ⟨z0, z1⟩ := sumI_bd HLW.out k
        by_cases hlt : k < nw
        · obtain ⟨b, o, rfl, hb, A0, _⟩ := rowN_at HW6.out hlt
          have HWX : Hid (sumI lw (k + 1) = sumI lw k + lw.getD k 0) := rfl
          obtain ⟨y0, y1⟩ : 0 ≤ lw.getD k 0 ∧ lw.getD k 0 ≤ 11 := HLW.out _ (List.mem_of_getElem? (getD_at (show k < lw.length by rw [← HNW.out]; exact hlt)))
          generalize sumI lw k = z at *
          generalize lw.getD k 0 = y at *
          have i0 : (k : Int) < (nw : Int) := by omega
          have i1 : (0 : Int) ≤ (k : Int) := by omega
          have z2 : z ≤ 60 := by omega
          go_wp2
          go_roundw
          case rel => exact ⟨k + 1, by omega, by go_num, by rw [HWX.out], trivial⟩
          case measure => simp [intOf]; omega
        · obtain rfl : k = nw := by omega
          have i0 : ¬ (k : Int) < (k : Int) := by omega
          have hkw : k = lw.length := HNW.out
          rw [← hkw] at HMT
          generalize sumI lw k = z at *
          have z2 : z ≤ 55 := by omega
          clear hkw
          cases q with
          | false =>
            go_wp2
            go_ret
            exact ⟨rfl, HB6.out⟩
          | true =>
            obtain ⟨m1, m2⟩ := HMT.out rfl
            go_wp2
            go_ret
            exact ⟨rfl, HB6.out⟩
end Go.Proofs.Ytbkdkiodkcpbeaa
