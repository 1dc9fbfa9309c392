/- FnQuorum: what any enough read is what was written last (Gifford). No condition. -/
import Derived.Test.YtbkdkiodkcpbeaaQuDd
import Derived.Test.YtbkdkiodkcpbeaaQuQl
import Derived.Test.YtbkdkiodkcpbeaaQuSv
import Derived.Test.YtbkdkiodkcpbeaaQuWi
import Derived.Test.YtbkdkiodkcpbeaaQuAm
namespace Go.Proofs.Ytbkdkiodkcpbeaa
open Go.RowKit
set_option linter.unusedVariables false

/-- A byte of a row. -/
theorem rowB_at {w : World} {S : Nat → Prop} {a : Option Addr} {n c : Nat} {x : List Int} (h : (kRow kU8).is false w S [.slice a n c] x) {j : Nat} (hj : j < n) : ∃ b off y, a = some ⟨b, off, none⟩ ∧ w.cell? ⟨b, off + j, none⟩ = some (.int .u8 y) ∧ 0 ≤ y ∧ y < 256 := by
  obtain ⟨b, off, B, C, e, hb, _, hi, _, hc⟩ := row_at h (List.getElem?_eq_getElem (show j < x.length by rw [← row_len h]; exact hj))
  obtain ⟨rfl, h0, h1⟩ := hi
  exact ⟨b, off, _, e, cell1 (hc 0 _ rfl).1, h0, h1⟩
set_option maxRecDepth 100000 in
set_option maxHeartbeats 8000000 in
theorem lawQuorum_k (x0 x1 : List Int) (a0 a1 : Option Addr) (n0 c0 n1 c1 : Nat) (w : World) (h0 : (kRow kU8).is false w (fun _ => True) [.slice a0 n0 c0] x0) (h1 : (kRow kU8).is false w (fun _ => True) [.slice a1 n1 c1] x1) :
    Calls Try.prog 3 #[.slice a0 n0 c0, .slice a1 n1 c1] w fun e w' => e = .returned (.bool true) ∧ Below w.heap.size w w' := by
  have hm0 := row_max h0
  have hm1 := row_max h1
  have H0 : Hid ((kRow kU8).is false w (fun _ => True) [.slice a0 n0 c0] x0) := h0
  have H1 : Hid ((kRow kU8).is false w (fun _ => True) [.slice a1 n1 c1] x1) := h1
  clear h0 h1
  go_enter Try.func3, Try.ntmps3
  obtain ⟨qq, hqq0⟩ : ∃ q, q = wrap64 ((n0 : Int) + (n1 : Int)) := ⟨_, rfl⟩
  by_cases hbig : (1048576 : Int) < qq
  · rw [hqq0] at hbig
    clear hqq0
    go_wp2
    go_ret
    exact ⟨rfl, Below.refl _ _⟩
  · rw [hqq0] at hbig
    clear hqq0
    go_wp2_with fail
    refine (drawWriteText_k w x0 a0 n0 c0 H0.out hm0).mono ?_
    rintro e w1 ⟨a, n, c, r, t, L, T, sa, sn, sc, sT, sl, y, rfl, hrow, hT, hio, ⟨hn1, hn7⟩, hs, hsT, hy, hb⟩
    have HL1 : Hid ((kRow kCopy).is true w1 T [.slice a n c] L) := hrow
    have HS1 : Hid ((kRow kInt).is false w1 sT [.slice sa sn sc] sl) := (kRow kInt).read hs
    have HIO : Hid (IntOk r ∧ IntOk t) := hio
    have HB1 : Hid (Below w.heap.size w w1) := hb
    have HY : Hid (y.size ≤ 13) := hy
    have hcapv := row_cap hrow
    have HNL0 : Hid (n = L.length) := row_len hrow
    clear hrow hT hio hs hsT hy hb
    go_wp2_with fail
    obtain ⟨w2, hw2⟩ : ∃ W, W = w1.alloc (.cells #[.slice a n c, .int .i64 r, .int .i64 t] 25) := ⟨_, rfl⟩
    obtain ⟨g5, hg5⟩ : ∃ g5, g5 = w1.heap.size := ⟨_, rfl⟩
    have hb12 : Below w1.heap.size w1 w2 := by rw [hw2]; exact below_a1q _ _
    have HT2 : Hid (Tri w2 g5 (.slice a n c) (.int .i64 r) (.int .i64 t)) := by show Tri _ _ _ _ _; rw [hw2, hg5]; exact alloc_tri w1 _ _ _ _
    rw [← hw2, ← hg5]
    clear hw2 hg5
    refine (writeI_k L a n c T r t sl sa sn sc sT y w2 (Kd.below ((kRow kCopy).read HL1.out) hb12) hcapv (Kd.below HS1.out hb12) HIO.out.1 HIO.out.2).mono ?_
    rintro e w3 ⟨C0, T0, rfl, hv, hT0, _, hb3⟩
    have HL3 : Hid ((kRow kCopy).is true w3 T [.slice a n c] L) := Kd.below (Kd.below HL1.out hb12) hb3
    have HS3 : Hid ((kRow kInt).is false w3 sT [.slice sa sn sc] sl) := Kd.below (Kd.below HS1.out hb12) hb3
    have HT3 : Hid (Tri w3 g5 (.slice a n c) (.int .i64 r) (.int .i64 t)) := HT2.out.below hb3
    have HB3 : Hid (Below w.heap.size w w3) := HB1.out.trans ((hb12.trans (hb3.mono hb12.size)).mono HB1.out.size)
    obtain ⟨V, hF⟩ : ∃ V, V = fWriteText (L, r, t) sl y := ⟨_, rfl⟩
    have HFF : Hid (fWriteText (L, r, t) sl y = V) := hF.symm
    rw [← hF] at hv ⊢
    obtain ⟨⟨L', r', t'⟩, q⟩ := V
    obtain ⟨a', n', c', TX, rfl, hnl', hrow', _, _, _⟩ := vot_open hv
    simp only at hnl' hrow'
    have HNLX : Hid (n' = L'.length) := hnl'
    clear hnl'
    have HX3 : Hid ((kRow kCopy).is true w3 TX [.slice a' n' c'] L') := hrow'
    clear hv hT0 hb3 hb12 HT2 HL1 HS1 HB1 hrow' hF
    simp only
    obtain ⟨D0, D1, D2, _, _, _⟩ := HT3.out
    have hg53 := HT3.out.lt
    go_wp2_with fail
    obtain ⟨w4, hw4⟩ : ∃ W, W = w3.alloc (.cells #[.slice a' n' c', .int .i64 r', .int .i64 t'] 25) := ⟨_, rfl⟩
    obtain ⟨g8, hg8⟩ : ∃ g8, g8 = w3.heap.size := ⟨_, rfl⟩
    have hb34 : Below w3.heap.size w3 w4 := by rw [hw4]; exact below_a1q _ _
    have HT84 : Hid (Tri w4 g8 (.slice a' n' c') (.int .i64 r') (.int .i64 t')) := by show Tri _ _ _ _ _; rw [hw4, hg8]; exact alloc_tri w3 _ _ _ _
    rw [← hw4, ← hg8]
    clear hw4 hg8
    refine (writeSp_k L a n c T r t sl sa sn sc sT y w4 (Kd.below ((kRow kCopy).read HL3.out) hb34) hcapv (Kd.below HS3.out hb34) HIO.out.1 HIO.out.2).mono ?_
    unfold RWriteText
    rw [HFF.out]
    rintro e w5 ⟨C0, T0, rfl, hv, hT0, _, hb5⟩
    obtain ⟨a2, n2, c2, TY, rfl, hnl2, hrow2, _, _, _⟩ := vot_open hv
    simp only at hnl2 hrow2
    have hb35 : Below w3.heap.size w3 w5 := hb34.trans (hb5.mono hb34.size)
    obtain rfl : n' = n2 := by rw [HNLX.out, hnl2]
    have HY5 : Hid ((kRow kCopy).is true w5 TY [.slice a2 n' c2] L') := hrow2
    have HL5 : Hid ((kRow kCopy).is true w5 T [.slice a n c] L) := Kd.below HL3.out hb35
    have HS5 : Hid ((kRow kInt).is false w5 sT [.slice sa sn sc] sl) := Kd.below HS3.out hb35
    have HX5 : Hid ((kRow kCopy).is true w5 TX [.slice a' n' c'] L') := Kd.below HX3.out hb35
    have HT55 : Hid (Tri w5 g5 (.slice a n c) (.int .i64 r) (.int .i64 t)) := HT3.out.below hb35
    have HT85 : Hid (Tri w5 g8 (.slice a' n' c') (.int .i64 r') (.int .i64 t')) := HT84.out.below hb5
    have HB5 : Hid (Below w.heap.size w w5) := HB3.out.trans (hb35.mono HB3.out.size)
    clear hv hT0 hb5 hb34 hb35 HT3 HT84 HL3 HS3 HX3 HB3 hrow2 D0 D1 D2 hg53 hnl2
    simp only
    go_upto_region 6 with fail
    obtain ⟨w6, hw6⟩ : ∃ W, W = w5.alloc (.cells #[.slice a2 n' c2, .int .i64 r', .int .i64 t'] 25) := ⟨_, rfl⟩
    obtain ⟨g10, hg10⟩ : ∃ g10, g10 = w5.heap.size := ⟨_, rfl⟩
    have hb56 : Below w5.heap.size w5 w6 := by rw [hw6]; exact below_a1q _ _
    have HT106 : Hid (Tri w6 g10 (.slice a2 n' c2) (.int .i64 r') (.int .i64 t')) := by show Tri _ _ _ _ _; rw [hw6, hg10]; exact alloc_tri w5 _ _ _ _
    have HY6 : Hid ((kRow kCopy).is false w6 TY [.slice a2 n' c2] L') := Kd.below ((kRow kCopy).read HY5.out) hb56
    have HL6 : Hid ((kRow kCopy).is true w6 T [.slice a n c] L) := Kd.below HL5.out hb56
    have HS6 : Hid ((kRow kInt).is false w6 sT [.slice sa sn sc] sl) := Kd.below HS5.out hb56
    have HX6 : Hid ((kRow kCopy).is true w6 TX [.slice a' n' c'] L') := Kd.below HX5.out hb56
    have HT56 : Hid (Tri w6 g5 (.slice a n c) (.int .i64 r) (.int .i64 t)) := HT55.out.below hb56
    have HT86 : Hid (Tri w6 g8 (.slice a' n' c') (.int .i64 r') (.int .i64 t')) := HT85.out.below hb56
    have HB6 : Hid (Below w.heap.size w w6) := HB5.out.trans (hb56.mono HB5.out.size)
    rw [← hw6, ← hg10]
    clear hw6 hg10 hb56 HY5 HL5 HS5 HX5 HT55 HT85 HB5
    obtain ⟨D0, D1, D2, _, _, _⟩ := HT56.out
    obtain ⟨E0, E1, E2, _, _, _⟩ := HT86.out
    obtain ⟨F0, F1, F2, _, _, _⟩ := HT106.out
    have U0 := fun p => BelowOf.cell D0 p
    have U1 := fun p => BelowOf.cell D1 p
    have U2 := fun p => BelowOf.cell D2 p
    have U3 := fun p => BelowOf.cell E0 p
    have U4 := fun p => BelowOf.cell E1 p
    have U5 := fun p => BelowOf.cell E2 p
    have U6 := fun p => BelowOf.cell F0 p
    have U7 := fun p => BelowOf.cell F1 p
    have U8 := fun p => BelowOf.cell F2 p
    have hne := belowOf_ne w6
    have HC1 : Hid (∀ p : BelowOf w6, Calls Try.prog 16 #[.agg #[.slice a' n' c', .int .i64 r', .int .i64 t'], .agg #[.slice a2 n' c2, .int .i64 r', .int .i64 t']] p.v fun e w' => e = .returned (.bool true) ∧ Below p.v.heap.size p.v w') := fun p => sameVotings_k L' r' t' a' a2 n' c' c2 TX TY p.v (Kd.below ((kRow kCopy).read HX6.out) p.h) (Kd.below HY6.out p.h)
    have HC2 : Hid (∀ p : BelowOf w6, Calls Try.prog 17 #[.agg #[.slice a n c, .int .i64 r, .int .i64 t]] p.v fun e w' => e = .returned (.bool (fGoodVoting (L, r, t))) ∧ Below p.v.heap.size p.v w') := fun p => goodV_k L a n c T r t p.v (Kd.below ((kRow kCopy).read HL6.out) p.h) hcapv
    have HC3 : Hid (∀ p : BelowOf w6, Calls Try.prog 18 #[.agg #[.slice a n c, .int .i64 r, .int .i64 t]] p.v fun e w' => e = .returned (.bool (fGoodVoting (L, r, t))) ∧ Below p.v.heap.size p.v w') := fun p => goodS_k L a n c T r t p.v (Kd.below ((kRow kCopy).read HL6.out) p.h) hcapv
    obtain ⟨gq, hgq⟩ : ∃ gq, gq = fGoodVoting (L, r, t) := ⟨_, rfl⟩
    rw [← hgq] at HC2 HC3
    clear hgq D0 D1 D2 E0 E1 E2 F0 F1 F2
    have hqq : (q != q) = false := by cases q <;> rfl
    have hgg : (gq != gq) = false := by cases gq <;> rfl
    refine region_below (by kernel_rfl) (by kernel_rfl) ?_
    repeat (go_big_quiet_step (first | (go_at_call 16; exact BelowOf.calls (HC1.out _)) | (go_at_call 17; exact BelowOf.calls (HC2.out _)) | (go_at_call 18; exact BelowOf.calls (HC3.out _))))
    refine wpQuiet_nil (belowOf_all ?_)
    intro w66 hb66
    have HL66 : Hid ((kRow kCopy).is true w66 T [.slice a n c] L) := Kd.below HL6.out hb66
    have HS66 : Hid ((kRow kInt).is false w66 sT [.slice sa sn sc] sl) := Kd.below HS6.out hb66
    have HX66 : Hid ((kRow kCopy).is true w66 TX [.slice a' n' c'] L') := Kd.below HX6.out hb66
    have HT566 : Hid (Tri w66 g5 (.slice a n c) (.int .i64 r) (.int .i64 t)) := HT56.out.below hb66
    have HT866 : Hid (Tri w66 g8 (.slice a' n' c') (.int .i64 r') (.int .i64 t')) := HT86.out.below hb66
    have HB66 : Hid (Below w.heap.size w w66) := HB6.out.trans (hb66.mono HB6.out.size)
    clear hb66 U0 U1 U2 U3 U4 U5 U6 U7 U8 hne HC1 HC2 HC3 HL6 HS6 HX6 HT56 HT86 HB6 HY6 HT106
    go_upto_if 83 with fail
    go_cut [] (fun wx => Hid (Below w.heap.size w wx))
    case first =>
      cases q with
      | false =>
        go_wp2_with fail
        go_meet
        case rel => exact HB66
      | true =>
        have hF := HFF.out
        have HL6 := HL66
        have HS6 := HS66
        have HX6 := HX66
        have HT5 := HT566
        have HT8 := HT866
        have HB6 := HB66
        clear HFF HL66 HS66 HX66 HT566 HT866 HB66
        generalize w66 = w6 at *
        obtain ⟨er, et, o, HWR0⟩ := wrote hF
        subst er et
        have HW : Hid (Wrote L L' r' t' sl y o) := HWR0
        obtain ⟨ob0, ob1⟩ := HWR0.ob
        have hn' : n' = n := by rw [HNLX.out, HWR0.len, ← HNL0.out]
        subst hn'
        clear HWR0 hF
        have hcapx := row_cap HX6.out
        have hcapv := row_cap HL6.out
        obtain ⟨D0, D1, D2, _, _, _⟩ := HT5.out
        obtain ⟨E0, E1, E2, _, _, _⟩ := HT8.out
        go_wp2_with fail
        refine (newestI_k L a n' c T r' t' w6 ((kRow kCopy).read HL6.out) hcapv).mono ?_
        unfold RNewestOf
        rw [HW.out.old]
        rintro e w7 ⟨rfl, _, _, hb7⟩
        have HX7 : Hid ((kRow kCopy).is true w7 TX [.slice a' n' c'] L') := Kd.below HX6.out hb7
        have HS7 : Hid ((kRow kInt).is false w7 sT [.slice sa sn sc] sl) := Kd.below HS6.out hb7
        have HT87 : Hid (Tri w7 g8 (.slice a' n' c') (.int .i64 r') (.int .i64 t')) := HT8.out.below hb7
        have HB7 : Hid (Below w.heap.size w w7) := HB6.out.trans (hb7.mono HB6.out.size)
        clear hb7 D0 D1 D2 E0 E1 E2 HT5 HT8 HL6 HX6 HS6 HB6
        obtain ⟨E0, E1, E2, _, _, _⟩ := HT87.out
        go_wp2_with fail
        refine (newestI_k L' a' n' c' TX r' t' w7 ((kRow kCopy).read HX7.out) hcapx).mono ?_
        unfold RNewestOf
        rw [HW.out.now]
        rintro e w8 ⟨rfl, _, _, hb8⟩
        have HX8 : Hid ((kRow kCopy).is true w8 TX [.slice a' n' c'] L') := Kd.below HX7.out hb8
        have HS8 : Hid ((kRow kInt).is false w8 sT [.slice sa sn sc] sl) := Kd.below HS7.out hb8
        have HT88 : Hid (Tri w8 g8 (.slice a' n' c') (.int .i64 r') (.int .i64 t')) := HT87.out.below hb8
        have HB8 : Hid (Below w.heap.size w w8) := HB7.out.trans (hb8.mono HB7.out.size)
        clear hb8 E0 E1 E2 HT87 HX7 HS7 HB7
        obtain ⟨E0, E1, E2, _, _, _⟩ := HT88.out
        have hwt := HW.out.wt
        obtain ⟨nw, hnw⟩ : ∃ nw, nw = newW L' := ⟨_, rfl⟩
        rw [← hnw] at hwt ⊢
        clear hnw
        have kd1 : decide (nw < t') = false := decide_eq_false (by omega)
        go_wp2_with fail
        refine (goodV_k L' a' n' c' TX r' t' w8 ((kRow kCopy).read HX8.out) hcapx).mono ?_
        unfold RGoodVoting
        rw [HW.out.gx]
        rintro e w9 ⟨rfl, hb9⟩
        have HX9 : Hid ((kRow kCopy).is true w9 TX [.slice a' n' c'] L') := Kd.below HX8.out hb9
        have HS9 : Hid ((kRow kInt).is false w9 sT [.slice sa sn sc] sl) := Kd.below HS8.out hb9
        have HT9 : Hid (Tri w9 g8 (.slice a' n' c') (.int .i64 r') (.int .i64 t')) := HT88.out.below hb9
        have HB9 : Hid (Below w.heap.size w w9) := HB8.out.trans (hb9.mono HB8.out.size)
        clear hb9 E0 E1 E2 HT88 HX8 HS8 HB8
        obtain ⟨E0, E1, E2, _, _, _⟩ := HT9.out
        have hg8 := HT9.out.lt
        go_wp2_with fail
        have HN1B : Hid ((kRow kU8).is false w9 (fun _ => True) [.slice a1 n1 c1] x1) := Kd.below H1.out HB9.out
        go_loopw [18, 122] (fun v iv wr => ∃ (k : Nat) (O : List Int), k ≤ n' ∧ iv = .int .i64 k ∧ Hid (OwnL inC 3 1 wr w9.heap.size v O) ∧ Hid (someOk O k = true) ∧ Hid (Below w9.heap.size w9 wr)) (fun _ iv _ => n' - (intOf iv).toNat)
        case atStart => exact ⟨0, [], Nat.zero_le _, rfl, OwnL.nil _ _ _ _ _, rfl, Below.refl _ _⟩
        case round =>
          obtain ⟨k, O, hk, rfl, HO, HSO, HB⟩ := hrel
          have zw := HB.out.size
          by_cases hlt : k < n'
          · have i0 : (k : Int) < (n' : Int) := by omega
            have i1 : (0 : Int) ≤ (k : Int) := by omega
            have HS1 : Hid (someOk O (k + 1) = true) := some_up HSO.out (by omega)
            have HS2 : Hid (someOk (O ++ [(k : Int)]) (k + 1) = true) := some_snoc HSO.out
            have hol : O.length ≤ k := some_len HSO.out
            by_cases hm : k < n1
            · obtain ⟨bz, oz, z, rfl, A0, z0, z1⟩ := rowB_at (Kd.below HN1B.out HB.out) hm
              have i2 : (k : Int) < (n1 : Int) := by omega
              have i3 : ¬ (n1 : Int) ≤ (k : Int) := by omega
              have i4 : decide ((n1 : Int) ≤ (k : Int)) = false := decide_eq_false i3
              by_cases hz : z % 2 = 0
              · have hz1 : z.tmod 2 = 0 := by rw [Int.tmod_eq_emod_of_nonneg z0]; exact hz
                go_wp2_with (at_builtin; go_loud (refine app_int rfl _ _ rfl w9.heap.size _ O rfl (OwnL.below HO.out (below_a1q _ _)) _ (k : Int) rfl (by simp [go_sem]) (by omega) (by simp; omega) ?_))
                intro v3 w3 ho3 hb3 _
                have HO3 : Hid (OwnL inC 3 1 w3 w9.heap.size v3 (O ++ [(k : Int)])) := ho3
                have HB3 : Hid (Below w9.heap.size w9 w3) := HB.out.trans (((below_a1q _ _).mono zw).trans hb3)
                clear ho3 hb3
                go_wp2
                go_roundw
                case rel => exact ⟨k + 1, O ++ [(k : Int)], by omega, by go_num, HO3, HS2, HB3⟩
                case measure => simp [intOf]; omega
              · have hz1 : ¬ z.tmod 2 = 0 := by rw [Int.tmod_eq_emod_of_nonneg z0]; exact hz
                have hz2 : (z % 2 == 0) = false := by simpa using hz
                have hz3 : (z.tmod 2 == 0) = false := by simpa using hz1
                go_wp2
                go_roundw
                case rel => exact ⟨k + 1, O, by omega, by go_num, HO, HS1, HB⟩
                case measure => simp [intOf]; omega
            · have i2 : ¬ (k : Int) < (n1 : Int) := by omega
              have i3 : (n1 : Int) ≤ (k : Int) := by omega
              go_wp2_with (at_builtin; go_loud (refine app_int rfl _ _ rfl w9.heap.size _ O rfl (OwnL.below HO.out (below_a1q _ _)) _ (k : Int) rfl (by simp [go_sem]) (by omega) (by simp; omega) ?_))
              intro v3 w3 ho3 hb3 _
              have HO3 : Hid (OwnL inC 3 1 w3 w9.heap.size v3 (O ++ [(k : Int)])) := ho3
              have HB3 : Hid (Below w9.heap.size w9 w3) := HB.out.trans (((below_a1q _ _).mono zw).trans hb3)
              clear ho3 hb3
              go_wp2
              go_roundw
              case rel => exact ⟨k + 1, O ++ [(k : Int)], by omega, by go_num, HO3, HS2, HB3⟩
              case measure => simp [intOf]; omega
          · obtain rfl : k = n' := by omega
            have i0 : ¬ (k : Int) < (k : Int) := by omega
            obtain ⟨av, cv, hv, hcv⟩ := HO.out.form
            subst hv
            have hol : O.length ≤ k := some_len HSO.out
            have HOR : Hid ((kRow kInt).is false wr (fun q => w9.heap.size ≤ q) [.slice av O.length cv] O) := (kRow kInt).read (own_intK HO.out (by omega) (fun x hx => by
              obtain ⟨i, hi⟩ := List.getElem?_of_mem hx
              have hil := (List.getElem?_eq_some_iff.1 hi).1
              obtain ⟨e1, e2⟩ := some_nat HSO.out hil
              rw [getD_of hi] at e1
              unfold IntOk
              omega))
            obtain ⟨V, rfl⟩ : ∃ V, V = wr := ⟨_, rfl⟩
            have HXV : Hid ((kRow kCopy).is true V TX [.slice a' k c'] L') := Kd.below HX9.out HB.out
            have HSV : Hid ((kRow kInt).is false V sT [.slice sa sn sc] sl) := Kd.below HS9.out HB.out
            have HTV : Hid (Tri V g8 (.slice a' k c') (.int .i64 r') (.int .i64 t')) := HT9.out.below HB.out
            have HBV : Hid (Below w.heap.size w V) := HB9.out.trans (HB.out.mono HB9.out.size)
            have HSOL : Hid (someOk O L.length = true) := by show _ = _; rw [← HNL0.out]; exact HSO.out
            obtain ⟨hwi, ⟨hwb0, hwb1⟩, hrd, hrn⟩ := HW.out.wr O HSOL.out
            have HWI : Hid (fWeightIn (L', r', t') O = (wIn (L', r', t') O, true)) := hwi
            have HRD : Hid (r' ≤ wIn (L', r', t') O → fReadText (L', r', t') O = (y, o + 1, true) ∧ (sl.any fun k => O.contains k) = true) := hrd
            have HRN : Hid (¬ r' ≤ wIn (L', r', t') O → fReadText (L', r', t') O = (⟨#[]⟩, 0, false)) := hrn
            clear HB HX9 HS9 HT9 HB9 HO HSO hwi hrd hrn E0 E1 E2 hcv
            obtain ⟨E0, E1, E2, _, _, _⟩ := HTV.out
            go_wp2_with fail
            refine (weightI_k L' a' k c' TX r' t' O av O.length cv _ V ((kRow kCopy).read HXV.out) hcapx HOR.out).mono ?_
            unfold RWeightIn
            rw [HWI.out]
            rintro e w12 ⟨rfl, _, hb12⟩
            have HX12 : Hid ((kRow kCopy).is true w12 TX [.slice a' k c'] L') := Kd.below HXV.out hb12
            have HS12 : Hid ((kRow kInt).is false w12 sT [.slice sa sn sc] sl) := Kd.below HSV.out hb12
            have HO12 : Hid ((kRow kInt).is false w12 (fun q => w9.heap.size ≤ q) [.slice av O.length cv] O) := Kd.below HOR.out hb12
            have HT12 : Hid (Tri w12 g8 (.slice a' k c') (.int .i64 r') (.int .i64 t')) := HTV.out.below hb12
            have HB12 : Hid (Below w.heap.size w w12) := HBV.out.trans (hb12.mono HBV.out.size)
            clear hb12 E0 E1 E2 HXV HSV HOR HTV HBV HWI
            obtain ⟨E0, E1, E2, _, _, _⟩ := HT12.out
            go_wp2_with fail
            refine (readI_k L' a' k c' TX r' t' O av O.length cv _ w12 ((kRow kCopy).read HX12.out) hcapx HO12.out).mono ?_
            unfold RReadText
            obtain ⟨RT, hRT⟩ : ∃ RT, RT = fReadText (L', r', t') O := ⟨_, rfl⟩
            rw [← hRT] at HRD HRN ⊢
            clear hRT
            obtain ⟨rt, rn, rq⟩ := RT
            rintro e w13 ⟨rfl, _, _, hb13⟩
            have HX13 : Hid ((kRow kCopy).is true w13 TX [.slice a' k c'] L') := Kd.below HX12.out hb13
            have HS13 : Hid ((kRow kInt).is false w13 sT [.slice sa sn sc] sl) := Kd.below HS12.out hb13
            have HO13 : Hid ((kRow kInt).is false w13 (fun q => w9.heap.size ≤ q) [.slice av O.length cv] O) := Kd.below HO12.out hb13
            have HT13 : Hid (Tri w13 g8 (.slice a' k c') (.int .i64 r') (.int .i64 t')) := HT12.out.below hb13
            have HB13 : Hid (Below w.heap.size w w13) := HB12.out.trans (hb13.mono HB12.out.size)
            clear hb13 E0 E1 E2 HX12 HS12 HO12 HT12 HB12
            obtain ⟨E0, E1, E2, _, _, _⟩ := HT13.out
            simp only
            go_wp2_with fail
            go_loopw [25, 164] (fun v iv wr => ∃ j : Nat, j ≤ k ∧ iv = .int .i64 j ∧ Hid (OwnL inC 3 1 wr w13.heap.size v (wts L' j)) ∧ Hid (Below w13.heap.size w13 wr)) (fun _ iv _ => k - (intOf iv).toNat)
            case atStart => exact ⟨0, Nat.zero_le _, rfl, OwnL.nil _ _ _ _ _, Below.refl _ _⟩
            case round =>
              obtain ⟨j, hj, rfl, HOw, HBw⟩ := hrel
              have zw := HBw.out.size
              have hlk : k = L'.length := HNLX.out
              have HLJ : Hid ((wts L' j).length = j) := wts_len (by rw [← hlk]; exact hj)
              by_cases hlt : j < k
              · obtain ⟨b, o', hab, hb, j1, j2, j3, A0, A1, A2⟩ := rowC_at (Kd.below ((kRow kCopy).read HX13.out) HBw.out) hlt
                have HWX : Hid (wts L' (j + 1) = wts L' j ++ [(cp L' j).1]) := wts_next (by rw [← hlk]; exact hlt)
                obtain ⟨d, hd⟩ : ∃ d, d = cp L' j := ⟨_, rfl⟩
                rw [← hd] at A0 A1 A2 j1 j2 j3 HWX
                clear hd hlk
                obtain ⟨d1, d2, d3⟩ := d
                simp only at A0 A1 A2 HWX
                have i3 : (j : Int) < (k : Int) := by omega
                have i4 : (0 : Int) ≤ (j : Int) := by omega
                subst hab
                go_wp2_with (at_builtin; go_loud (refine app_int rfl _ _ rfl w13.heap.size _ (wts L' j) rfl (OwnL.below HOw.out (below_a2q _ _ _)) _ d1 rfl (by simp [go_sem]) (by rw [HLJ.out]; omega) (by simp; omega) ?_))
                intro v3 w3 ho3 hb3 _
                have HO3 : Hid (OwnL inC 3 1 w3 w13.heap.size v3 (wts L' (j + 1))) := by show OwnL _ _ _ _ _ _ _; rw [HWX.out]; exact ho3
                have HB3 : Hid (Below w13.heap.size w13 w3) := HBw.out.trans (((below_a2q _ _ _).mono zw).trans hb3)
                clear ho3 hb3
                go_wp2
                go_roundw
                case rel => exact ⟨j + 1, by omega, by go_num, HO3, HB3⟩
                case measure => simp [intOf]; omega
              · obtain rfl : j = k := by omega
                have i3 : ¬ (j : Int) < (j : Int) := by omega
                obtain ⟨aw, cw, hv, hcw⟩ := HOw.out.form
                subst hv
                rw [HLJ.out] at hcw ⊢
                have HWR : Hid ((kRow kInt).is false wr (fun q => w13.heap.size ≤ q) [.slice aw j cw] (wts L' j)) := (kRow kInt).read (own_intK (by have h := HOw.out; rw [HLJ.out] at h; exact h) (by rw [HLJ.out]; omega) (fun x hx => by
                  unfold wts at hx
                  obtain ⟨z, hz, rfl⟩ := List.mem_map.1 hx
                  exact (row_cpi HX13.out z (List.mem_of_mem_take hz)).1))
                obtain ⟨V, rfl⟩ : ∃ V, V = wr := ⟨_, rfl⟩
                have HSV : Hid ((kRow kInt).is false V sT [.slice sa sn sc] sl) := Kd.below HS13.out HBw.out
                have HOV : Hid ((kRow kInt).is false V (fun q => w9.heap.size ≤ q) [.slice av O.length cv] O) := Kd.below HO13.out HBw.out
                have HTV : Hid (Tri V g8 (.slice a' j c') (.int .i64 r') (.int .i64 t')) := HT13.out.below HBw.out
                have HBV : Hid (Below w.heap.size w V) := HB13.out.trans (HBw.out.mono HB13.out.size)
                have HSS : Hid (someOk sl (wts L' j).length = true) := by show _ = _; rw [HLJ.out, HNL0.out]; exact HW.out.some
                have HSOO : Hid (someOk O (wts L' j).length = true) := by show _ = _; rw [HLJ.out, HNL0.out]; exact HSOL.out
                have hz1 : (kRow kInt).sz sl ≤ 2 ^ 20 := by
                  have h1 : (kRow kInt).sz sl = sl.length + sums kInt.sz sl := rfl
                  have h2 : sums kInt.sz sl = 0 := sums_zero sl
                  have h3 := some_len HW.out.some
                  rw [← HNL0.out] at h3
                  omega
                have hz2 : (kRow kInt).sz O ≤ 2 ^ 20 := by
                  have h1 : (kRow kInt).sz O = O.length + sums kInt.sz O := rfl
                  have h2 : sums kInt.sz O = 0 := sums_zero O
                  omega
                have hz3 : (kRow kInt).sz (wts L' j) ≤ 2 ^ 20 := by
                  have h1 : (kRow kInt).sz (wts L' j) = (wts L' j).length + sums kInt.sz (wts L' j) := rfl
                  have h2 : sums kInt.sz (wts L' j) = 0 := sums_zero _
                  rw [HLJ.out] at h1
                  omega
                have HAM : Hid (fAlwaysMeet sl O (wts L' j) = (sl.any fun k => O.contains k, true)) := meet_yes ⟨by rw [HLJ.out]; omega, HSS.out, HSOO.out⟩
                have HMQ : Hid (r' ≤ wIn (L', r', t') O → (sl.any fun k => O.contains k) = true) := fun h => (HRD.out h).2
                have HZZ : Hid ((kRow kInt).sz sl ≤ 2 ^ 20 ∧ (kRow kInt).sz O ≤ 2 ^ 20 ∧ (kRow kInt).sz (wts L' j) ≤ 2 ^ 20) := ⟨hz1, hz2, hz3⟩
                clear HX13 HS13 HO13 HT13 HB13 HBw HOw E0 E1 E2 hz1 hz2 hz3 hlk hcw
                obtain ⟨E0, E1, E2, _, _, _⟩ := HTV.out
                go_wp2_with fail
                refine (implAlwaysMeet_k sl sa sn sc sT O av O.length cv _ (wts L' j) aw j cw _ V HSV.out HZZ.out.1 HOV.out HZZ.out.2.1 HWR.out HZZ.out.2.2).mono ?_
                unfold RAlwaysMeet
                rw [HAM.out]
                rintro e w14 ⟨rfl, hb14⟩
                have HB14 : Hid (Below w.heap.size w w14) := HBV.out.trans (hb14.mono HBV.out.size)
                have HT14 : Hid (Tri w14 g8 (.slice a' j c') (.int .i64 r') (.int .i64 t')) := HTV.out.below hb14
                clear hb14 E0 E1 E2 HSV HOV HTV HBV HWR HAM
                obtain ⟨E0, E1, E2, _, _, _⟩ := HT14.out
                simp only
                obtain ⟨mq, hmq⟩ : ∃ mq, mq = (sl.any fun k => O.contains k) := ⟨_, rfl⟩
                rw [← hmq] at HMQ ⊢
                clear hmq
                by_cases hrw : r' ≤ wIn (L', r', t') O
                · obtain ⟨e1, _⟩ := HRD.out hrw
                  have e2 := HMQ.out hrw
                  simp only [Prod.mk.injEq] at e1
                  obtain ⟨rfl, rfl, rfl⟩ := e1
                  subst e2
                  have kd2 : decide (r' ≤ wIn (L', r', t') O) = true := decide_eq_true hrw
                  have kt : (rt.toList == rt.toList) = true := by simp
                  go_wp2_with fail
                  go_meet
                  case rel => exact HB14
                · have e1 := HRN.out (by omega)
                  simp only [Prod.mk.injEq] at e1
                  obtain ⟨rfl, rfl, rfl⟩ := e1
                  have kd2 : decide (r' ≤ wIn (L', r', t') O) = false := decide_eq_false hrw
                  go_wp2_with fail
                  go_meet
                  case rel => exact HB14
    case rest =>
      have HBC : Hid (Below w.heap.size w wc) := hcut
      clear HFF HL66 HS66 HX66 HT566 HT866 HB66 HNL0 HNLX HIO HY hqq hgg hcapv hn1 hn7
      go_wp2_with fail
      refine (drawReadText_k wc x1 a1 n1 c1 (Kd.below H1.out HBC.out) hm1).mono ?_
      rintro e w1 ⟨a, n, c, r, t, L, T, ua, un, uc, uT, ul, rfl, hrow, hT, hio, ⟨hn1, hn7⟩, hs, hsT, hb⟩
      have HL1 : Hid ((kRow kCopy).is true w1 T [.slice a n c] L) := hrow
      have HS1 : Hid ((kRow kInt).is false w1 uT [.slice ua un uc] ul) := (kRow kInt).read hs
      have HB1 : Hid (Below w.heap.size w w1) := HBC.out.trans (hb.mono HBC.out.size)
      have hcapv := row_cap hrow
      clear hrow hT hio hs hsT hb HBC
      go_wp2_with fail
      obtain ⟨w2, hw2⟩ : ∃ W, W = w1.alloc (.cells #[.slice a n c, .int .i64 r, .int .i64 t] 25) := ⟨_, rfl⟩
      obtain ⟨g30, hg30⟩ : ∃ g, g = w1.heap.size := ⟨_, rfl⟩
      have hb12 : Below w1.heap.size w1 w2 := by rw [hw2]; exact below_a1q _ _
      have HT2 : Hid (Tri w2 g30 (.slice a n c) (.int .i64 r) (.int .i64 t)) := by show Tri _ _ _ _ _; rw [hw2, hg30]; exact alloc_tri w1 _ _ _ _
      have HL2 : Hid ((kRow kCopy).is true w2 T [.slice a n c] L) := Kd.below HL1.out hb12
      have HS2 : Hid ((kRow kInt).is false w2 uT [.slice ua un uc] ul) := Kd.below HS1.out hb12
      have HB2 : Hid (Below w.heap.size w w2) := HB1.out.trans (hb12.mono HB1.out.size)
      rw [← hw2, ← hg30]
      clear hw2 hg30 hb12 HL1 HS1 HB1
      refine (readI_k L a n c T r t ul ua un uc uT w2 ((kRow kCopy).read HL2.out) hcapv HS2.out).mono ?_
      unfold RReadText
      have HSD : Hid ((fReadText (L, r, t) ul = (⟨#[]⟩, 0, false)) ∨ ∃ (x : ByteArray) (o : Int), fReadText (L, r, t) ul = (x, o, true) ∧ fNewestOf (L, r, t) = (o, newW L, true)) := read_said L r t ul
      obtain ⟨RT, hRT⟩ : ∃ RT, RT = fReadText (L, r, t) ul := ⟨_, rfl⟩
      have HRT : Hid (fReadText (L, r, t) ul = RT) := hRT.symm
      rw [← hRT] at HSD ⊢
      clear hRT
      rintro e w3 ⟨rfl, _, _, hb3⟩
      have HL3 : Hid ((kRow kCopy).is true w3 T [.slice a n c] L) := Kd.below HL2.out hb3
      have HS3 : Hid ((kRow kInt).is false w3 uT [.slice ua un uc] ul) := Kd.below HS2.out hb3
      have HT3 : Hid (Tri w3 g30 (.slice a n c) (.int .i64 r) (.int .i64 t)) := HT2.out.below hb3
      have HB3 : Hid (Below w.heap.size w w3) := HB2.out.trans (hb3.mono HB2.out.size)
      clear hb3 HL2 HS2 HT2 HB2
      obtain ⟨D0, D1, D2, _, _, _⟩ := HT3.out
      obtain ⟨rt, rn, rq⟩ := RT
      simp only
      go_wp2_with fail
      refine (readSp_k L a n c T r t ul ua un uc uT w3 ((kRow kCopy).read HL3.out) hcapv HS3.out).mono ?_
      unfold RReadText
      rw [HRT.out]
      rintro e w4 ⟨rfl, _, _, hb4⟩
      have HL4 : Hid ((kRow kCopy).is true w4 T [.slice a n c] L) := Kd.below HL3.out hb4
      have HT4 : Hid (Tri w4 g30 (.slice a n c) (.int .i64 r) (.int .i64 t)) := HT3.out.below hb4
      have HB4 : Hid (Below w.heap.size w w4) := HB3.out.trans (hb4.mono HB3.out.size)
      clear hb4 HL3 HS3 HT3 HB3 D0 D1 D2 HRT
      obtain ⟨D0, D1, D2, _, _, _⟩ := HT4.out
      have kt : (rt.toList == rt.toList) = true := by simp
      simp only
      rcases HSD.out with h | ⟨x, o, h, hnw⟩
      · simp only [Prod.mk.injEq] at h
        obtain ⟨rfl, rfl, rfl⟩ := h
        go_wp2
        go_ret
        exact ⟨rfl, HB4.out⟩
      · simp only [Prod.mk.injEq] at h
        obtain ⟨rfl, rfl, rfl⟩ := h
        have HNW : Hid (fNewestOf (L, r, t) = (rn, newW L, true)) := hnw
        clear hnw HSD
        go_wp2_with fail
        refine (newestI_k L a n c T r t w4 ((kRow kCopy).read HL4.out) hcapv).mono ?_
        unfold RNewestOf
        rw [HNW.out]
        rintro e w5 ⟨rfl, _, _, hb5⟩
        have HB5 : Hid (Below w.heap.size w w5) := HB4.out.trans (hb5.mono HB4.out.size)
        go_wp2
        go_ret
        exact ⟨rfl, HB5.out⟩
end Go.Proofs.Ytbkdkiodkcpbeaa
