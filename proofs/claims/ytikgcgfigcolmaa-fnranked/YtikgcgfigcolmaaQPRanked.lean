/- FnRanked answers true at all bytes: texts are ranked as the specification ranks them, by what their words score together. No condition. What came in, opened as data of a kind. No condition. FnRanked: for all arguments the law answers true and its arguments read as they did. No condition. -/
import Derived.Test.YtikgcgfigcolmaaQLoS
import Derived.Test.YtikgcgfigcolmaaQTbS
import Derived.Test.YtikgcgfigcolmaaKd
import Derived.Test.YtikgcgfigcolmaaRows
import Derived.Test.YtikgcgfigcolmaaChecked
import Derived.ProofKit
import Derived.OpenShut
import Derived.Deep.DeepHandedRow
import Derived.Deep.Slices
import Derived.Lib.SmallJoins
namespace Go.Proofs.Ytikgcgfigcolmaa
open Go.RowKit
set_option linter.unusedVariables false

theorem rks_ids {x : DWords} {ws : List ByteArray} (h : fGoodWords x = true) {i : Int} (hi : i ∈ idsAll (rksOf x ws)) : 0 ≤ i ∧ i ≤ x.1 - 1 := by
  obtain ⟨t, es⟩ := x
  obtain ⟨h0, h40⟩ := good_texts h
  obtain ⟨r, hr, s, hs, rfl⟩ := idsAll_mem.1 hi
  unfold rksOf at hr
  obtain ⟨wd, _, rfl⟩ := List.mem_map.1 hr
  have hp := good_post h wd
  have hm := (rkOf_perm hp).mem_iff.1 hs
  have := (scOf_ok hp h0 h40 s hm).2
  show 0 ≤ s.1 ∧ s.1 ≤ t - 1
  omega
/-- What the law asks of ranked texts. -/
structure RankOk (x : DWords) (ws : List ByteArray) (k : Int) (A : List DScored) : Prop where
  good : fGoodWords x = true
  dist : fDistinct ws = true
  few : 0 ≤ k ∧ k ≤ 60
  is : A = (allD (rksOf x ws)).take k.toNat
theorem rank_ok {x : DWords} {ws : List ByteArray} {k : Int} (h : (fRankTexts x ws k).2 = true) : RankOk x ws k (fRankTexts x ws k).1 := by
  unfold fRankTexts at h ⊢
  split
  · rename_i h'
    simp only [Bool.and_eq_true, decide_eq_true_eq] at h'
    exact ⟨h'.1.1, h'.1.2, h'.2, rfl⟩
  · rename_i h'
    rw [if_neg h'] at h
    cases h
theorem rank_no {x : DWords} {ws : List ByteArray} {k : Int} (h : (fRankTexts x ws k).2 = false) : (fRankTexts x ws k).1 = [] := by
  unfold fRankTexts at h ⊢
  split
  · rename_i h'
    rw [if_pos h'] at h
    cases h
  · rfl
theorem RankOk.lists {x : DWords} {ws : List ByteArray} {k : Int} {A : List DScored} (h : RankOk x ws k A) : fRankingsFor x ws = (rksOf x ws, true) := by
  unfold fRankingsFor
  rw [h.good, h.dist]
  rfl
theorem RankOk.top {x : DWords} {ws : List ByteArray} {k : Int} {A : List DScored} (h : RankOk x ws k A) : (fTopBest (rksOf x ws) k).1 = A ∧ (fTopBest (rksOf x ws) k).2.2 = true := by
  obtain ⟨h1, h2⟩ := top_all (rksOf x ws) k
  have e : fAllBest (rksOf x ws) k = (A, true) := by
    unfold fAllBest
    rw [rks_good h.good h.dist, decide_eq_true h.few, h.is]
    rfl
  rw [h1, h2, e]
  exact ⟨rfl, rfl⟩
theorem RankOk.score {x : DWords} {ws : List ByteArray} {k : Int} {A : List DScored} (h : RankOk x ws k A) {s : DScored} (hs : s ∈ A) : fScoreOf x ws s.1 = (s.2, true) := by
  rw [h.is] at hs
  obtain ⟨h1, h2⟩ := best_in hs
  unfold fScoreOf
  rw [h.good, h.dist, decide_eq_true (rks_ids h.good h2), h1]
  rfl
theorem RankOk.len {x : DWords} {ws : List ByteArray} {k : Int} {A : List DScored} (h : RankOk x ws k A) : A.length ≤ 60 := by
  rw [h.is, List.length_take]
  have := h.few
  omega
theorem rks_small {x : DWords} {ws : List ByteArray} (h : fGoodWords x = true) (h2 : fDistinct ws = true) : (kRow kRanking).sz (rksOf x ws) ≤ 2 ^ 20 := by
  have hg := rks_good h h2
  obtain ⟨h5, h60⟩ := good_len hg
  have h1 : ∀ r : DRanking, kRanking.sz r = r.length := fun r => by
    show r.length + sums kScored.sz r = r.length
    have : sums kScored.sz r = 0 := sums_zero r
    omega
  have key : ∀ l : List DRanking, (∀ r ∈ l, r.length ≤ 60) → sums kRanking.sz l ≤ 60 * l.length := by
    intro l
    induction l with
    | nil => intro _; simp [sums]
    | cons r t ih =>
      intro hr
      have h2 := hr r (by simp)
      have h3 := ih fun q hq => hr q (by simp [hq])
      have h4 := h1 r
      simp only [sums, List.length_cons]
      omega
  have h3 := key _ h60
  show (rksOf x ws).length + sums kRanking.sz (rksOf x ws) ≤ _
  omega

set_option maxRecDepth 100000 in
set_option maxHeartbeats 8000000 in
theorem lawRanked_k (x0 : List Int) (a0 : Option Addr) (n0 c0 : Nat) (w : World) (h0 : (kRow kU8).is false w (fun _ => True) [.slice a0 n0 c0] x0) :
    Calls Try.prog 5 #[.slice a0 n0 c0] w fun e w' => e = .returned (.bool true) ∧ Below w.heap.size w w' := by
  have m0 : n0 ≤ 9223372036854775807 := by obtain ⟨_, _, _, h, _⟩ := row_form h0; rw [row_len h0]; exact h
  have H0 : Hid ((kRow kU8).is false w (fun _ => True) [.slice a0 n0 c0] x0) := h0
  clear h0
  by_cases hbig : (1048576 : Int) < (n0 : Int)
  · go_enter Try.func5, Try.ntmps5
    go_wp2
    go_ret
    exact ⟨rfl, Below.refl _ _⟩
  go_enter Try.func5, Try.ntmps5
  go_wp2_with fail
  refine (drawRankTexts_k w x0 a0 n0 c0 H0.out m0).mono ?_
  rintro e w1 ⟨wa, wn, wc, T, t, es, sa, sn, sc, T2, ws, k, rfl, hw, hs, hz, hN, ⟨k0, k1⟩, hb⟩
  have HW1 : Hid (kWords.is true w1 T [.int .i64 t, .slice wa wn wc] (t, es)) := hw
  have HS1 : Hid ((kRow kStr).is true w1 T2 [.slice sa sn sc] ws) := hs
  have HZ : Hid (kWords.sz (t, es) ≤ 2 ^ 20) := hz
  have HZ2 : Hid ((kRow kStr).sz ws ≤ 2 ^ 20) := ws_sz hN
  have HKK : Hid (IntOk k) := by show IntOk k; unfold IntOk; omega
  have HB1 : Hid (Below w.heap.size w w1) := hb
  obtain ⟨A, hA⟩ : ∃ A, A = (fRankTexts (t, es) ws k).1 := ⟨_, rfl⟩
  obtain ⟨ok, hok⟩ : ∃ ok, ok = (fRankTexts (t, es) ws k).2 := ⟨_, rfl⟩
  obtain ⟨R, hR⟩ : ∃ R, R = (fRankingsFor (t, es) ws).1 := ⟨_, rfl⟩
  obtain ⟨rk, hrk⟩ : ∃ rk, rk = (fRankingsFor (t, es) ws).2 := ⟨_, rfl⟩
  have HT1 : Hid (A = (fRankTexts (t, es) ws k).1 ∧ ok = (fRankTexts (t, es) ws k).2 ∧ R = (fRankingsFor (t, es) ws).1 ∧ rk = (fRankingsFor (t, es) ws).2) := ⟨hA, hok, hR, hrk⟩
  have HNO : Hid (ok = false → A = []) := fun h => by rw [hA]; exact rank_no (by rw [← hok]; exact h)
  have HYES : Hid (ok = true → RankOk (t, es) ws k A) := fun h => by rw [hA]; exact rank_ok (by rw [← hok]; exact h)
  obtain ⟨W1, hW1⟩ : ∃ W1, W1 = w1.alloc (.cells #[.int .i64 t, .slice wa wn wc] 27) := ⟨_, rfl⟩
  have hbW : Below w1.heap.size w1 W1 := by rw [hW1]; exact below_a1' _ _
  obtain ⟨wb, hwb⟩ : ∃ wb, wb = w1.heap.size := ⟨_, rfl⟩
  have C0 : W1.cell? ⟨wb, 0, none⟩ = some (.int .i64 t) := by rw [hW1, hwb]; simp [go_sem]
  have C1 : W1.cell? ⟨wb, 1, none⟩ = some (.slice wa wn wc) := by rw [hW1, hwb]; simp [go_sem]
  have HWW : Hid (kWords.is true W1 T [.int .i64 t, .slice wa wn wc] (t, es)) := Kd.below hw hbW
  have HSW : Hid ((kRow kStr).is true W1 T2 [.slice sa sn sc] ws) := Kd.below hs hbW
  have HBW : Hid (Below w.heap.size w W1) := hb.trans (hbW.mono hb.size)
  clear hw hs hz hN hb hA hok hR hrk hbW HW1 HS1 HB1
  go_upto_region 4 with fail
  rw [← hW1, ← hwb]
  clear hW1 hwb
  go_wp2_with fail
  refine (implRankTexts_k (t, es) [.int .i64 t, .slice wa wn wc] T ws sa sn sc T2 k W1 HWW.out HZ.out HSW.out HZ2.out HKK.out).mono ?_
  rintro e w2 ⟨la, ln, lc, P, rfl, hp, _, _, hb⟩
  rw [← HT1.out.1] at hp
  rw [← HT1.out.2.1]
  have HLN : Hid (ln = A.length) := row_len hp
  have HP2 : Hid ((kRow kScored).is true w2 P [.slice la ln lc] A) := hp
  have D0 := cell_later hb C0
  have D1 := cell_later hb C1
  have HB2 : Hid (Below W1.heap.size W1 w2) := hb
  clear hp hb C0 C1
  go_wp2_with fail
  refine (specRankTexts_k (t, es) [.int .i64 t, .slice wa wn wc] T ws sa sn sc T2 k w2 (Kd.below HWW.out HB2.out) HZ.out (Kd.below HSW.out HB2.out) HZ2.out HKK.out).mono ?_
  rintro e w3 ⟨qa, qn, qc, Q, rfl, hq, _, _, hb⟩
  rw [← HT1.out.1] at hq
  rw [← HT1.out.2.1]
  obtain rfl : qn = ln := by rw [HLN.out]; exact row_len hq
  have HQ3 : Hid ((kRow kScored).is true w3 Q [.slice qa qn qc] A) := hq
  have HP3 : Hid ((kRow kScored).is true w3 P [.slice la qn lc] A) := Kd.below HP2.out hb
  have E0 := cell_later hb D0
  have E1 := cell_later hb D1
  have HB3 : Hid (Below W1.heap.size W1 w3) := HB2.out.trans (hb.mono HB2.out.size)
  clear hq hb D0 D1 HB2 HP2
  go_wp2_with fail
  refine (implRankingsFor_k (t, es) [.int .i64 t, .slice wa wn wc] T ws sa sn sc T2 w3 (Kd.below HWW.out HB3.out) HZ.out (Kd.below HSW.out HB3.out) HZ2.out).mono ?_
  rintro e w4 ⟨ra, rn, rc, U, rfl, hu, _, _, hb⟩
  rw [← HT1.out.2.2.1] at hu
  rw [← HT1.out.2.2.2]
  have HRN : Hid (rn = R.length) := row_len hu
  have HU4 : Hid ((kRow kRanking).is true w4 U [.slice ra rn rc] R) := hu
  have HQ4 : Hid ((kRow kScored).is true w4 Q [.slice qa qn qc] A) := Kd.below HQ3.out hb
  have HP4 : Hid ((kRow kScored).is true w4 P [.slice la qn lc] A) := Kd.below HP3.out hb
  have F0 := cell_later hb E0
  have F1 := cell_later hb E1
  have HB4 : Hid (Below W1.heap.size W1 w4) := HB3.out.trans (hb.mono HB3.out.size)
  clear hu hb E0 E1 HB3 HP3 HQ3
  go_wp2_with fail
  refine (specRankingsFor_k (t, es) [.int .i64 t, .slice wa wn wc] T ws sa sn sc T2 w4 (Kd.below HWW.out HB4.out) HZ.out (Kd.below HSW.out HB4.out) HZ2.out).mono ?_
  rintro e w5 ⟨va, vn, vc, V, rfl, hv, _, _, hb⟩
  rw [← HT1.out.2.2.1] at hv
  rw [← HT1.out.2.2.2]
  obtain rfl : vn = rn := by rw [HRN.out]; exact row_len hv
  have HV5 : Hid ((kRow kRanking).is true w5 V [.slice va vn vc] R) := hv
  have HU5 : Hid ((kRow kRanking).is true w5 U [.slice ra vn rc] R) := Kd.below HU4.out hb
  have HQ5 : Hid ((kRow kScored).is true w5 Q [.slice qa qn qc] A) := Kd.below HQ4.out hb
  have HP5 : Hid ((kRow kScored).is true w5 P [.slice la qn lc] A) := Kd.below HP4.out hb
  have G0 := cell_later hb F0
  have G1 := cell_later hb F1
  have HB5 : Hid (Below W1.heap.size W1 w5) := HB4.out.trans (hb.mono HB4.out.size)
  clear hv hb F0 F1 HB4 HP4 HQ4 HU4
  go_wp2_with fail
  refine (sameScored_k A la qa _ lc qc P Q w5 (Kd.read _ HP5.out) (Kd.read _ HQ5.out)).mono ?_
  rintro e w6 ⟨rfl, hb⟩
  have HV6 : Hid ((kRow kRanking).is true w6 V [.slice va vn vc] R) := Kd.below HV5.out hb
  have HU6 : Hid ((kRow kRanking).is true w6 U [.slice ra vn rc] R) := Kd.below HU5.out hb
  have HP6 : Hid ((kRow kScored).is true w6 P [.slice la qn lc] A) := Kd.below HP5.out hb
  have I0 := cell_later hb G0
  have I1 := cell_later hb G1
  have HB6 : Hid (Below W1.heap.size W1 w6) := HB5.out.trans (hb.mono HB5.out.size)
  have hmx : vn ≤ 9223372036854775807 := by obtain ⟨_, _, _, h, _⟩ := row_form HV6.out; rw [HRN.out]; exact h
  clear hb G0 G1 HB5 HP5 HQ5 HU5 HV5
  go_wp2_with fail
  go_loopw [82] (fun iv wr => ∃ (i : Nat), i ≤ vn ∧ iv = .int .i64 i ∧ Below w6.heap.size w6 wr) (fun iv _ => vn - (intOf iv).toNat)
  case atStart => exact ⟨0, Nat.zero_le _, rfl, Below.refl _ _⟩
  case round =>
    obtain ⟨i, hi, rfl, hnx⟩ := hrel
    by_cases hlt : i < vn
    · obtain ⟨x, hx⟩ : ∃ x, R[i]? = some x := ⟨_, List.getElem?_eq_getElem (by rw [← HRN.out]; exact hlt)⟩
      obtain ⟨b, off, B, C, rfl, hb, _, hi', _, hc⟩ := row_at (Kd.below HU6.out hnx) hx
      obtain ⟨l1, lc1, T1, rfl, hm1, hl1, _⟩ := kRanking_open hi'
      obtain ⟨b', off', B', C', rfl, hb', _, hi2, _, hc'⟩ := row_at (Kd.below HV6.out hnx) hx
      obtain ⟨l2, lc2, T3, rfl, hm2, hl2, _⟩ := kRanking_open hi2
      obtain ⟨ml, hml⟩ : ∃ ml, ml = x.length := ⟨_, rfl⟩
      have A0 : wr.cell? ⟨b, off + i, none⟩ = some (.slice l1 ml lc1) := by rw [hml]; exact cell1 (hc 0 _ rfl).1
      have A1 : wr.cell? ⟨b', off' + i, none⟩ = some (.slice l2 ml lc2) := by rw [hml]; exact cell1 (hc' 0 _ rfl).1
      have i0 : (0 : Int) ≤ (i : Int) := by omega
      have i1 : (i : Int) < (vn : Int) := by omega
      rw [← hml] at hl1 hl2
      have HSC : Hid (∀ w', Below wr.heap.size wr w' → Calls Try.prog 27 #[.slice l1 ml lc1, .slice l2 ml lc2] w' fun e w'' => e = .returned (.bool true) ∧ Below w'.heap.size w' w'') := fun w' hw' => sameScored_k x l1 l2 ml lc1 lc2 T1 T3 w' (Kd.below (Kd.read _ hl1) hw') (Kd.below (Kd.read _ hl2) hw')
      have hne := belowOf_ne wr
      have V0 : ∀ q : BelowOf wr, q.v.cell? ⟨b, off + i, none⟩ = some (.slice l1 ml lc1) := BelowOf.cell A0
      have V1 : ∀ q : BelowOf wr, q.v.cell? ⟨b', off' + i, none⟩ = some (.slice l2 ml lc2) := BelowOf.cell A1
      have HBR : Hid (Below w6.heap.size w6 wr) := hnx
      clear hc hc' hi' hi2 hx hl1 hl2 hm1 hm2 hml hnx
      go_wp2_with fail
      refine region_below (by kernel_rfl) (by kernel_rfl) ?_
      repeat (go_big_quiet_step (first | (go_at_call 27; exact BelowOf.calls (HSC.out _ (BelowOf.h _)))))
      refine wpQuiet_nil (belowOf_all ?_)
      intro w7 hb7
      have HB7 : Hid (Below w6.heap.size w6 w7) := HBR.out.trans (hb7.mono HBR.out.size)
      clear hb7 V0 V1 hne
      go_wp2
      go_roundw
      case rel => exact ⟨i + 1, by omega, by go_num, HB7.out⟩
      case measure => simp [intOf]; omega
    · have i1 : ¬ (i : Int) < (vn : Int) := by omega
      obtain ⟨w8, hw8⟩ : ∃ w8, w8 = wr := ⟨_, rfl⟩
      subst hw8
      have HU8 : Hid ((kRow kRanking).is true w8 U [.slice ra vn rc] R) := Kd.below HU6.out hnx
      have HP8 : Hid ((kRow kScored).is true w8 P [.slice la qn lc] A) := Kd.below HP6.out hnx
      have J0 := cell_later hnx I0
      have J1 := cell_later hnx I1
      have HB8 : Hid (Below W1.heap.size W1 w8) := HB6.out.trans (hnx.mono HB6.out.size)
      have HBF : Hid (Below w.heap.size w w8) := HBW.out.trans (HB8.out.mono HBW.out.size)
      clear hnx HU6 HP6 HV6 HB6 I0 I1
      cases ok
      · have h0 : qn = 0 := by rw [HLN.out, HNO.out rfl]; rfl
        subst h0
        go_wp2
        go_ret
        exact ⟨rfl, HBF.out⟩
      have HRO : Hid (RankOk (t, es) ws k A) := HYES.out rfl
      have hRR : R = rksOf (t, es) ws := by rw [HT1.out.2.2.1, HRO.out.lists]
      have HTOP : Hid ((fTopBest R k).1 = A ∧ (fTopBest R k).2.2 = true) := by show _ ∧ _; rw [hRR]; exact HRO.out.top
      have HZR : Hid ((kRow kRanking).sz R ≤ 2 ^ 20) := by show _ ≤ _; rw [hRR]; exact rks_small HRO.out.good HRO.out.dist
      have HGR : Hid (fGoodRankings R = true) := by show _ = _; rw [hRR]; exact rks_good HRO.out.good HRO.out.dist
      have hqn : qn ≤ 60 := by rw [HLN.out]; exact HRO.out.len
      clear hRR HYES HNO HT1
      go_wp2_with fail
      refine (implTopBest_k R ra vn rc U k w8 HU8.out HZR.out HKK.out).mono ?_
      rintro e w9 ⟨ta, tn, tc, Y, rfl, hy, _, _, _, hb⟩
      rw [HTOP.out.1] at hy
      rw [HTOP.out.2]
      obtain rfl : tn = qn := by rw [HLN.out]; exact row_len hy
      have HY9 : Hid ((kRow kScored).is true w9 Y [.slice ta tn tc] A) := hy
      have HU9 : Hid ((kRow kRanking).is true w9 U [.slice ra vn rc] R) := Kd.below HU8.out hb
      have HP9 : Hid ((kRow kScored).is true w9 P [.slice la tn lc] A) := Kd.below HP8.out hb
      have M0 := cell_later hb J0
      have M1 := cell_later hb J1
      have HB9 : Hid (Below W1.heap.size W1 w9) := HB8.out.trans (hb.mono HB8.out.size)
      generalize (fTopBest R k).2.1 = dp at *
      clear hy hb J0 J1 HB8 HBF HU8 HP8 HTOP
      go_wp2_with fail
      refine (sameScored_k A ta la _ tc lc Y P w9 (Kd.read _ HY9.out) (Kd.read _ HP9.out)).mono ?_
      rintro e w10 ⟨rfl, hb⟩
      have HU10 : Hid ((kRow kRanking).is true w10 U [.slice ra vn rc] R) := Kd.below HU9.out hb
      have HP10 : Hid ((kRow kScored).is true w10 P [.slice la tn lc] A) := Kd.below HP9.out hb
      have N0 := cell_later hb M0
      have N1 := cell_later hb M1
      have HB10 : Hid (Below W1.heap.size W1 w10) := HB9.out.trans (hb.mono HB9.out.size)
      clear hb M0 M1 HB9 HU9 HP9 HY9
      go_wp2_with fail
      refine (implGoodRankings_k R ra vn rc U w10 HU10.out HZR.out).mono ?_
      rintro e w11 ⟨rfl, hb⟩
      rw [HGR.out]
      have HP11 : Hid ((kRow kScored).is true w11 P [.slice la tn lc] A) := Kd.below HP10.out hb
      have O0 := cell_later hb N0
      have O1 := cell_later hb N1
      have HB11 : Hid (Below W1.heap.size W1 w11) := HB10.out.trans (hb.mono HB10.out.size)
      clear hb N0 N1 HB10 HU10 HP10
      go_wp2_with fail
      go_loopw [125] (fun jv wr => ∃ (j : Nat), j ≤ tn ∧ jv = .int .i64 j ∧ Below w11.heap.size w11 wr) (fun jv _ => tn - (intOf jv).toNat)
      case atStart => exact ⟨0, Nat.zero_le _, rfl, Below.refl _ _⟩
      case round =>
        obtain ⟨j, hj, rfl, hnx⟩ := hrel
        by_cases hjl : j < tn
        · obtain ⟨⟨id, sco⟩, hx⟩ : ∃ x, A[j]? = some x := ⟨_, List.getElem?_eq_getElem (by rw [← HLN.out]; exact hjl)⟩
          obtain ⟨b, off, B, C, rfl, hb, _, hi', _, hc⟩ := row_at (Kd.below HP11.out hnx) hx
          obtain ⟨rfl, g0, g1⟩ := kScored_open hi'
          have A0 : wr.cell? ⟨b, off + j * 2, none⟩ = some (.int .i64 id) := (hc 0 _ rfl).1
          have A1 : wr.cell? ⟨b, off + j * 2 + 1, none⟩ = some (.int .i64 sco) := (hc 1 _ rfl).1
          have j0 : (0 : Int) ≤ (j : Int) := by omega
          have j1 : (j : Int) < (tn : Int) := by omega
          have HSO : Hid (fScoreOf (t, es) ws id = (sco, true)) := HRO.out.score (s := (id, sco)) (List.mem_of_getElem? hx)
          have HID : Hid (IntOk id) := g0
          have B0 := cell_later hnx O0
          have B1 := cell_later hnx O1
          have HBR : Hid (Below w11.heap.size w11 wr) := hnx
          have zwb : wb < wr.heap.size := World.block_lt_of_cell? _ _ B0
          obtain ⟨W2, hW2⟩ : ∃ W2, W2 = wr.alloc (.cells #[.int .i64 id, .int .i64 sco] 60) := ⟨_, rfl⟩
          have hbw2 : Below wr.heap.size wr W2 := by rw [hW2]; exact below_a1r _ _
          obtain ⟨sb, hsb⟩ : ∃ sb, sb = wr.heap.size := ⟨_, rfl⟩
          have Z0 : W2.cell? ⟨sb, 0, none⟩ = some (.int .i64 id) := by rw [hW2, hsb]; simp [go_sem]
          have Z1 : W2.cell? ⟨sb, 1, none⟩ = some (.int .i64 sco) := by rw [hW2, hsb]; simp [go_sem]
          have Y0 := cell_later hbw2 B0
          have Y1 := cell_later hbw2 B1
          have HBQ : Hid (Below w11.heap.size w11 W2) := hnx.trans (hbw2.mono hnx.size)
          clear hc hi' hx g0 g1 hnx hbw2
          go_upto_region 24 with fail
          rw [← hW2, ← hsb]
          clear hW2 hsb B0 B1
          go_wp2_with fail
          refine (implScoreOf_k (t, es) [.int .i64 t, .slice wa wn wc] T ws sa sn sc T2 id W2 (Kd.below HWW.out (HB11.out.trans (HBQ.out.mono HB11.out.size))) HZ.out (Kd.below HSW.out (HB11.out.trans (HBQ.out.mono HB11.out.size))) HZ2.out HID.out).mono ?_
          rintro e w12 ⟨rfl, _, hb⟩
          rw [HSO.out]
          have Q0 := cell_later hb Y0
          have Q1 := cell_later hb Y1
          have X0 := cell_later hb Z0
          have X1 := cell_later hb Z1
          have HB12 : Hid (Below w11.heap.size w11 w12) := HBQ.out.trans (hb.mono HBQ.out.size)
          clear hb Y0 Y1 Z0 Z1 HBQ
          go_wp2_with fail
          refine (specScoreOf_k (t, es) [.int .i64 t, .slice wa wn wc] T ws sa sn sc T2 id w12 (Kd.below HWW.out (HB11.out.trans (HB12.out.mono HB11.out.size))) HZ.out (Kd.below HSW.out (HB11.out.trans (HB12.out.mono HB11.out.size))) HZ2.out HID.out).mono ?_
          rintro e w13 ⟨rfl, _, hb⟩
          rw [HSO.out]
          have X13 := cell_later hb X1
          have HB13 : Hid (Below w11.heap.size w11 w13) := HB12.out.trans (hb.mono HB12.out.size)
          clear hb X0 X1 Q0 Q1 HB12
          go_wp2
          go_roundw
          case rel => exact ⟨j + 1, by omega, by go_num, HB13.out⟩
          case measure => simp [intOf]; omega
        · have j1 : ¬ (j : Int) < (tn : Int) := by omega
          have HBE : Hid (Below w.heap.size w wr) := HBW.out.trans ((HB11.out.trans (hnx.mono HB11.out.size)).mono HBW.out.size)
          clear hnx
          go_wp2
          go_ret
          exact ⟨rfl, HBE.out⟩
end Go.Proofs.Ytikgcgfigcolmaa
namespace Go.Proofs.Ytikgcgfigcolmaa
open Go.ChangeShapes Go.WideShapes Go.ChangeAt Go.RowKit Go.Deep Go.Joins
set_option linter.unusedVariables false

theorem own : ownKnob Try.prog.godebug = none := by kernel_rfl
theorem laidOut : laidOutB Try.prog = true := by kernel_rfl
theorem add_plainO (b off i : Nat) : (⟨b, off, none⟩ : Addr).add i = ⟨b, off + i, none⟩ := by unfold Addr.add; split <;> simp_all

/-- What is read as a value of the type is data of the kind. -/
def Opens {α : Type} (K : Kd α) (t : TypeId) : Prop := ∀ (H : Type) (enc : TypeId × Value → H) (W : World) (held : Bool) (n : Nat) (cs : List Value) (x : DataW H × List MemPlace), DataW.trod enc Try.prog W 0 (fun _ => true) held n t cs = some x → ∃ d, K.is false W (fun _ => True) cs d

theorem opens_int : Opens kInt 3 := fun H enc W held n cs x h => by
  obtain ⟨k, rfl, _, hw⟩ := DataW.trod_int Try.underlying3 h
  refine ⟨k, rfl, ?_⟩
  simp only [Lit.wf, Bool.and_eq_true, decide_eq_true_eq] at hw
  exact hw
theorem opens_str : Opens kStr 9 := fun H enc W held n cs x h => by
  obtain ⟨k, rfl, _, hw⟩ := DataW.trod_string Try.underlying9 h
  exact ⟨k, rfl, hw⟩
theorem opens_row {α : Type} [Inhabited α] (K : Kd α) (t e : TypeId) (ht : Try.prog.underlying t = some (.slice e)) (hw : Try.prog.cellsOf e = K.wd) (hw0 : 0 < K.wd) (hop : Opens K e) : Opens (kRow K) t := fun H enc W held n cs x h => by
  rcases open_slice ht h with ⟨e, _⟩ | ⟨a, len, cap, m', f', D, Pl, e, _, hl, hm, hmm, _, hx⟩
  · subst e
    exact ⟨[], row_nil K false W _ none 0⟩
  · subst e
    rw [hw] at hx
    have hle : len ≤ m' := by
      rw [hmm]
      split <;> omega
    obtain ⟨N, hN⟩ := @choose_lt (List Value × α) ⟨([], default)⟩ len (fun i y => K.is false W (fun _ => True) y.1 y.2 ∧ ∀ j u, y.1[j]? = some u → W.cell? ((a.add (i * K.wd)).add j) = some u) (fun i hi => by
      obtain ⟨cs', h3, h4⟩ := hx i (by omega)
      obtain ⟨d, hd⟩ := hop H enc W held _ _ _ h4
      obtain ⟨_, _, hcell⟩ := World.cells?_some h3
      refine ⟨(cs', d), hd, fun j u hj => ?_⟩
      rw [hcell j (by
        have := (List.getElem?_eq_some_iff.1 hj).1
        rw [K.len hd] at this
        exact this)]
      exact hj)
    refine ⟨(List.range len).map (fun i => (N i).2), some a, cap, by simp, by simp; omega, fun h => (by cases h), ?_⟩
    by_cases h0 : len = 0
    · subst h0
      exact .inl rfl
    · have hz := hN 0 (by omega)
      have hlz := K.len hz.1
      have c00 := hz.2 0 _ (List.getElem?_eq_getElem (by omega))
      obtain ⟨b, off, spot⟩ := a
      have hsp : spot = none := by
        have := World.cell?_spot c00
        simpa [Addr.add] using this
      subst hsp
      refine .inr ⟨b, off, fun _ _ => True, fun i => (N i).1, rfl, ?_, trivial, fun i y hy => ?_, fun _ _ _ _ => trivial, fun h => by cases h⟩
      · have := World.block_lt_of_cell? _ _ c00
        simpa [Addr.add] using this
      · have hi : i < len := by
          have := (List.getElem?_eq_some_iff.1 hy).1
          simpa using this
        obtain rfl : (N i).2 = y := by simpa [List.getElem?_map, List.getElem?_range hi] using hy
        refine ⟨(hN i hi).1, fun j v hj => ⟨?_, fun h => by cases h⟩⟩
        have := (hN i hi).2 j v hj
        rw [add_plainO, add_plainO] at this
        exact this

set_option maxRecDepth 100000 in
/-- A struct that came in. -/
theorem open_agg {α : Type} {K : Kd α} {t : TypeId} {fs : Array Field} (ht : Try.prog.underlying t = some (.struct fs)) (hop : Opens K t) {H : Type} {enc : TypeId × Value → H} {W : World} {held : Bool} {base : Nat} {v : Value} {d : DataW H} {p : List MemPlace} (hv : Value.okWide Try.prog W .any base t v) (h : DataW.Trod enc Try.prog W 0 (fun _ => true) held t v d p) :
    ∃ C x, v = .agg (List.toArray C) ∧ K.is false W (fun _ => True) C x := by
  obtain ⟨cs, rfl, _⟩ := okWide_struct ht hv
  obtain ⟨fuel, hf⟩ := h
  obtain ⟨x, hx⟩ := hop H enc W held _ _ _ hf
  exact ⟨cs.toList, x, by simp, hx⟩
set_option maxRecDepth 100000 in
/-- A row that came in. -/
theorem open_row {α : Type} {K : Kd α} {t e : TypeId} (ht : Try.prog.underlying t = some (.slice e)) (hop : Opens (kRow K) t) {H : Type} {enc : TypeId × Value → H} {W : World} {held : Bool} {base : Nat} {v : Value} {d : DataW H} {p : List MemPlace} (hv : Value.okWide Try.prog W .any base t v) (h : DataW.Trod enc Try.prog W 0 (fun _ => true) held t v d p) :
    ∃ a n c x, v = .slice a n c ∧ (kRow K).is false W (fun _ => True) [.slice a n c] x := by
  obtain ⟨a, n, c, rfl⟩ := okWide_slice ht hv
  obtain ⟨fuel, hf⟩ := h
  obtain ⟨x, hx⟩ := hop H enc W held _ _ _ hf
  exact ⟨a, n, c, x, rfl, hx⟩

end Go.Proofs.Ytikgcgfigcolmaa
namespace Go.Proofs.Ytikgcgfigcolmaa
open Go.ChangeShapes Go.WideShapes Go.ChangeAt Go.RowKit
open Go.ChangeMaps (open_string shut_string)
set_option linter.unusedVariables false

theorem opens_u8 : Opens kU8 5 := fun H enc W held n cs x h => by
  obtain ⟨k, rfl, _, hw⟩ := DataW.trod_int Try.underlying5 h
  refine ⟨k, rfl, ?_⟩
  simp only [Lit.wf, Bool.and_eq_true, decide_eq_true_eq] at hw
  have h1 : IntKind.u8.min = 0 := rfl
  have h2 : IntKind.u8.max = 255 := rfl
  omega
theorem opens_u8S : Opens (kRow kU8) 22 := opens_row _ _ 5 Try.underlying22 (by kernel_rfl) (by decide) opens_u8

set_option maxRecDepth 100000 in
theorem ranked_lifted (os : Os) (started : os.Started) (H : Type) (enc : TypeId × Value → H) :
    ReturnsInHanded {} Try.checked os 5 .any (Rows.fnRankedSpec.pre6 enc Try.prog Try.f5 Rows.fnRankedRow.domain false) (Rows.fnRankedSpec.post enc Try.prog Try.f5 false true false false) := by
  refine returnsInHanded_of_change (C := Try.checked) own started (by kernel_rfl) Try.func5
    (ChangeSpec.witness6 (enc := enc) (C := Try.checked) false ⟨#[], #[.slice none 0 0], []⟩ 8 (by kernel_rfl) (by kernel_rfl) (by kernel_rfl) (by kernel_rfl)) ?_
  intro W base args ds gs before hval0 hW hcnd _
  have hval : ∀ (j : Nat) t v, Try.f5.params[j]? = some t → args[j]? = some v → Value.okWide Try.prog W .any base t v := hval0
  have hW' := hW
  obtain ⟨p, q, hA0, hV, rfl, hfz, hnd⟩ := hW
  have hA : DataW.TrodAll enc Try.prog W 0 (fun _ => true) true Try.f5.params.toList args.toList ds p := hA0
  rw [Try.params5] at hA hval
  obtain ⟨v0, vs0, d0, ds0, p0, q0, hargs, rfl, rfl, h0, r0⟩ := trodAll_cons hA
  obtain ⟨rfl, rfl, rfl⟩ := trodAll_nil r0
  obtain rfl : args = #[v0] := by cases args; simp_all
  obtain ⟨rfl, rfl⟩ := trodVars_none hV
  have k0 := h0
  have lt0 : ∀ x ∈ p0, x.block < W.heap.size := by obtain ⟨m, hm⟩ := k0; exact DataW.trod_lt m _ _ _ hm
  obtain ⟨a0, n0, c0, x0, rfl, g0⟩ := open_row Try.underlying22 opens_u8S (hval 0 22 v0 rfl rfl) h0
  clear hA0 hval0
  simp only [List.append_nil] at hW'
  refine (lawRanked_k x0 a0 n0 c0 W g0).mono fun e W' ⟨he, bel⟩ => ?_
  subst he
  exact ⟨_, rfl, _, _, _, [], _, [], hW', trodAll_mk1 (shut_bool Try.underlying4 _), (trodAll_cons_mk (Below.trod laidOut (by kernel_rfl) (of_decide_eq_true (by kernel_rfl)) k0 bel lt0) trodAll_mk0), rfl, bel.frame _, fun h => by cases h⟩

theorem ranked_holds : Rows.FnRankedSaid :=
  OpenClaim.holds_of_wide 5 Try.f5 rfl rfl rfl rfl rfl rfl rfl ⟨rfl, rfl, rfl, rfl, rfl⟩ rfl rfl rfl rfl rfl (by kernel_rfl) Try.func5 (by kernel_rfl)
    (of_decide_eq_true (by kernel_rfl)) (by unfold Func.isWrapper; first | (rw [if_pos (by decide +kernel)]; kernel_rfl) | (rw [if_neg (by decide +kernel)]; exact ⟨rfl, rfl⟩))
    (fun os started H enc _ => ranked_lifted os started H enc)
#print axioms ranked_holds
end Go.Proofs.Ytikgcgfigcolmaa
