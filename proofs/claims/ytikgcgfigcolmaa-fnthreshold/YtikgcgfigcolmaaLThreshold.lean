/- FnThreshold answers true at all bytes: the best few are found as the specification finds them, no further than the lists' ends, and nobody else has more. No condition. -/
import Derived.Test.YtikgcgfigcolmaaThE
import Derived.Test.YtikgcgfigcolmaaThM
import Derived.Test.YtikgcgfigcolmaaThQ
import Derived.Test.YtikgcgfigcolmaaSmO
import Derived.Test.YtikgcgfigcolmaaTbS
import Derived.Test.YtikgcgfigcolmaaSbS
namespace Go.Proofs.Ytikgcgfigcolmaa
open Go.RowKit
set_option linter.unusedVariables false

theorem few_sz {l : List DRanking} (h : Few l) : (kRow kRanking).sz l ≤ 2 ^ 20 := by
  have h1 : ∀ r : DRanking, kRanking.sz r = r.length := fun r => by
    show r.length + sums kScored.sz r = r.length
    have : sums kScored.sz r = 0 := sums_zero r
    omega
  have key : ∀ l : List DRanking, (∀ r ∈ l, r.length ≤ 8) → sums kRanking.sz l ≤ 8 * l.length := by
    intro l
    induction l with
    | nil => intro _; simp [sums]
    | cons r t ih =>
      intro hr
      have h2 := hr r (by simp)
      have h3 := ih fun q hq => hr q (by simp [hq])
      have h4 := h1 r
      simp only [sums, List.length_cons]
      omega
  have h2 := key l h.2
  have h3 := h.1
  show l.length + sums kRanking.sz l ≤ _
  omega
/-- What the law asks of the best few. -/
structure BestOk (l : List DRanking) (k : Int) (A : List DScored) : Prop where
  good : fGoodRankings l = true
  few : (0 ≤ k ∧ k ≤ 60)
  is : A = (allD l).take k.toNat
theorem BestOk.sum {l : List DRanking} {k : Int} {A : List DScored} (h : BestOk l k A) {x : DScored} (hx : x ∈ A) : fSumOf l x.1 = (x.2, true) := by
  rw [h.is] at hx
  obtain ⟨h1, h2⟩ := best_in hx
  unfold fSumOf
  rw [h.good, decide_eq_true (best_id h.good h2), h1]
  rfl
theorem BestOk.any {l : List DRanking} {k : Int} {A : List DScored} (h : BestOk l k A) {r : DRanking} {x : DScored} (hr : r ∈ l) (hx : x ∈ r) : fSumOf l x.1 = (sumL l x.1, true) := by
  unfold fSumOf
  rw [h.good, decide_eq_true (good_sc h.good r hr x hx).2]
  rfl
theorem BestOk.falls {l : List DRanking} {k : Int} {A : List DScored} (h : BestOk l k A) {i : Nat} {s y : DScored} (hs : A[i + 1]? = some s) (hy : A[i]? = some y) : s.2 ≤ y.2 := by
  rw [h.is] at hs hy
  exact best_falls hs hy
theorem BestOk.rest {l : List DRanking} {k : Int} {A : List DScored} (h : BestOk l k A) {r : DRanking} {x : DScored} (hr : r ∈ l) (hx : x ∈ r) {q : Nat} (hq : k = (q : Int) + 1) {y : DScored} (hy : A[q]? = some y) (hn : noId A x.1 = true) : sumL l x.1 ≤ y.2 := by
  have e : k.toNat = q + 1 := by omega
  rw [h.is, e] at hy hn
  exact best_rest hy (idsAll_mem.2 ⟨r, hr, x, hx, rfl⟩) hn
theorem best_ok {l : List DRanking} {k : Int} (h : (fAllBest l k).2 = true) : BestOk l k (fAllBest l k).1 := by
  unfold fAllBest at h ⊢
  split
  · rename_i h'
    simp only [Bool.and_eq_true, decide_eq_true_eq] at h'
    exact ⟨h'.1, h'.2, rfl⟩
  · rename_i h'
    rw [if_neg h'] at h
    cases h
theorem best_no {l : List DRanking} {k : Int} (h : (fAllBest l k).2 = false) : (fAllBest l k).1 = [] := by
  unfold fAllBest at h ⊢
  split
  · rename_i h'
    rw [if_pos h'] at h
    cases h
  · rfl

theorem there_next {A : List DScored} {h : Nat} {id od os : Int} (hx : A[h]? = some (od, os)) : (!noId (A.take (h + 1)) id) = (!noId (A.take h) id || decide (od = id)) := by
  rw [List.take_add_one, hx, noId_append]
  have e : noId (some (od, os)).toList id = !decide (od = id) := by
    by_cases h : od = id
    · have : noId [(od, os)] id = false := noId_false (y := (od, os)) (by simp) h
      simpa [h] using this
    · have : noId [(od, os)] id = true := (noId_iff _ _).2 fun y hy => by
        have : y = (od, os) := by simpa using hy
        rw [this]; exact h
      simpa [h] using this
  rw [e]
  cases noId (A.take h) id <;> cases decide (od = id) <;> rfl
set_option maxRecDepth 100000 in
set_option maxHeartbeats 8000000 in
theorem lawThreshold_k (x0 x1 : List Int) (a0 a1 : Option Addr) (n0 c0 n1 c1 : Nat) (w : World) (h0 : (kRow kU8).is false w (fun _ => True) [.slice a0 n0 c0] x0) (h1 : (kRow kU8).is false w (fun _ => True) [.slice a1 n1 c1] x1) :
    Calls Try.prog 4 #[.slice a0 n0 c0, .slice a1 n1 c1] w fun e w' => e = .returned (.bool true) ∧ Below w.heap.size w w' := by
  have m0 : n0 ≤ 9223372036854775807 := by obtain ⟨_, _, _, h, _⟩ := row_form h0; rw [row_len h0]; exact h
  have m1 : n1 ≤ 9223372036854775807 := by obtain ⟨_, _, _, h, _⟩ := row_form h1; rw [row_len h1]; exact h
  have H0 : Hid ((kRow kU8).is false w (fun _ => True) [.slice a0 n0 c0] x0) := h0
  clear h0 h1
  go_enter Try.func4, Try.ntmps4
  obtain ⟨q, hq⟩ : ∃ q, q = wrap64 ((n0 : Int) + (n1 : Int)) := ⟨_, rfl⟩
  by_cases hbig : (1048576 : Int) < q
  · rw [hq] at hbig
    go_wp2
    go_ret
    exact ⟨rfl, Below.refl _ _⟩
  rw [hq] at hbig
  clear hq
  go_wp2_with fail
  refine (drawTopBest_k w x0 a0 n0 c0 H0.out m0).mono ?_
  rintro e w1 ⟨ra, rn, rc, T, l, k, rfl, hr, hT, hf, ⟨k0, k1⟩, hb⟩
  have HRN : Hid (rn = l.length) := row_len hr
  have HR1 : Hid ((kRow kRanking).is true w1 T [.slice ra rn rc] l) := hr
  have HB1 : Hid (Below w.heap.size w w1) := hb
  have HZ : Hid ((kRow kRanking).sz l ≤ 2 ^ 20) := few_sz hf
  have hkk : IntOk k := by unfold IntOk; omega
  have HKK : Hid (IntOk k) := hkk
  have rn4 : rn ≤ 4 := by rw [HRN.out]; exact hf.1
  have HFW : Hid (Few l) := hf
  obtain ⟨ta1, ta2⟩ := top_all l k
  obtain ⟨A, hA⟩ : ∃ A, A = (fAllBest l k).1 := ⟨_, rfl⟩
  obtain ⟨ok, hok⟩ : ∃ ok, ok = (fAllBest l k).2 := ⟨_, rfl⟩
  obtain ⟨D, hD⟩ : ∃ D, D = (fTopBest l k).2.1 := ⟨_, rfl⟩
  have HT1 : Hid ((fTopBest l k).1 = A ∧ (fTopBest l k).2.2 = ok ∧ (fTopBest l k).2.1 = D ∧ (fAllBest l k).1 = A ∧ (fAllBest l k).2 = ok) := ⟨by rw [ta1, hA], by rw [ta2, hok], hD.symm, hA.symm, hok.symm⟩
  have HNO : Hid (ok = false → A = []) := fun h => by rw [hA]; exact best_no (by rw [← hok]; exact h)
  have HYES : Hid (ok = true → BestOk l k A ∧ 0 ≤ D ∧ D ≤ longest l) := fun h => ⟨by rw [hA]; exact best_ok (by rw [← hok]; exact h), by rw [hD]; exact top_depth (by rw [ta2, ← hok]; exact h)⟩
  clear hr hT hb hkk ta1 ta2 hA hok hD hf
  go_wp2_with fail
  refine (implTopBest_k l ra rn rc T k w1 HR1.out HZ.out HKK.out).mono ?_
  rintro e w2 ⟨pa, pn, pc, P, rfl, hp, hP, _, hD1, hb⟩
  rw [HT1.out.1] at hp
  rw [HT1.out.2.1, HT1.out.2.2.1]
  rw [HT1.out.2.2.1] at hD1
  have HD1 : Hid (IntOk D) := hD1
  have HPN : Hid (pn = A.length) := row_len hp
  have HP2 : Hid ((kRow kScored).is true w2 P [.slice pa pn pc] A) := hp
  have HB2 : Hid (Below w.heap.size w w2) := HB1.out.trans (hb.mono HB1.out.size)
  have HR2 : Hid ((kRow kRanking).is true w2 T [.slice ra rn rc] l) := Kd.below HR1.out hb
  clear hp hP hb hD1 HB1 HR1
  go_wp2_with fail
  refine (specTopBest_k l ra rn rc T k w2 HR2.out HZ.out HKK.out).mono ?_
  rintro e w3 ⟨sa, sn, sc, Q, rfl, hs, hQ, _, _, hb⟩
  rw [HT1.out.1] at hs
  rw [HT1.out.2.1, HT1.out.2.2.1]
  obtain rfl : sn = pn := by rw [HPN.out]; exact row_len hs
  have HS3 : Hid ((kRow kScored).is true w3 Q [.slice sa sn sc] A) := hs
  have HP3 : Hid ((kRow kScored).is true w3 P [.slice pa sn pc] A) := Kd.below HP2.out hb
  have HB3 : Hid (Below w.heap.size w w3) := HB2.out.trans (hb.mono HB2.out.size)
  have HR3 : Hid ((kRow kRanking).is true w3 T [.slice ra rn rc] l) := Kd.below HR2.out hb
  clear hs hQ hb HB2 HR2 HP2
  go_wp2_with fail
  refine (implAllBest_k l ra rn rc T k w3 HR3.out HZ.out HKK.out).mono ?_
  rintro e w4 ⟨aa, an, ac, U, rfl, hu, hU, _, hb⟩
  rw [HT1.out.2.2.2.1] at hu
  rw [HT1.out.2.2.2.2]
  obtain rfl : an = sn := by rw [HPN.out]; exact row_len hu
  have HU4 : Hid ((kRow kScored).is true w4 U [.slice aa an ac] A) := hu
  have HS4 : Hid ((kRow kScored).is true w4 Q [.slice sa an sc] A) := Kd.below HS3.out hb
  have HP4 : Hid ((kRow kScored).is true w4 P [.slice pa an pc] A) := Kd.below HP3.out hb
  have HB4 : Hid (Below w.heap.size w w4) := HB3.out.trans (hb.mono HB3.out.size)
  have HR4 : Hid ((kRow kRanking).is true w4 T [.slice ra rn rc] l) := Kd.below HR3.out hb
  clear hu hU hb HB3 HR3 HP3 HS3 HT1
  go_wp2_with fail
  refine (sameScored_k A pa sa _ pc sc P Q w4 (Kd.read _ HP4.out) (Kd.read _ HS4.out)).mono ?_
  rintro e w5 ⟨rfl, hb⟩
  have HU5 : Hid ((kRow kScored).is true w5 U [.slice aa an ac] A) := Kd.below HU4.out hb
  have HP5 : Hid ((kRow kScored).is true w5 P [.slice pa an pc] A) := Kd.below HP4.out hb
  have HB5 : Hid (Below w.heap.size w w5) := HB4.out.trans (hb.mono HB4.out.size)
  have HR5 : Hid ((kRow kRanking).is true w5 T [.slice ra rn rc] l) := Kd.below HR4.out hb
  clear hb HB4 HR4 HP4 HS4 HU4
  go_wp2_with fail
  refine (implGoodRankings_k l ra rn rc T w5 HR5.out HZ.out).mono ?_
  rintro e w6 ⟨rfl, hb⟩
  have HU6 : Hid ((kRow kScored).is true w6 U [.slice aa an ac] A) := Kd.below HU5.out hb
  have HP6 : Hid ((kRow kScored).is true w6 P [.slice pa an pc] A) := Kd.below HP5.out hb
  have HB6 : Hid (Below w.heap.size w w6) := HB5.out.trans (hb.mono HB5.out.size)
  have HR6 : Hid ((kRow kRanking).is true w6 T [.slice ra rn rc] l) := Kd.below HR5.out hb
  clear hb HB5 HR5 HP5 HU5
  go_wp2_with fail
  refine (specGoodRankings_k l ra rn rc T w6 HR6.out HZ.out).mono ?_
  rintro e w7 ⟨rfl, hb⟩
  have HU7 : Hid ((kRow kScored).is true w7 U [.slice aa an ac] A) := Kd.below HU6.out hb
  have HP7 : Hid ((kRow kScored).is true w7 P [.slice pa an pc] A) := Kd.below HP6.out hb
  have HB7 : Hid (Below w.heap.size w w7) := HB6.out.trans (hb.mono HB6.out.size)
  have HR7 : Hid ((kRow kRanking).is true w7 T [.slice ra rn rc] l) := Kd.below HR6.out hb
  clear hb HB6 HR6 HP6 HU6
  generalize fGoodRankings l = gr at *
  cases ok
  · have h0 : an = 0 := by rw [HPN.out, HNO.out rfl]; rfl
    subst h0
    go_wp2
    go_ret
    exact ⟨rfl, HB7.out⟩
  obtain ⟨hbo, d0, d1⟩ := HYES.out rfl
  have HBO : Hid (BestOk l k A) := hbo
  have HD2 : Hid (D ≤ longest l) := d1
  clear HYES HNO hbo d1
  go_wp2_with fail
  go_loopw [15, 95] (fun lv iv wr => ∃ (i : Nat), i ≤ rn ∧ iv = .int .i64 i ∧ lv = .int .i64 (longTo l i) ∧ Below w7.heap.size w7 wr) (fun _ iv _ => rn - (intOf iv).toNat)
  case atStart => exact ⟨0, Nat.zero_le _, rfl, rfl, Below.refl _ _⟩
  case round =>
    obtain ⟨i, hi, rfl, rfl, hnx⟩ := hrel
    have zw := hnx.size
    by_cases hlt : i < rn
    · obtain ⟨x, hx⟩ : ∃ x, l[i]? = some x := ⟨_, List.getElem?_eq_getElem (by rw [← HRN.out]; exact hlt)⟩
      obtain ⟨b, off, B, C, rfl, hb, _, hi', _, hc⟩ := row_at (Kd.below HR7.out hnx) hx
      obtain ⟨la, lc, T', rfl, hm, hl, _⟩ := kRanking_open hi'
      have A0 : wr.cell? ⟨b, off + i, none⟩ = some (.slice la x.length lc) := cell1 (hc 0 _ rfl).1
      have i0 : (0 : Int) ≤ (i : Int) := by omega
      have i1 : (i : Int) < (rn : Int) := by omega
      have HNX : Hid (longTo l (i + 1) = max (longTo l i) x.length) := longTo_next hx
      have HXL : Hid (x.length ≤ 8) := HFW.out.2 x (List.mem_of_getElem? hx)
      obtain ⟨lg, hlg⟩ : ∃ lg, lg = longTo l i := ⟨_, rfl⟩
      obtain ⟨ml, hml⟩ : ∃ ml, ml = x.length := ⟨_, rfl⟩
      rw [← hlg, ← hml] at HNX
      rw [← hml] at A0
      rw [← hlg]
      have HBR : Hid (Below w7.heap.size w7 wr) := hnx
      clear hc hi' hx hl hm hlg hml hnx
      by_cases hgt : (lg : Int) < (ml : Int)
      · have HE : Hid (longTo l (i + 1) = ml) := by show _ = _; rw [HNX.out]; omega
        go_wp2
        go_roundw
        case rel => exact ⟨i + 1, by omega, by go_num, by rw [HE.out], HBR.out.trans ((below_a1r _ _).mono HBR.out.size)⟩
        case measure => simp [intOf]; omega
      · have HE : Hid (longTo l (i + 1) = lg) := by show _ = _; rw [HNX.out]; omega
        go_wp2
        go_roundw
        case rel => exact ⟨i + 1, by omega, by go_num, by rw [HE.out], HBR.out.trans ((below_a1r _ _).mono HBR.out.size)⟩
        case measure => simp [intOf]; omega
    · have i1 : ¬ (i : Int) < (rn : Int) := by omega
      obtain ⟨w8, hw8⟩ : ∃ w8, w8 = wr := ⟨_, rfl⟩
      subst hw8
      obtain ⟨lg, hlg⟩ : ∃ lg, lg = longTo l i := ⟨_, rfl⟩
      have hdl : ¬ (lg : Int) < D := by
        have h1 := HD2.out
        have h2 : longTo l i = longest l := by unfold longTo; rw [show i = l.length by rw [← HRN.out]; omega, List.take_length]
        omega
      rw [← hlg]
      have HU8 : Hid ((kRow kScored).is true w8 U [.slice aa an ac] A) := Kd.below HU7.out hnx
      have HP8 : Hid ((kRow kScored).is true w8 P [.slice pa an pc] A) := Kd.below HP7.out hnx
      have HB8 : Hid (Below w.heap.size w w8) := HB7.out.trans (hnx.mono HB7.out.size)
      have HR8 : Hid ((kRow kRanking).is true w8 T [.slice ra rn rc] l) := Kd.below HR7.out hnx
      clear hnx HU7 HP7 HB7 HR7 hlg HD2
      go_wp2_with fail
      refine (sameScored_k A pa aa _ pc ac P U w8 (Kd.read _ HP8.out) (Kd.read _ HU8.out)).mono ?_
      rintro e w9 ⟨rfl, hb⟩
      have HU9 : Hid ((kRow kScored).is true w9 U [.slice aa an ac] A) := Kd.below HU8.out hb
      have HB9 : Hid (Below w.heap.size w w9) := HB8.out.trans (hb.mono HB8.out.size)
      have HR9 : Hid ((kRow kRanking).is true w9 T [.slice ra rn rc] l) := Kd.below HR8.out hb
      have an60 : an ≤ 60 := by
        rw [HPN.out, HBO.out.is, List.length_take]
        have := HBO.out.few
        omega
      clear hb HB8 HR8 HP8 HU8
      go_wp2_with fail
      go_loopw [119] (fun iv wr => ∃ (j : Nat), j ≤ an ∧ iv = .int .i64 j ∧ Below w9.heap.size w9 wr) (fun iv _ => an - (intOf iv).toNat)
      case atStart => exact ⟨0, Nat.zero_le _, rfl, Below.refl _ _⟩
      case round =>
        obtain ⟨j, hj, rfl, hnx⟩ := hrel
        have zw9 := hnx.size
        by_cases hjl : j < an
        · obtain ⟨⟨id, sco⟩, hx⟩ : ∃ x, A[j]? = some x := ⟨_, List.getElem?_eq_getElem (by rw [← HPN.out]; exact hjl)⟩
          obtain ⟨b, off, B, C, rfl, hb, _, hi', _, hc⟩ := row_at (Kd.below HU9.out hnx) hx
          obtain ⟨rfl, g0, g1⟩ := kScored_open hi'
          have A0 : wr.cell? ⟨b, off + j * 2, none⟩ = some (.int .i64 id) := (hc 0 _ rfl).1
          have A1 : wr.cell? ⟨b, off + j * 2 + 1, none⟩ = some (.int .i64 sco) := (hc 1 _ rfl).1
          have j0 : (0 : Int) ≤ (j : Int) := by omega
          have j1 : (j : Int) < (an : Int) := by omega
          have HSUM : Hid (fSumOf l id = (sco, true)) := HBO.out.sum (x := (id, sco)) (List.mem_of_getElem? hx)
          have HRR : Hid ((kRow kRanking).is true wr T [.slice ra rn rc] l) := Kd.below HR9.out hnx
          have HUR : Hid ((kRow kScored).is true wr U [.slice (some ⟨b, off, none⟩) an ac] A) := Kd.below HU9.out hnx
          have HBR : Hid (Below w9.heap.size w9 wr) := hnx
          have HXJ : Hid (A[j]? = some (id, sco)) := hx
          have HID : Hid (IntOk id) := g0
          obtain ⟨W1, hW1⟩ : ∃ W1, W1 = wr.alloc (.cells #[.int .i64 id, .int .i64 sco] 60) := ⟨_, rfl⟩
          have HBW : Hid (Below wr.heap.size wr W1) := by show Below _ _ _; rw [hW1]; exact below_a1r _ _
          have Z1 : Hid (W1.cell? ⟨wr.heap.size, 0, none⟩ = some (.int .i64 id) ∧ W1.cell? ⟨wr.heap.size, 1, none⟩ = some (.int .i64 sco)) := by rw [hW1]; refine ⟨?_, ?_⟩ <;> simp [go_sem]
          clear hc hi' hx hnx g0 g1
          go_wp2_with fail
          rw [← hW1]
          clear hW1
          refine (implSumOf_k l ra rn rc T id W1 (Kd.below HRR.out HBW.out) HZ.out HID.out).mono ?_
          rintro e w10 ⟨rfl, _, hb10⟩
          rw [HSUM.out]
          have S0 := cell_later hb10 Z1.out.1
          have S1 := cell_later hb10 Z1.out.2
          have HBT : Hid (Below wr.heap.size wr w10) := HBW.out.trans (hb10.mono HBW.out.size)
          have hne := belowOf_ne w10
          have V1 : ∀ q : BelowOf w10, q.v.cell? ⟨wr.heap.size, 1, none⟩ = some (.int .i64 sco) := BelowOf.cell S1
          have HBN : Hid (Below w9.heap.size w9 w10) := HBR.out.trans (HBT.out.mono HBR.out.size)
          clear hb10
          by_cases hj0 : j = 0
          · subst hj0
            go_wp2_with fail
            refine region_below (by kernel_rfl) (by kernel_rfl) ?_
            repeat (go_big_quiet_step (fail))
            refine wpQuiet_nil (belowOf_all ?_)
            intro w11 hb11
            have HB11 : Hid (Below w9.heap.size w9 w11) := HBN.out.trans (hb11.mono HBN.out.size)
            clear hb11 V1 hne
            go_wp2
            go_roundw
            case rel => exact ⟨1, by omega, by go_num, HB11.out⟩
            case measure => simp [intOf]; omega
          · obtain ⟨j', rfl⟩ : ∃ j', j = j' + 1 := ⟨j - 1, by omega⟩
            obtain ⟨⟨yd, ys⟩, hy⟩ : ∃ y, A[j']? = some y := ⟨_, List.getElem?_eq_getElem (by rw [← HPN.out]; omega)⟩
            obtain ⟨b', off', B', C', e', hb', _, hi', _, hc'⟩ := row_at (Kd.below HUR.out HBT.out) hy
            obtain ⟨rfl, rfl⟩ : b = b' ∧ off = off' := by injection e' with e'; injection e' with e1 e2; exact ⟨e1, e2⟩
            obtain ⟨rfl, _, _⟩ := kScored_open hi'
            have A1' : w10.cell? ⟨b, off + j' * 2 + 1, none⟩ = some (.int .i64 ys) := (hc' 1 _ rfl).1
            have hfl : sco ≤ ys := HBO.out.falls HXJ.out hy
            have V2 : ∀ q : BelowOf w10, q.v.cell? ⟨b, off + j' * 2 + 1, none⟩ = some (.int .i64 ys) := BelowOf.cell A1'
            have jd : decide (0 < j' + 1) = true := decide_eq_true (by omega)
            have jp : (0 : Int) < (j' : Int) + 1 := by omega
            have ji0 : (0 : Int) ≤ (j' : Int) := by omega
            have ji1 : (j' : Int) < (an : Int) := by omega
            have hnl : decide (ys < sco) = false := decide_eq_false (by omega)
            have hnl2 : ¬ ys < sco := by omega
            clear hc' hi' hy e'
            go_wp2_with fail
            refine region_below (by kernel_rfl) (by kernel_rfl) ?_
            repeat (go_big_quiet_step (fail))
            refine wpQuiet_nil (belowOf_all ?_)
            intro w11 hb11
            have HB11 : Hid (Below w9.heap.size w9 w11) := HBN.out.trans (hb11.mono HBN.out.size)
            clear hb11 V1 V2 hne
            go_wp2
            go_roundw
            case rel => exact ⟨j' + 1 + 1, by omega, by go_num, HB11.out⟩
            case measure => simp [intOf]; omega
        · have j1 : ¬ (j : Int) < (an : Int) := by omega
          obtain ⟨w12, hw12⟩ : ∃ w12, w12 = wr := ⟨_, rfl⟩
          subst hw12
          have HU12 : Hid ((kRow kScored).is true w12 U [.slice aa an ac] A) := Kd.below HU9.out hnx
          have HB12 : Hid (Below w.heap.size w w12) := HB9.out.trans (hnx.mono HB9.out.size)
          have HR12 : Hid ((kRow kRanking).is true w12 T [.slice ra rn rc] l) := Kd.below HR9.out hnx
          clear hnx HU9 HB9 HR9
          by_cases hak : (an : Int) = k
          · by_cases hkp : (0 : Int) < k
            · obtain ⟨q, rfl⟩ : ∃ q, an = q + 1 := ⟨an - 1, by omega⟩
              obtain ⟨⟨yd, ys⟩, hy⟩ : ∃ y, A[q]? = some y := ⟨_, List.getElem?_eq_getElem (by rw [← HPN.out]; omega)⟩
              have HY : Hid (A[q]? = some (yd, ys)) := hy
              obtain ⟨ba, offa, Ba, Ca, rfl, hba, _, hia, _, hca⟩ := row_at HU12.out hy
              obtain ⟨rfl, _, _⟩ := kScored_open hia
              have AY : w12.cell? ⟨ba, offa + q * 2 + 1, none⟩ = some (.int .i64 ys) := (hca 1 _ rfl).1
              have HKQ : Hid (k = (q : Int) + 1) := by show _ = _; omega
              have hkq : k = (q : Int) + 1 := HKQ.out
              clear hca hia hy
              go_wp2_with fail
              go_loopw [165] (fun iv wr => ∃ (i : Nat), i ≤ rn ∧ iv = .int .i64 i ∧ Below w12.heap.size w12 wr) (fun iv _ => rn - (intOf iv).toNat)
              case atStart => exact ⟨0, Nat.zero_le _, rfl, Below.refl _ _⟩
              case round =>
                obtain ⟨i3, hi3, rfl, hnx⟩ := hrel
                by_cases hlt3 : i3 < rn
                · obtain ⟨x, hx⟩ : ∃ x, l[i3]? = some x := ⟨_, List.getElem?_eq_getElem (by rw [← HRN.out]; exact hlt3)⟩
                  have HXI : Hid (x ∈ l) := List.mem_of_getElem? hx
                  obtain ⟨b, off, B, C, rfl, hb, _, hi', _, hc⟩ := row_at (Kd.below HR12.out hnx) hx
                  obtain ⟨la, lc, T', rfl, hm, hl, _⟩ := kRanking_open hi'
                  have A0 : wr.cell? ⟨b, off + i3, none⟩ = some (.slice la x.length lc) := cell1 (hc 0 _ rfl).1
                  have i30 : (0 : Int) ≤ (i3 : Int) := by omega
                  have i31 : (i3 : Int) < (rn : Int) := by omega
                  obtain ⟨ml, hml⟩ : ∃ ml, ml = x.length := ⟨_, rfl⟩
                  have HML : Hid (ml = x.length) := hml
                  have ml8 : ml ≤ 8 := by rw [hml]; exact HFW.out.2 x (List.mem_of_getElem? hx)
                  have HBR : Hid (Below w12.heap.size w12 wr) := hnx
                  obtain ⟨W1, hW1⟩ : ∃ W1, W1 = wr.alloc (.cells #[.slice la x.length lc] 58) := ⟨_, rfl⟩
                  have hbw1 : Below wr.heap.size wr W1 := by rw [hW1]; exact below_a1r _ _
                  have HLX : Hid ((kRow kScored).is false W1 T' [.slice la ml lc] x) := by have h := Kd.below (Kd.read _ hl) hbw1; rw [← hml] at h; exact h
                  have HBW1 : Hid (Below w12.heap.size w12 W1) := hnx.trans (hbw1.mono hnx.size)
                  rw [← hml] at A0 hW1
                  have HRW1 : Hid ((kRow kRanking).is true W1 T [.slice (some ⟨b, off, none⟩) rn rc] l) := Kd.below HR12.out (hnx.trans (hbw1.mono hnx.size))
                  clear hc hi' hx hl hm hml hnx hbw1
                  go_wp2_with fail
                  rw [← hW1]
                  clear hW1
                  go_loopw [172] (fun jv wr => ∃ (j : Nat), j ≤ ml ∧ jv = .int .i64 j ∧ Below W1.heap.size W1 wr) (fun jv _ => ml - (intOf jv).toNat)
                  case atStart => exact ⟨0, Nat.zero_le _, rfl, Below.refl _ _⟩
                  case round =>
                    obtain ⟨j4, hj4, rfl, hnx⟩ := hrel
                    by_cases hlt4 : j4 < ml
                    · obtain ⟨⟨id, sco⟩, hx⟩ : ∃ y, x[j4]? = some y := ⟨_, List.getElem?_eq_getElem (by rw [← HML.out]; exact hlt4)⟩
                      obtain ⟨b2, off2, B2, C2, rfl, hb2, _, hi2, _, hc2⟩ := row_at (Kd.below HLX.out hnx) hx
                      obtain ⟨rfl, g0, g1⟩ := kScored_open hi2
                      have D0 : wr.cell? ⟨b2, off2 + j4 * 2, none⟩ = some (.int .i64 id) := (hc2 0 _ rfl).1
                      have D1 : wr.cell? ⟨b2, off2 + j4 * 2 + 1, none⟩ = some (.int .i64 sco) := (hc2 1 _ rfl).1
                      have j40 : (0 : Int) ≤ (j4 : Int) := by omega
                      have j41 : (j4 : Int) < (ml : Int) := by omega
                      have HSUM : Hid (fSumOf l id = (sumL l id, true)) := HBO.out.any (x := (id, sco)) HXI.out (List.mem_of_getElem? hx)
                      have HREST : Hid (noId A id = true → sumL l id ≤ ys) := fun hn => HBO.out.rest (x := (id, sco)) HXI.out (List.mem_of_getElem? hx) HKQ.out HY.out hn
                      have HID : Hid (IntOk id) := g0
                      have HRR : Hid ((kRow kRanking).is true wr T [.slice (some ⟨b, off, none⟩) rn rc] l) := Kd.below HRW1.out hnx
                      have HBQ : Hid (Below W1.heap.size W1 wr) := hnx
                      obtain ⟨W2, hW2⟩ : ∃ W2, W2 = wr.alloc (.cells #[.int .i64 id, .int .i64 sco] 60) := ⟨_, rfl⟩
                      have HBW : Hid (Below wr.heap.size wr W2) := by show Below _ _ _; rw [hW2]; exact below_a1r _ _
                      have Z1 : Hid (W2.cell? ⟨wr.heap.size, 0, none⟩ = some (.int .i64 id)) := by rw [hW2]; show _ = _; simp [go_sem]
                      clear hc2 hi2 hx hnx g0 g1
                      go_wp2_with fail
                      rw [← hW2]
                      clear hW2
                      refine (implSumOf_k l _ rn rc T id W2 (Kd.below HRR.out HBW.out) HZ.out HID.out).mono ?_
                      rintro e w13 ⟨rfl, _, hb13⟩
                      rw [HSUM.out]
                      obtain ⟨sb, hsb⟩ : ∃ sb, sb = wr.heap.size := ⟨_, rfl⟩
                      have S0 := cell_later hb13 Z1.out
                      have HBX : Hid (Below W1.heap.size W1 w13) := HBQ.out.trans ((HBW.out.trans (hb13.mono HBW.out.size)).mono HBQ.out.size)
                      rw [← hsb] at S0 ⊢
                      have HU13 : Hid ((kRow kScored).is true w13 U [.slice (some ⟨ba, offa, none⟩) (q + 1) ac] A) := Kd.below HU12.out (HBW1.out.trans (HBX.out.mono HBW1.out.size))
                      have AY13 : w13.cell? ⟨ba, offa + q * 2 + 1, none⟩ = some (.int .i64 ys) := cell_later (HBW1.out.trans (HBX.out.mono HBW1.out.size)) AY
                      obtain ⟨sl, hsl⟩ : ∃ sl, sl = sumL l id := ⟨_, rfl⟩
                      rw [← hsl] at HREST
                      simp only
                      rw [← hsl]
                      clear hb13 hsl hsb HSUM
                      go_wp2_with fail
                      go_loopw [28, 185] (fun tv hv wr => ∃ (h : Nat), h ≤ q + 1 ∧ hv = .int .i64 h ∧ tv = .bool (!noId (A.take h) id) ∧ Below w13.heap.size w13 wr) (fun _ hv _ => q + 1 - (intOf hv).toNat)
                      case atStart => exact ⟨0, Nat.zero_le _, rfl, by simp [noId], Below.refl _ _⟩
                      case round =>
                        obtain ⟨h5, hh5, rfl, rfl, hnx⟩ := hrel
                        have S05 := cell_later hnx S0
                        have zz5 := hnx.size
                        have hsb5 : sb < w13.heap.size := World.block_lt_of_cell? _ _ S0
                        by_cases hlt5 : h5 < q + 1
                        · obtain ⟨⟨od, os⟩, hx⟩ : ∃ y, A[h5]? = some y := ⟨_, List.getElem?_eq_getElem (by rw [← HPN.out]; omega)⟩
                          obtain ⟨b', off', B', C', e', hb', _, hi', _, hc'⟩ := row_at (Kd.below HU13.out hnx) hx
                          obtain ⟨rfl, rfl⟩ : ba = b' ∧ offa = off' := by injection e' with e'; injection e' with e1 e2; exact ⟨e1, e2⟩
                          obtain ⟨rfl, _, _⟩ := kScored_open hi'
                          have O0 : wr.cell? ⟨ba, offa + h5 * 2, none⟩ = some (.int .i64 od) := (hc' 0 _ rfl).1
                          have O1 : wr.cell? ⟨ba, offa + h5 * 2 + 1, none⟩ = some (.int .i64 os) := (hc' 1 _ rfl).1
                          have h50 : (0 : Int) ≤ (h5 : Int) := by omega
                          have h51 : (h5 : Int) < (q : Int) + 1 := by omega
                          have HTN : Hid ((!noId (A.take (h5 + 1)) id) = (!noId (A.take h5) id || decide (od = id))) := there_next hx
                          have HBZ : Hid (Below w13.heap.size w13 wr) := hnx
                          have hsbr : sb < wr.heap.size := by omega
                          obtain ⟨tb, htb⟩ : ∃ tb, tb = !noId (A.take h5) id := ⟨_, rfl⟩
                          rw [← htb] at HTN ⊢
                          clear hc' hi' hx e' hnx htb
                          cases tb with
                          | true =>
                            have HTT : Hid ((!noId (A.take (h5 + 1)) id) = true) := by show _ = _; rw [HTN.out]; rfl
                            go_wp2
                            go_roundw
                            case rel => exact ⟨h5 + 1, by omega, by go_num, by rw [HTT.out], HBZ.out.trans ((below_a1r _ _).mono HBZ.out.size)⟩
                            case measure => simp [intOf]; omega
                          | false =>
                            by_cases hoi : od = id
                            · have HTT : Hid ((!noId (A.take (h5 + 1)) id) = true) := by show _ = _; rw [HTN.out, decide_eq_true hoi]; rfl
                              subst hoi
                              go_wp2
                              go_roundw
                              case rel => exact ⟨h5 + 1, by omega, by go_num, by rw [HTT.out], HBZ.out.trans ((below_a1r _ _).mono HBZ.out.size)⟩
                              case measure => simp [intOf]; omega
                            · have HTT : Hid ((!noId (A.take (h5 + 1)) id) = false) := by show _ = _; rw [HTN.out, decide_eq_false hoi]; rfl
                              have hoi2 : (od == id) = false := by simpa using hoi
                              go_wp2
                              go_roundw
                              case rel => exact ⟨h5 + 1, by omega, by go_num, by rw [HTT.out], HBZ.out.trans ((below_a1r _ _).mono HBZ.out.size)⟩
                              case measure => simp [intOf]; omega
                        · have h51 : ¬ (h5 : Int) < (q : Int) + 1 := by omega
                          have HTA : Hid (A.take h5 = A) := by show _ = _; rw [List.take_of_length_le (by rw [← HPN.out]; omega)]
                          rw [HTA.out]
                          have AY14 := cell_later hnx AY13
                          have HBF : Hid (Below W1.heap.size W1 wr) := HBX.out.trans (hnx.mono HBX.out.size)
                          have q0 : (0 : Int) ≤ (q : Int) := by omega
                          have q1 : (q : Int) < (q : Int) + 1 := by omega
                          clear hnx
                          cases hnn : noId A id with
                          | true =>
                            have hle := HREST.out hnn
                            have hng : ¬ ys < sl := by omega
                            clear hnn
                            go_wp2
                            go_roundw
                            case rel => exact ⟨j4 + 1, by omega, by go_num, HBF.out⟩
                            case measure => simp [intOf]; omega
                          | false =>
                            clear hnn
                            go_wp2
                            go_roundw
                            case rel => exact ⟨j4 + 1, by omega, by go_num, HBF.out⟩
                            case measure => simp [intOf]; omega
                    · have j41 : ¬ (j4 : Int) < (ml : Int) := by omega
                      have HBG : Hid (Below w12.heap.size w12 wr) := HBW1.out.trans (hnx.mono HBW1.out.size)
                      clear hnx
                      go_wp2
                      go_roundw
                      case rel => exact ⟨i3 + 1, by omega, by go_num, HBG.out⟩
                      case measure => simp [intOf]; omega
                · have i31 : ¬ (i3 : Int) < (rn : Int) := by omega
                  go_wp2
                  go_ret
                  exact ⟨rfl, HB12.out.trans (hnx.mono HB12.out.size)⟩
            · go_wp2
              go_ret
              exact ⟨rfl, HB12.out⟩
          · go_wp2
            go_ret
            exact ⟨rfl, HB12.out⟩
end Go.Proofs.Ytikgcgfigcolmaa
