/- The best of several lists, by going through all: the specification's. No condition but that they fit in memory. The best texts for words: the specification's and the program's. No condition but that they fit in memory. The best of several lists, found ahead of their ends: the specification's. No condition but that they fit in memory. -/
import Derived.Test.YtikgcgfigcolmaaQTbI
import Derived.Deep.RegionWith
import Derived.Test.YtikgcgfigcolmaaQRfT
namespace Go.Proofs.Ytikgcgfigcolmaa
open Go.RowKit
set_option linter.unusedVariables false

theorem idsAll_take {ls : List DRanking} {k : Nat} {r : DRanking} (h : ls[k]? = some r) : idsAll (ls.take (k + 1)) = idsAll (ls.take k) ++ r.map (·.1) := by
  rw [List.take_add_one, h]
  unfold idsAll
  rw [List.flatMap_append]
  simp
theorem sum_ok {ls : List DRanking} (hg : fGoodRankings ls = true) (i : Int) : IntOk (sumL ls i) := by
  have h3 := sumL_bnd (fun r hr y hy => (good_sc hg r hr y hy).1) i
  have h4 := (good_len hg).1
  unfold IntOk
  omega

set_option maxRecDepth 100000 in
set_option maxHeartbeats 4000000 in
theorem l11All_k (ls : List DRanking) (a : Option Addr) (n c : Nat) (S : Nat → Prop) (t : Nat) (w : World) (h : (kRow kRanking).is false w S [.slice a n c] ls) (hg : fGoodRankings ls = true) (ht : t ≤ 60) :
    Calls Try.prog 76 #[.slice a n c, .int .i64 t] w (RScs ((allD ls).take t) w) := by
  have hnl := row_len h
  have h5 : n ≤ 5 := by rw [hnl]; exact (good_len hg).1
  have HNL : Hid (n = ls.length) := hnl
  have H : Hid ((kRow kRanking).is false w S [.slice a n c] ls) := h
  have HG : Hid (fGoodRankings ls = true) := hg
  clear h hnl hg
  go_enter Try.func76, Try.ntmps76
  go_wp2_with fail
  go_loopw [5, 12] (fun sv iv wr => ∃ (k : Nat) (oa : Option Addr) (om oc : Nat) (M : List DScored), k ≤ n ∧ iv = .int .i64 k ∧ sv = .slice oa om oc ∧ Hid (M = putIds (sumL ls) [] (idsAll (ls.take k))) ∧ Hid (M.length ≤ 60 * k) ∧ Hid ((kRow kScored).is true wr (fun q => w.heap.size ≤ q) [.slice oa om oc] M) ∧ Below w.heap.size w wr) (fun _ iv _ => n - (intOf iv).toNat)
  case atStart => exact ⟨0, none, 0, 0, [], Nat.zero_le _, rfl, rfl, by show _ = _; simp [idsAll, putIds, putAll], Nat.zero_le _, row_nil _ _ _ _ _ _, Below.refl _ _⟩
  case round =>
    obtain ⟨k, oa, om, oc, M, hk, rfl, rfl, HI, HML, HO, hnx⟩ := hrel
    have zw := hnx.size
    by_cases hlt : k < n
    · obtain ⟨x, hx⟩ : ∃ x, ls[k]? = some x := ⟨_, List.getElem?_eq_getElem (by rw [← HNL.out]; exact hlt)⟩
      obtain ⟨b, off, B, C, rfl, hb, _, hi, _, hc⟩ := row_at (Kd.below H.out hnx) hx
      obtain ⟨la, lc, T, rfl, hm, hl, _⟩ := kRanking_open hi
      have A0 : wr.cell? ⟨b, off + k, none⟩ = some (.slice la x.length lc) := cell1 (hc 0 _ rfl).1
      have i0 : (0 : Int) ≤ (k : Int) := by omega
      have i1 : (k : Int) < (n : Int) := by omega
      have hxl : x ∈ ls := List.mem_of_getElem? hx
      have q60 := (good_len HG.out).2 x hxl
      have HXB : Hid (∀ y ∈ x, (1 ≤ y.2 ∧ y.2 ≤ 1000000) ∧ (0 ≤ y.1 ∧ y.1 ≤ 1000)) := good_sc HG.out x hxl
      have HIT : Hid (idsAll (ls.take (k + 1)) = idsAll (ls.take k) ++ x.map (·.1)) := idsAll_take hx
      obtain ⟨W1, hW1⟩ : ∃ W1, W1 = wr.alloc (.cells #[.slice la x.length lc] 58) := ⟨_, rfl⟩
      have B1 : Below wr.heap.size wr W1 := by rw [hW1]; exact below_a1r _ _
      have HL : Hid ((kRow kScored).is false W1 T [.slice la x.length lc] x) := Kd.below hl B1
      have HB1 : Hid (Below w.heap.size w W1) := hnx.trans (B1.mono hnx.size)
      have HO1 : Hid ((kRow kScored).is true W1 (fun q => w.heap.size ≤ q) [.slice oa om oc] M) := Kd.below HO.out B1
      obtain ⟨m, hm'⟩ : ∃ m, m = x.length := ⟨_, rfl⟩
      have HM : Hid (m = x.length) := hm'
      rw [← hm'] at A0 HL hW1 q60
      have HI0 : Hid (M = putIds (sumL ls) [] (idsAll (ls.take k) ++ (x.take 0).map (·.1))) := by show _ = _; rw [HI.out]; simp
      have HML0 : Hid (M.length ≤ 60 * k + 0) := HML.out
      have z1 : w.heap.size ≤ W1.heap.size := HB1.out.size
      clear hc hi hx hl hnx B1 hm' hm hxl HI HML HO
      go_wp2_with fail
      rw [← hW1]
      clear hW1
      go_loopw [5, 19] (fun sv jv wq => ∃ (j : Nat) (pa : Option Addr) (pm pc : Nat) (P : List DScored), j ≤ m ∧ jv = .int .i64 j ∧ sv = .slice pa pm pc ∧ Hid (P = putIds (sumL ls) [] (idsAll (ls.take k) ++ (x.take j).map (·.1))) ∧ Hid (P.length ≤ 60 * k + j) ∧ Hid ((kRow kScored).is true wq (fun q => w.heap.size ≤ q) [.slice pa pm pc] P) ∧ Below W1.heap.size W1 wq) (fun _ jv _ => m - (intOf jv).toNat)
      case atStart => exact ⟨0, oa, om, oc, M, Nat.zero_le _, rfl, rfl, HI0, HML0, HO1, Below.refl _ _⟩
      case round =>
        obtain ⟨j, pa, pm, pc, P, hj, rfl, rfl, HJ, HPL, HP, hnq⟩ := hrel
        have HBQ : Hid (Below w.heap.size w wr) := HB1.out.trans (hnq.mono z1)
        have zq := hnq.size
        by_cases hjl : j < m
        · obtain ⟨⟨i, s⟩, hu⟩ : ∃ y, x[j]? = some y := ⟨_, List.getElem?_eq_getElem (by rw [← HM.out]; exact hjl)⟩
          obtain ⟨b2, off2, B2, C2, rfl, hb2, _, hi2, _, hc2⟩ := row_at (Kd.below HL.out hnq) hu
          obtain ⟨rfl, g0, g1⟩ := kScored_open hi2
          have D0 : wr.cell? ⟨b2, off2 + j * 2, none⟩ = some (.int .i64 i) := (hc2 0 _ rfl).1
          have D1 : wr.cell? ⟨b2, off2 + j * 2 + 1, none⟩ = some (.int .i64 s) := (hc2 1 _ rfl).1
          have j0 : (0 : Int) ≤ (j : Int) := by omega
          have j1 : (j : Int) < (m : Int) := by omega
          have hib := HXB.out (i, s) (List.mem_of_getElem? hu)
          simp only at hib
          have HTK : Hid ((x.take (j + 1)).map (·.1) = (x.take j).map (·.1) ++ [i]) := by show _ = _; rw [List.take_add_one, hu]; simp
          obtain ⟨W2, hW2⟩ : ∃ W2, W2 = wr.alloc (.cells #[.int .i64 i, .int .i64 s] 60) := ⟨_, rfl⟩
          have B2' : Below wr.heap.size wr W2 := by rw [hW2]; exact below_a1r _ _
          have E0 : W2.cell? ⟨wr.heap.size, 0, none⟩ = some (.int .i64 i) := by rw [hW2]; simp [go_sem]
          have HB2 : Hid (Below w.heap.size w W2) := HBQ.out.trans (B2'.mono HBQ.out.size)
          have HBJ : Hid (Below W1.heap.size W1 W2) := hnq.trans (B2'.mono hnq.size)
          obtain ⟨sm, hsm⟩ : ∃ sm, sm = sumL ls i := ⟨_, rfl⟩
          have HSM : Hid (sm = sumL ls i) := hsm
          have HC1 : Hid (Calls Try.prog 68 #[.slice (some ⟨b, off, none⟩) n c, .int .i64 i] W2.drew fun e w' => e = .returned (.int .i64 sm) ∧ Below W2.drew.heap.size W2.drew w') := by rw [hsm]; exact l11Sum_k ls _ n c S i _ (Kd.below H.out HB2.out.drew) (good_sumOk HG.out)
          have HC2 : Hid (∀ W, Below W2.heap.size W2 W → Calls Try.prog 67 #[.slice pa pm pc, .agg #[.int .i64 i, .int .i64 sm]] W (RPut P (i, sm) (fun q => w.heap.size ≤ q) W)) := fun W hW => l11Put_k P pa pm pc _ i sm W (Kd.below HP.out (B2'.trans (hW.mono B2'.size))) (by have := HPL.out; omega) (by unfold IntOk; omega) (by rw [hsm]; exact sum_ok HG.out i)
          have HDR : Hid (Below W2.heap.size W2 W2.drew) := (Below.refl _ _).drew
          have z2 : w.heap.size ≤ W2.heap.size := HB2.out.size
          clear hc2 hi2 hu hnq B2' hsm hib
          go_wp2_with fail
          rw [← hW2]
          clear hW2
          go_region_with (first
            | (go_at_call 68; go_fit HC1.out; rintro e w3 ⟨rfl, hb3⟩; have HB3 : Hid (Below W2.heap.size W2 w3) := HDR.out.trans hb3; have E3 := cell_later HB3.out E0; clear hb3)
            | (go_at_call 67; go_fit (HC2.out _ HB3.out); rintro e w4 ⟨a4, n4, c4, rfl, hr4, hb4⟩))
          all_goals
            have HR4 : Hid ((kRow kScored).is true w4 (fun q => w.heap.size ≤ q) [.slice a4 n4 c4] (putL P (i, sm))) := Kd.mono hr4 (fun q hq => by rcases hq with h | h; exact h; have := HB3.out.size; omega)
            have HB4 : Hid (Below W1.heap.size W1 w4) := HBJ.out.trans ((HB3.out.trans (hb4.mono HB3.out.size)).mono HBJ.out.size)
            clear hr4 hb4
            go_wp2
            go_roundw
            case rel => exact ⟨j + 1, a4, n4, c4, putL P (i, sm), by omega, by go_num, rfl, by show _ = _; rw [HTK.out, ← List.append_assoc, putIds_append, ← HJ.out, HSM.out]; rfl, by have := HPL.out; have h2 := putL_length P (i, sm); show _ ≤ _; omega, HR4, HB4.out⟩
            case measure => simp [intOf]; omega
        · have j1 : ¬ (j : Int) < (m : Int) := by omega
          have HE : Hid (P = putIds (sumL ls) [] (idsAll (ls.take (k + 1)))) := by show _ = _; rw [HJ.out, HIT.out, show x.take j = x from List.take_of_length_le (by rw [← HM.out]; omega)]
          have HEL : Hid (P.length ≤ 60 * (k + 1)) := by have := HPL.out; show _ ≤ _; omega
          clear HJ HPL
          go_wp2
          go_roundw
          case rel => exact ⟨k + 1, pa, pm, pc, P, by omega, by go_num, rfl, HE, HEL, HP, HBQ.out⟩
          case measure => simp [intOf]; omega
    · have i1 : ¬ (k : Int) < (n : Int) := by omega
      have HE : Hid (M = allD ls) := by show _ = _; rw [HI.out, show k = ls.length by rw [← HNL.out]; omega, List.take_length]; rfl
      have HBX : Hid (Below w.heap.size w wr) := hnx
      clear HI hnx
      go_wp2_with fail
      refine (l11First_k M oa om oc _ t _ HO.out (by have := HML.out; omega) ht).mono ?_
      rintro e w2 ⟨a2, n2, c2, rfl, hr2, hb2⟩
      have HR2 : Hid ((kRow kScored).is true w2 (fun q => w.heap.size ≤ q) [.slice a2 n2 c2] ((allD ls).take t)) := by rw [← HE.out]; exact Kd.mono hr2 (fun q hq => Nat.le_trans zw hq)
      have HB2 : Hid (Below w.heap.size w w2) := HBX.out.trans (hb2.mono zw)
      clear hr2 hb2
      go_wp2
      go_ret
      exact ⟨a2, n2, c2, rfl, HR2.out, HB2.out⟩

end Go.Proofs.Ytikgcgfigcolmaa
namespace Go.Proofs.Ytikgcgfigcolmaa
open Go.RowKit
set_option linter.unusedVariables false

/-- What RankTexts answers. -/
def RRankTexts (x0 : DWords) (x1 : List ByteArray) (x2 : Int) (w : World) (e : Ending) (w' : World) : Prop := ∃ (a0 : Option Addr) (n0 c0 : Nat) (T0 : Nat → Prop), e = .returned (.tuple #[.slice a0 n0 c0, .bool (fRankTexts x0 x1 x2).2]) ∧ (kRow kScored).is true w' T0 [.slice a0 n0 c0] (fRankTexts x0 x1 x2).1 ∧ (∀ k, T0 k → w.heap.size ≤ k) ∧ sums kScored.cnt (fRankTexts x0 x1 x2).1 ≤ 2 ^ 26 ∧ Below w.heap.size w w'
theorem RRankTexts.no {x0 : DWords} {x1 : List ByteArray} {x2 : Int} {w w' : World} (h : ((fGoodWords x0 && fDistinct x1) && decide (0 ≤ x2 ∧ x2 ≤ 60)) = false) (hb : Below w.heap.size w w') : RRankTexts x0 x1 x2 w (.returned (.tuple #[.slice none 0 0, .bool false])) w' := by
  unfold RRankTexts fRankTexts
  rw [if_neg (by rw [h]; exact Bool.false_ne_true)]
  exact ⟨none, 0, 0, fun _ => False, rfl, row_nil _ _ _ _ _ _, fun k hk => hk.elim, by simp [sums], hb⟩
theorem RRankTexts.no1 {x0 : DWords} {x1 : List ByteArray} {x2 : Int} {w w' : World} (h : (fGoodWords x0 && fDistinct x1) = false) (hb : Below w.heap.size w w') : RRankTexts x0 x1 x2 w (.returned (.tuple #[.slice none 0 0, .bool false])) w' := RRankTexts.no (by rw [h]; rfl) hb
theorem RRankTexts.yes {x0 : DWords} {x1 : List ByteArray} {t : Nat} {w w' : World} (h : fGoodWords x0 = true) (h2 : fDistinct x1 = true) (ht : t ≤ 60) {a : Option Addr} {n c B : Nat} (hr : (kRow kScored).is true w' (fun q => B ≤ q) [.slice a n c] ((allD (rksOf x0 x1)).take t)) (hB : w.heap.size ≤ B) (hb : Below w.heap.size w w') : RRankTexts x0 x1 t w (.returned (.tuple #[.slice a n c, .bool true])) w' := by
  unfold RRankTexts fRankTexts
  rw [if_pos (by rw [h, h2, decide_eq_true (by omega)]; rfl)]
  refine ⟨a, n, c, _, rfl, hr, fun k hk => Nat.le_trans hB hk, ?_, hb⟩
  rw [cnt_scs]
  show ((allD (rksOf x0 x1)).take t).length * 2 ≤ _
  rw [List.length_take]
  omega
theorem rks_sz {x0 : DWords} {x1 : List ByteArray} (h : fGoodWords x0 = true) (h2 : fDistinct x1 = true) : (kRow kRanking).sz (rksOf x0 x1) ≤ 2 ^ 20 := by
  have hg := rks_good h h2
  have h5 := (good_len hg).1
  have h6 := sums_small kRanking.sz 60 (rksOf x0 x1) fun r hr => by
    have := (good_len hg).2 r hr
    show r.length + sums kScored.sz r ≤ 60
    have e : sums kScored.sz r = 0 := sums_zero r
    rw [e]
    omega
  have h7 := Nat.mul_le_mul_left 60 h5
  show (rksOf x0 x1).length + sums kRanking.sz (rksOf x0 x1) ≤ _
  omega
/-- What the best few found ahead of the ends are, for words. -/
theorem RRankTexts.top {x0 : DWords} {x1 : List ByteArray} {x2 : Int} {w w3 w' : World} (h : fGoodWords x0 = true) (h2 : fDistinct x1 = true) {a : Option Addr} {n c : Nat} {T : Nat → Prop} (hr : (kRow kScored).is true w' T [.slice a n c] (fTopBest (rksOf x0 x1) x2).1) (hT : ∀ k, T k → w3.heap.size ≤ k) (hz : w.heap.size ≤ w3.heap.size) (hc : sums kScored.cnt (fTopBest (rksOf x0 x1) x2).1 ≤ 2 ^ 26) (hb : Below w.heap.size w w') : RRankTexts x0 x1 x2 w (.returned (.tuple #[.slice a n c, .bool (fTopBest (rksOf x0 x1) x2).2.2])) w' := by
  have e := top_all (rksOf x0 x1) x2
  have e2 : fAllBest (rksOf x0 x1) x2 = fRankTexts x0 x1 x2 := by
    unfold fAllBest fRankTexts
    rw [rks_good h h2, h, h2]
    rfl
  rw [e2] at e
  rw [e.1] at hr hc
  rw [e.2]
  exact ⟨a, n, c, T, rfl, hr, fun k hk => Nat.le_trans hz (hT k hk), hc, hb⟩

set_option maxRecDepth 100000 in
set_option maxHeartbeats 4000000 in
theorem specRankTexts_k (x0 : DWords) (C0 : List Value) (S0 : Nat → Prop) (x1 : List ByteArray) (a1 : Option Addr) (n1 c1 : Nat) (S1 : Nat → Prop) (x2 : Int) (w : World) (h0 : kWords.is true w S0 C0 x0) (z0 : kWords.sz x0 ≤ 2 ^ 20) (h1 : (kRow kStr).is true w S1 [.slice a1 n1 c1] x1) (z1 : (kRow kStr).sz x1 ≤ 2 ^ 20) (h2 : IntOk x2) :
    Calls Try.prog 33 #[.agg C0.toArray, .slice a1 n1 c1, .int .i64 x2] w (RRankTexts x0 x1 x2 w) := by
  obtain ⟨tx, es⟩ := x0
  have HKT : Hid (kWords.is true w S0 C0 (tx, es)) := h0
  have HK : Hid (kWords.is false w S0 C0 (tx, es)) := Kd.read _ h0
  obtain ⟨a, c, T, rfl, g0, hmx, hr, _⟩ := kWords_open HK.out
  have HZ0 : Hid (kWords.sz (tx, es) ≤ 2 ^ 20) := z0
  have HZ : Hid ((kRow kEntry).sz es ≤ 2 ^ 20) := by have : kWords.sz (tx, es) = 0 + (kRow kEntry).sz es := rfl; show _ ≤ _; omega
  have HZ1 : Hid ((kRow kStr).sz x1 ≤ 2 ^ 20) := z1
  have HRW : Hid ((kRow kEntry).is false w T [.slice a es.length c] es) := hr
  have HW : Hid ((kRow kStr).is true w S1 [.slice a1 n1 c1] x1) := h1
  have HN1 : Hid (n1 = x1.length) := row_len h1
  clear h0 z0 h1 z1 hr
  show Calls Try.prog 33 #[.agg #[.int .i64 tx, .slice a es.length c], .slice a1 n1 c1, .int .i64 x2] w _
  go_enter Try.func33, Try.ntmps33
  go_wp2_with fail
  refine (specGoodWords_k (tx, es) [.int .i64 tx, .slice a es.length c] S0 _ (Kd.below HK.out (below_a1r _ _)) HZ0.out).mono ?_
  rintro e w1 ⟨rfl, hb1⟩
  have X0 : w1.cell? ⟨w.heap.size, 0, none⟩ = some (.int .i64 tx) := by rw [hb1.cell (by simp)]; simp [go_sem]
  have X1 : w1.cell? ⟨w.heap.size, 1, none⟩ = some (.slice a es.length c) := by rw [hb1.cell (by simp)]; simp [go_sem]
  have HB1 : Hid (Below w.heap.size w w1) := (below_a1r _ _).trans (hb1.mono (by simp))
  clear hb1
  cases hg : fGoodWords (tx, es) with
  | false =>
    have HNO : Hid ((fGoodWords (tx, es) && fDistinct x1) = false) := by show _ = _; rw [hg]; rfl
    clear hg
    go_wp2
    refine bodyPost_ret (v := .tuple #[.slice none 0 0, .bool false]) (by simp [results, Try.results33, go_sem]) rfl ?_
    exact RRankTexts.no1 HNO.out HB1.out
  | true =>
    have HG : Hid (fGoodWords (tx, es) = true) := hg
    clear hg
    go_wp2_with fail
    refine (l11Distinct_k x1 a1 n1 c1 S1 _ (Kd.below HW.out HB1.out) HZ1.out).mono ?_
    rintro e w2 ⟨rfl, hb2⟩
    have Y0 := cell_later hb2 X0
    have Y1 := cell_later hb2 X1
    have HB2 : Hid (Below w.heap.size w w2) := HB1.out.trans (hb2.mono HB1.out.size)
    clear hb2 X0 X1
    cases hd : fDistinct x1 with
    | false =>
      have HNO : Hid ((fGoodWords (tx, es) && fDistinct x1) = false) := by show _ = _; rw [hd, Bool.and_false]
      clear hd
      go_wp2
      refine bodyPost_ret (v := .tuple #[.slice none 0 0, .bool false]) (by simp [results, Try.results33, go_sem]) rfl ?_
      exact RRankTexts.no1 HNO.out HB2.out
    | true =>
      have HD : Hid (fDistinct x1 = true) := hd
      have hn5 : n1 ≤ 5 := by unfold fDistinct at hd; simp only [Bool.and_eq_true, decide_eq_true_eq] at hd; rw [HN1.out]; exact hd.2
      obtain ⟨t0, t40⟩ := good_texts HG.out
      have z2 : w.heap.size ≤ w2.heap.size := HB2.out.size
      clear hd
      go_wp2_with fail
      refine (l1In_k x2 0 60 _).mono ?_
      rintro e w4 ⟨rfl, rfl⟩
      by_cases hk : 0 ≤ x2 ∧ x2 ≤ 60
      · rw [decide_eq_true hk]
        obtain ⟨t, rfl⟩ : ∃ t : Nat, x2 = t := ⟨x2.toNat, by omega⟩
        have ht : t ≤ 60 := by omega
        clear hk
        go_wp2_with fail
        refine (l11Rankings_k tx es a c T x1 a1 n1 c1 S1 _ (Kd.below HRW.out HB2.out) HZ.out (Kd.below (Kd.read _ HW.out) HB2.out) HG.out hn5).mono ?_
        rintro e w3 ⟨ra, rn, rc, rfl, hr3, hb3⟩
        have HR3 : Hid ((kRow kRanking).is true w3 (fun q => w4.heap.size ≤ q) [.slice ra rn rc] (rksOf (tx, es) x1)) := hr3
        have HB3 : Hid (Below w.heap.size w w3) := HB2.out.trans (hb3.mono z2)
        have z3 : w.heap.size ≤ w3.heap.size := HB3.out.size
        clear hr3 hb3
        go_wp2_with fail
        refine (l11All_k (rksOf (tx, es) x1) ra rn rc _ t _ (Kd.read _ HR3.out) (rks_good HG.out HD.out) ht).mono ?_
        rintro e w5 ⟨a5, n5, c5, rfl, hr5, hb5⟩
        have HB5 : Hid (Below w.heap.size w w5) := HB3.out.trans (hb5.mono z3)
        have HR5 : Hid ((kRow kScored).is true w5 (fun q => w3.heap.size ≤ q) [.slice a5 n5 c5] ((allD (rksOf (tx, es) x1)).take t)) := hr5
        clear hb5 hr5
        go_wp2
        refine bodyPost_ret (v := .tuple #[.slice a5 n5 c5, .bool true]) (by simp [results, Try.results33, go_sem]) rfl ?_
        exact RRankTexts.yes HG.out HD.out ht HR5.out z3 HB5.out
      · rw [decide_eq_false hk]
        have HNO : Hid (((fGoodWords (tx, es) && fDistinct x1) && decide (0 ≤ x2 ∧ x2 ≤ 60)) = false) := by show _ = _; rw [decide_eq_false hk, Bool.and_false]
        clear hk
        go_wp2
        refine bodyPost_ret (v := .tuple #[.slice none 0 0, .bool false]) (by simp [results, Try.results33, go_sem]) rfl ?_
        exact RRankTexts.no HNO.out HB2.out

set_option maxRecDepth 100000 in
set_option maxHeartbeats 4000000 in
theorem implRankTexts_k (x0 : DWords) (C0 : List Value) (S0 : Nat → Prop) (x1 : List ByteArray) (a1 : Option Addr) (n1 c1 : Nat) (S1 : Nat → Prop) (x2 : Int) (w : World) (h0 : kWords.is true w S0 C0 x0) (z0 : kWords.sz x0 ≤ 2 ^ 20) (h1 : (kRow kStr).is true w S1 [.slice a1 n1 c1] x1) (z1 : (kRow kStr).sz x1 ≤ 2 ^ 20) (h2 : IntOk x2) :
    Calls Try.prog 32 #[.agg C0.toArray, .slice a1 n1 c1, .int .i64 x2] w (RRankTexts x0 x1 x2 w) := by
  obtain ⟨tx, es⟩ := x0
  have HKT : Hid (kWords.is true w S0 C0 (tx, es)) := h0
  have HK : Hid (kWords.is false w S0 C0 (tx, es)) := Kd.read _ h0
  obtain ⟨a, c, T, rfl, g0, hmx, hr, _⟩ := kWords_open HK.out
  have HZ0 : Hid (kWords.sz (tx, es) ≤ 2 ^ 20) := z0
  have HZ : Hid ((kRow kEntry).sz es ≤ 2 ^ 20) := by have : kWords.sz (tx, es) = 0 + (kRow kEntry).sz es := rfl; show _ ≤ _; omega
  have HZ1 : Hid ((kRow kStr).sz x1 ≤ 2 ^ 20) := z1
  have HRW : Hid ((kRow kEntry).is false w T [.slice a es.length c] es) := hr
  have HW : Hid ((kRow kStr).is true w S1 [.slice a1 n1 c1] x1) := h1
  have HN1 : Hid (n1 = x1.length) := row_len h1
  have HX2 : Hid (IntOk x2) := h2
  clear h0 z0 h1 z1 hr h2
  show Calls Try.prog 32 #[.agg #[.int .i64 tx, .slice a es.length c], .slice a1 n1 c1, .int .i64 x2] w _
  go_enter Try.func32, Try.ntmps32
  go_wp2_with fail
  refine (implRankingsFor_k (tx, es) [.int .i64 tx, .slice a es.length c] S0 x1 a1 n1 c1 S1 _ (Kd.below HKT.out (below_a1r _ _)) HZ0.out (Kd.below HW.out (below_a1r _ _)) HZ1.out).mono ?_
  rintro e w3 ⟨ra, rn, rc, T3, rfl, hr3, hT3, _, hb3⟩
  have Y0 : w3.cell? ⟨w.heap.size, 0, none⟩ = some (.int .i64 tx) := by rw [hb3.cell (by simp)]; simp [go_sem]
  have HB3 : Hid (Below w.heap.size w w3) := (below_a1r _ _).trans (hb3.mono (by simp))
  have z3 : w.heap.size ≤ w3.heap.size := HB3.out.size
  clear hb3
  cases hgd : (fGoodWords (tx, es) && fDistinct x1) with
  | false =>
    have e : fRankingsFor (tx, es) x1 = ([], false) := by unfold fRankingsFor; rw [if_neg (by rw [hgd]; exact Bool.false_ne_true)]
    have HNO : Hid ((fGoodWords (tx, es) && fDistinct x1) = false) := hgd
    rw [e]
    clear hgd e hr3 hT3
    go_wp2
    refine bodyPost_ret (v := .tuple #[.slice none 0 0, .bool false]) (by simp [results, Try.results32, go_sem]) rfl ?_
    exact RRankTexts.no1 HNO.out HB3.out
  | true =>
    have e : fRankingsFor (tx, es) x1 = (rksOf (tx, es) x1, true) := by unfold fRankingsFor; rw [if_pos hgd]
    rw [e] at hr3 ⊢
    obtain ⟨hg', hd'⟩ : fGoodWords (tx, es) = true ∧ fDistinct x1 = true := by simpa using hgd
    have HG : Hid (fGoodWords (tx, es) = true) := hg'
    have HD : Hid (fDistinct x1 = true) := hd'
    have HR3 : Hid ((kRow kRanking).is true w3 T3 [.slice ra rn rc] (rksOf (tx, es) x1)) := hr3
    obtain ⟨t0, t40⟩ := good_texts HG.out
    clear hgd e hr3 hg' hd'
    clear hT3
    go_wp2_with fail
    refine (implTopBest_k (rksOf (tx, es) x1) ra rn rc T3 x2 _ HR3.out (rks_sz HG.out HD.out) HX2.out).mono ?_
    rintro e w5 ⟨a5, n5, c5, T5, rfl, hr5, hT5, hc5, _, hb5⟩
    have HB5 : Hid (Below w.heap.size w w5) := HB3.out.trans (hb5.mono z3)
    have HY : Hid (RRankTexts (tx, es) x1 x2 w (.returned (.tuple #[.slice a5 n5 c5, .bool (fTopBest (rksOf (tx, es) x1) x2).2.2])) w5) := RRankTexts.top HG.out HD.out hr5 hT5 z3 hc5 HB5.out
    clear hb5 hr5 hT5 hc5
    generalize (fTopBest (rksOf (tx, es) x1) x2).2.2 = q2 at *
    generalize (fTopBest (rksOf (tx, es) x1) x2).2.1 = q1 at *
    go_wp2
    refine bodyPost_ret (v := .tuple #[.slice a5 n5 c5, .bool q2]) (by simp [results, Try.results32, go_sem]) rfl ?_
    exact HY.out
end Go.Proofs.Ytikgcgfigcolmaa
namespace Go.Proofs.Ytikgcgfigcolmaa
open Go.RowKit
set_option linter.unusedVariables false

theorem outD_len (ls : List DRanking) (d : Nat) (h5 : ls.length ≤ 5) (hd : d ≤ 60) : (outD ls d).length ≤ 300 := by
  rw [← (metD_perm ls d).length_eq]
  exact metD_len ls d h5 hd
theorem topD_is {ls : List DRanking} (hg : fGoodRankings ls = true) {t : Nat} (ht : 1 ≤ t) : topI ls t 61 0 = topD ls t 61 0 :=
  top_same ls t ht 60 0 (by show ¬ t ≤ cntA [] 0; rw [cntA]; omega) (by rw [Nat.zero_add]; exact atDp_none (good_len hg).2)
theorem RTopBest.zero {x0 : List DRanking} {w w' : World} (h : fGoodRankings x0 = true) (hb : Below w.heap.size w w') : RTopBest x0 0 w (.returned (.tuple #[.slice none 0 0, .int .i64 0, .bool true])) w' := by
  have e : topI x0 0 61 0 = 0 := by rw [topI, if_pos (Nat.zero_le _)]
  exact RTopBest.yes (t := 0) h (by omega) e (B := w.heap.size) (row_nil _ _ _ _ _ _) (Nat.le_refl _) hb
theorem mapFst_append (a : List DScored) (x : DScored) : (a ++ [x]).map (·.1) = a.map (·.1) ++ [x.1] := by simp

set_option maxRecDepth 100000 in
set_option maxHeartbeats 8000000 in
theorem specTopBest_k (x0 : List DRanking) (a0 : Option Addr) (n0 c0 : Nat) (S0 : Nat → Prop) (x1 : Int) (w : World) (h0 : (kRow kRanking).is true w S0 [.slice a0 n0 c0] x0) (z0 : (kRow kRanking).sz x0 ≤ 2 ^ 20) (h1 : IntOk x1) :
    Calls Try.prog 25 #[.slice a0 n0 c0, .int .i64 x1] w (RTopBest x0 x1 w) := by
  have H : Hid ((kRow kRanking).is true w S0 [.slice a0 n0 c0] x0) := h0
  have HZ : Hid ((kRow kRanking).sz x0 ≤ 2 ^ 20) := z0
  have HN : Hid (n0 = x0.length) := row_len h0
  clear h0 z0 h1
  go_enter Try.func25, Try.ntmps25
  go_wp2_with fail
  refine (specGoodRankings_k x0 a0 n0 c0 S0 _ H.out HZ.out).mono ?_
  rintro e w1 ⟨rfl, hb1⟩
  have HB1 : Hid (Below w.heap.size w w1) := hb1
  clear hb1
  cases hg : fGoodRankings x0 with
  | false =>
    have HNO : Hid ((fGoodRankings x0 && decide (0 ≤ x1 ∧ x1 ≤ 60)) = false) := by show _ = _; rw [hg]; rfl
    clear hg
    go_wp2
    refine bodyPost_ret (v := .tuple #[.slice none 0 0, .int .i64 0, .bool false]) (by simp [results, Try.results25, go_sem]) rfl ?_
    exact RTopBest.no HNO.out HB1.out
  | true =>
    have HG : Hid (fGoodRankings x0 = true) := hg
    clear hg
    go_wp2_with fail
    refine (l1In_k x1 0 60 _).mono ?_
    rintro e w2 ⟨rfl, rfl⟩
    by_cases hk : 0 ≤ x1 ∧ x1 ≤ 60
    case neg =>
      rw [decide_eq_false hk]
      have HNO : Hid ((fGoodRankings x0 && decide (0 ≤ x1 ∧ x1 ≤ 60)) = false) := by show _ = _; rw [decide_eq_false hk, Bool.and_false]
      clear hk
      go_wp2
      refine bodyPost_ret (v := .tuple #[.slice none 0 0, .int .i64 0, .bool false]) (by simp [results, Try.results25, go_sem]) rfl ?_
      exact RTopBest.no HNO.out HB1.out
    rw [decide_eq_true hk]
    by_cases hk0 : x1 = 0
    · subst hk0
      clear hk
      go_wp2
      refine bodyPost_ret (v := .tuple #[.slice none 0 0, .int .i64 0, .bool true]) (by simp [results, Try.results25, go_sem]) rfl ?_
      exact RTopBest.zero HG.out HB1.out
    · obtain ⟨t, rfl⟩ : ∃ t : Nat, x1 = t := ⟨x1.toNat, by omega⟩
      have ht : t ≤ 60 := by omega
      have ht1 : 1 ≤ t := by omega
      have hk0' : ((t : Int) == 0) = false := by simpa using hk0
      have h5 : n0 ≤ 5 := by rw [HN.out]; exact (good_len HG.out).1
      have H5 : Hid (x0.length ≤ 5) := (good_len HG.out).1
      have z2 : w.heap.size ≤ w2.heap.size := HB1.out.size
      have HR2 : Hid ((kRow kRanking).is false w2 S0 [.slice a0 n0 c0] x0) := Kd.below (Kd.read _ H.out) HB1.out
      have HTD : Hid (topI x0 t 61 0 = topD x0 t 61 0) := topD_is HG.out ht1
      clear hk hk0
      go_wp2_with fail
      go_loopw [7, 8] (fun sv dv wr => ∃ (d : Nat) (oa : Option Addr) (om oc : Nat), d ≤ 60 ∧ dv = .int .i64 d ∧ sv = .slice oa om oc ∧ Hid (topD x0 t (61 - d) d = topI x0 t 61 0) ∧ Hid ((kRow kScored).is true wr (fun q => w2.heap.size ≤ q) [.slice oa om oc] (outD x0 d)) ∧ Below w2.heap.size w2 wr) (fun _ dv _ => 61 - (intOf dv).toNat)
      case atStart => exact ⟨0, none, 0, 0, by omega, rfl, rfl, HTD.out.symm, row_nil _ _ _ _ _ _, Below.refl _ _⟩
      case round =>
        obtain ⟨d, oa, om, oc, hd, rfl, rfl, HT, HO, hnx⟩ := hrel
        have HT1 : Hid (topD x0 t (60 - d + 1) d = topI x0 t 61 0) := by have := HT.out; rw [show 61 - d = 60 - d + 1 by omega] at this; exact this
        have HBR : Hid (Below w2.heap.size w2 wr) := hnx
        obtain ⟨W1, hW1⟩ : ∃ W1, W1 = wr := ⟨_, rfl⟩
        have HW1 : Hid (W1 = wr) := hW1
        rw [← hW1] at HO HBR
        have z1 : w2.heap.size ≤ W1.heap.size := HBR.out.size
        have HOL : Hid ((outD x0 d).length ≤ 300) := outD_len x0 d H5.out hd
        clear HT hnx hW1
        go_wp2_with fail
        rw [← HW1.out]
        clear HW1
        go_loopw [7, 9, 10, 28] (fun sv uv bv iv wq => ∃ (k : Nat) (pa : Option Addr) (pm pc : Nat) (P : List DScored) (u : Int) (q : Bool), k ≤ n0 ∧ iv = .int .i64 k ∧ sv = .slice pa pm pc ∧ uv = .int .i64 u ∧ bv = .bool q ∧ Hid (P = putIds (sumL x0) (outD x0 d) ((atDp (x0.take k) d).map (·.1))) ∧ Hid (u = sumSc (atDp (x0.take k) d)) ∧ Hid (q = !decide (atDp (x0.take k) d = [])) ∧ (0 ≤ u ∧ u ≤ 1000000 * k) ∧ Hid (P.length ≤ 300 + k) ∧ Hid ((kRow kScored).is true wq (fun q => w2.heap.size ≤ q) [.slice pa pm pc] P) ∧ Below W1.heap.size W1 wq) (fun _ _ _ iv _ => n0 - (intOf iv).toNat)
        case atStart => exact ⟨0, oa, om, oc, outD x0 d, 0, false, Nat.zero_le _, rfl, rfl, rfl, rfl, rfl, rfl, by show _ = _; rw [decide_eq_true (by simp [atDp])]; rfl, by omega, HOL.out, HO, Below.refl _ _⟩
        case round =>
          obtain ⟨k, pa, pm, pc, P, u, q, hk, rfl, rfl, rfl, rfl, HJ, HU, HQ, hu, HPL, HP, hnq⟩ := hrel
          obtain ⟨u1, u2⟩ := hu
          have HBQ : Hid (Below w2.heap.size w2 wr) := HBR.out.trans (hnq.mono z1)
          have zq := hnq.size
          by_cases hlt : k < n0
          · obtain ⟨x, hx⟩ : ∃ x, x0[k]? = some x := ⟨_, List.getElem?_eq_getElem (by rw [← HN.out]; exact hlt)⟩
            obtain ⟨b, off, B, C, rfl, hb, _, hi, _, hc⟩ := row_at (Kd.below HR2.out HBQ.out) hx
            obtain ⟨la, lc, T, rfl, hm, hl, _⟩ := kRanking_open hi
            have A0 : wr.cell? ⟨b, off + k, none⟩ = some (.slice la x.length lc) := cell1 (hc 0 _ rfl).1
            have i0 : (0 : Int) ≤ (k : Int) := by omega
            have i1 : (k : Int) < (n0 : Int) := by omega
            have hxl : x ∈ x0 := List.mem_of_getElem? hx
            have HAT : Hid (atDp (x0.take (k + 1)) d = atDp (x0.take k) d ++ (match x[d]? with | none => [] | some y => [y])) := atDp_take hx
            have HXB : Hid (∀ y ∈ x, (1 ≤ y.2 ∧ y.2 ≤ 1000000) ∧ (0 ≤ y.1 ∧ y.1 ≤ 1000)) := good_sc HG.out x hxl
            obtain ⟨W2, hW2⟩ : ∃ W2, W2 = wr.alloc (.cells #[.slice la x.length lc] 58) := ⟨_, rfl⟩
            have B2 : Below wr.heap.size wr W2 := by rw [hW2]; exact below_a1r _ _
            have HL : Hid ((kRow kScored).is false W2 T [.slice la x.length lc] x) := Kd.below hl B2
            have X2 : W2.cell? ⟨wr.heap.size, 0, none⟩ = some (.slice la x.length lc) := by rw [hW2]; simp [go_sem]
            have HB2 : Hid (Below W1.heap.size W1 W2) := hnq.trans (B2.mono hnq.size)
            have HP2 : Hid ((kRow kScored).is true W2 (fun q => w2.heap.size ≤ q) [.slice pa pm pc] P) := Kd.below HP.out B2
            obtain ⟨m, hm'⟩ : ∃ m, m = x.length := ⟨_, rfl⟩
            have HM : Hid (m = x.length) := hm'
            have hm2 : m ≤ 9223372036854775807 := by rw [hm']; exact hm
            rw [← hm'] at A0 HL hW2 X2
            clear hc hi hx hl hnq B2 hm' hm hxl HP
            by_cases hdm : d < m
            · obtain ⟨⟨i, s⟩, hy⟩ : ∃ y, x[d]? = some y := ⟨_, List.getElem?_eq_getElem (by rw [← HM.out]; exact hdm)⟩
              obtain ⟨b3, off3, B3, C3, rfl, hb3, _, hi3, _, hc3⟩ := row_at HL.out hy
              obtain ⟨rfl, g0, g1⟩ := kScored_open hi3
              have D0 : W2.cell? ⟨b3, off3 + d * 2, none⟩ = some (.int .i64 i) := (hc3 0 _ rfl).1
              have D1 : W2.cell? ⟨b3, off3 + d * 2 + 1, none⟩ = some (.int .i64 s) := (hc3 1 _ rfl).1
              have hib := HXB.out (i, s) (List.mem_of_getElem? hy)
              simp only at hib
              obtain ⟨⟨s1, s2⟩, hib2⟩ := hib
              have HAT2 : Hid (atDp (x0.take (k + 1)) d = atDp (x0.take k) d ++ [(i, s)]) := by show _ = _; rw [HAT.out, hy]
              obtain ⟨W3, hW3⟩ : ∃ W3, W3 = W2.alloc (.cells #[.int .i64 i, .int .i64 s] 60) := ⟨_, rfl⟩
              have B3' : Below W2.heap.size W2 W3 := by rw [hW3]; exact below_a1r _ _
              have E0 : W3.cell? ⟨W2.heap.size, 0, none⟩ = some (.int .i64 i) := by rw [hW3]; simp [go_sem]
              have E1 : W3.cell? ⟨W2.heap.size, 1, none⟩ = some (.int .i64 s) := by rw [hW3]; simp [go_sem]
              have hzW : W2.heap.size = wr.heap.size + 1 := by rw [hW2]; simp
              rw [hzW] at E0 E1
              clear hzW
              have HBJ : Hid (Below W1.heap.size W1 W3) := HB2.out.trans (B3'.mono HB2.out.size)
              have HB3 : Hid (Below w2.heap.size w2 W3) := HBR.out.trans (HBJ.out.mono z1)
              obtain ⟨sm, hsm⟩ : ∃ sm, sm = sumL x0 i := ⟨_, rfl⟩
              have HSM : Hid (sm = sumL x0 i) := hsm
              have HC1 : Hid (Calls Try.prog 68 #[.slice (some ⟨b, off, none⟩) n0 c0, .int .i64 i] W3.drew fun e w' => e = .returned (.int .i64 sm) ∧ Below W3.drew.heap.size W3.drew w') := by rw [hsm]; exact l11Sum_k x0 _ n0 c0 S0 i _ (Kd.below HR2.out HB3.out.drew) (good_sumOk HG.out)
              have HC2 : Hid (∀ W, Below W3.heap.size W3 W → Calls Try.prog 67 #[.slice pa pm pc, .agg #[.int .i64 i, .int .i64 sm]] W (RPut P (i, sm) (fun q => w2.heap.size ≤ q) W)) := fun W hW => l11Put_k P pa pm pc _ i sm W (Kd.below HP2.out (B3'.trans (hW.mono B3'.size))) (by have := HPL.out; omega) (by unfold IntOk; omega) (by rw [hsm]; exact sum_ok HG.out i)
              have HDR : Hid (Below W3.heap.size W3 W3.drew) := (Below.refl _ _).drew
              have z3 : w2.heap.size ≤ W3.heap.size := HB3.out.size
              have dm : (d : Int) < (m : Int) := by omega
              have d0 : (0 : Int) ≤ (d : Int) := by omega
              have D0' := D0
              have D1' := D1
              rw [hW2] at D0' D1'
              clear hc3 hi3 hy B3' hsm
              go_wp2_with fail
              rw [← hW2]
              rw [← hW3]
              clear hW2 hW3 D0' D1'
              go_region_with (first
                | (go_at_call 68; go_fit HC1.out; rintro e w5 ⟨rfl, hb5⟩; have HB5 : Hid (Below W3.heap.size W3 w5) := HDR.out.trans hb5; have E5 := cell_later HB5.out E0; clear hb5)
                | (go_at_call 67; go_fit (HC2.out _ HB5.out); rintro e w6 ⟨a6, n6, c6, rfl, hr6, hb6⟩))
              all_goals
                have HR6 : Hid ((kRow kScored).is true w6 (fun q => w2.heap.size ≤ q) [.slice a6 n6 c6] (putL P (i, sm))) := Kd.mono hr6 (fun q hq => by rcases hq with h | h; exact h; have := HB5.out.size; omega)
                have HB6 : Hid (Below W1.heap.size W1 w6) := HBJ.out.trans ((HB5.out.trans (hb6.mono HB5.out.size)).mono HBJ.out.size)
                clear hr6 hb6
                go_wp2
                go_roundw
                case rel => exact ⟨k + 1, a6, n6, c6, putL P (i, sm), u + s, true, by omega, by go_num, rfl, by first | rfl | go_num, rfl, by show _ = _; rw [HAT2.out, mapFst_append, putIds_append, ← HJ.out, HSM.out]; rfl, by show _ = _; rw [HAT2.out, sumSc_append, ← HU.out]; simp [sumSc], by show _ = _; rw [HAT2.out, decide_eq_false (by simp)]; rfl, by omega, by have := HPL.out; have h2 := putL_length P (i, sm); show _ ≤ _; omega, HR6, HB6.out⟩
                case measure => simp [intOf]; omega
            · have dm : ¬ (d : Int) < (m : Int) := by omega
              have HAT2 : Hid (atDp (x0.take (k + 1)) d = atDp (x0.take k) d) := by show _ = _; rw [HAT.out, List.getElem?_eq_none (by rw [← HM.out]; omega)]; simp
              go_wp2
              rw [← hW2]
              clear hW2
              go_roundw
              case rel => exact ⟨k + 1, pa, pm, pc, P, u, q, by omega, by go_num, rfl, rfl, rfl, by show _ = _; rw [HAT2.out]; exact HJ.out, by show _ = _; rw [HAT2.out]; exact HU.out, by show _ = _; rw [HAT2.out]; exact HQ.out, by omega, by have := HPL.out; show _ ≤ _; omega, HP2, HB2.out⟩
              case measure => simp [intOf]; omega
          · have i1 : ¬ (k : Int) < (n0 : Int) := by omega
            have hat : atDp (x0.take k) d = atDp x0 d := by rw [List.take_of_length_le (by rw [← HN.out]; omega)]
            have HBF : Hid (Below w.heap.size w wr) := HB1.out.trans (HBQ.out.mono z2)
            have HBX : Hid (Below w2.heap.size w2 wr) := HBQ.out
            have zf : w2.heap.size ≤ wr.heap.size := HBQ.out.size
            clear hnq
            by_cases hemp : atDp x0 d = []
            · have HEND : Hid (topI x0 t 61 0 = d) := by have := HT1.out; rw [topD, if_pos hemp] at this; exact this.symm
              have HPD : Hid (P = outD x0 d) := by show _ = _; rw [HJ.out, hat, hemp]; rfl
              have hq : q = false := by rw [HQ.out, hat, decide_eq_true hemp]; rfl
              subst hq
              clear hemp hat HJ HU HQ HT1
              go_wp2_with fail
              refine (l11First_k P pa pm pc _ t _ HP.out (by have := HPL.out; omega) ht).mono ?_
              rintro e w7 ⟨a7, n7, c7, rfl, hr7, hb7⟩
              have HR7 : Hid ((kRow kScored).is true w7 (fun q => wr.heap.size ≤ q) [.slice a7 n7 c7] ((outD x0 d).take t)) := by rw [← HPD.out]; exact hr7
              have HB7 : Hid (Below w.heap.size w w7) := HBF.out.trans (hb7.mono HBF.out.size)
              clear hr7 hb7
              go_wp2
              refine bodyPost_ret (v := .tuple #[.slice a7 n7 c7, .int .i64 d, .bool true]) (by simp [results, Try.results25, go_sem]) rfl ?_
              exact RTopBest.yes HG.out ht HEND.out HR7.out HBF.out.size HB7.out
            · have HPD : Hid (P = outD x0 (d + 1)) := by show _ = _; rw [HJ.out, hat, outD_next]; rfl
              have HUD : Hid (u = thrD x0 d) := by show _ = _; rw [HU.out, hat]; rfl
              have hq : q = true := by rw [HQ.out, hat, decide_eq_false hemp]; rfl
              have hd60 : d < 60 := by
                rcases Nat.lt_or_ge d 60 with h | h
                · exact h
                · exact absurd (atDp_none fun r hr => Nat.le_trans ((good_len HG.out).2 r hr) h) hemp
              have HT2 : Hid ((if reach P t u = true then d + 1 else topD x0 t (60 - d) (d + 1)) = topI x0 t 61 0) := by have := HT1.out; rw [topD, if_neg hemp] at this; show _ = _; rw [HPD.out, HUD.out]; exact this
              subst hq
              have hpm : pm = P.length := row_len HP.out
              have HPM : Hid (pm = P.length) := hpm
              have pm1 : pm ≤ 1000 := by have := HPL.out; omega
              clear hemp hat HJ HU HQ HT1 hpm
              by_cases hlen : t ≤ pm
              · obtain ⟨⟨i, s⟩, hy⟩ : ∃ y, P[t - 1]? = some y := ⟨_, List.getElem?_eq_getElem (by rw [← HPM.out]; omega)⟩
                obtain ⟨b3, off3, B3, C3, rfl, hb3, _, hi3, _, hc3⟩ := row_at HP.out hy
                obtain ⟨rfl, g0, g1⟩ := kScored_open hi3
                have D1 : wr.cell? ⟨b3, off3 + (t - 1) * 2 + 1, none⟩ = some (.int .i64 s) := ((hc3 1 _ rfl).1)
                have HRE : Hid (reach P t u = decide (u + 1 ≤ s)) := by show _ = _; unfold reach; rw [hy]
                have l1 : (t : Int) ≤ (pm : Int) := by omega
                obtain ⟨v, hv⟩ : ∃ v, v = t - 1 := ⟨_, rfl⟩
                rw [← hv] at D1
                have l2 : (t : Int) - 1 = (v : Int) := by omega
                have l3 : (v : Int) < (pm : Int) := by omega
                have l4 : (0 : Int) ≤ (v : Int) := by omega
                clear hc3 hi3 hy hv hlen
                by_cases hsc : u + 1 ≤ s
                · have HEND : Hid (topI x0 t 61 0 = d + 1) := by have := HT2.out; rw [HRE.out, decide_eq_true hsc, if_pos rfl] at this; exact this.symm
                  go_wp2_with fail
                  refine (l11First_k P _ pm pc _ t _ HP.out (by have := HPL.out; omega) ht).mono ?_
                  rintro e w7 ⟨a7, n7, c7, rfl, hr7, hb7⟩
                  have HR7 : Hid ((kRow kScored).is true w7 (fun q => wr.heap.size ≤ q) [.slice a7 n7 c7] ((outD x0 (d + 1)).take t)) := by rw [← HPD.out]; exact hr7
                  have HB7 : Hid (Below w.heap.size w w7) := HBF.out.trans (hb7.mono HBF.out.size)
                  clear hr7 hb7
                  go_wp2
                  refine bodyPost_ret (v := .tuple #[.slice a7 n7 c7, .int .i64 ((d + 1 : Nat) : Int), .bool true]) (by simp [results, Try.results25, go_sem]) rfl ?_
                  exact RTopBest.yes HG.out ht HEND.out HR7.out HBF.out.size HB7.out
                · have HT3 : Hid (topD x0 t (61 - (d + 1)) (d + 1) = topI x0 t 61 0) := by have := HT2.out; rw [HRE.out, decide_eq_false hsc, if_neg Bool.false_ne_true] at this; show _ = _; rw [show 61 - (d + 1) = 60 - d by omega]; exact this
                  have HPO : Hid ((kRow kScored).is true wr (fun q => w2.heap.size ≤ q) [.slice (some ⟨b3, off3, none⟩) pm pc] (outD x0 (d + 1))) := by rw [← HPD.out]; exact HP.out
                  go_wp2
                  go_roundw
                  case rel => exact ⟨d + 1, _, pm, pc, by omega, by go_num, rfl, HT3, HPO, HBX.out⟩
                  case measure => simp [intOf]; omega
              · have l1 : ¬ (t : Int) ≤ (pm : Int) := by omega
                have HT3 : Hid (topD x0 t (61 - (d + 1)) (d + 1) = topI x0 t 61 0) := by
                  have := HT2.out
                  rw [show reach P t u = false by unfold reach; rw [List.getElem?_eq_none (by rw [← HPM.out]; omega)], if_neg Bool.false_ne_true] at this
                  show _ = _
                  rw [show 61 - (d + 1) = 60 - d by omega]
                  exact this
                have HPO : Hid ((kRow kScored).is true wr (fun q => w2.heap.size ≤ q) [.slice pa pm pc] (outD x0 (d + 1))) := by rw [← HPD.out]; exact HP.out
                go_wp2
                go_roundw
                case rel => exact ⟨d + 1, pa, pm, pc, by omega, by go_num, rfl, HT3, HPO, HBX.out⟩
                case measure => simp [intOf]; omega
end Go.Proofs.Ytikgcgfigcolmaa
