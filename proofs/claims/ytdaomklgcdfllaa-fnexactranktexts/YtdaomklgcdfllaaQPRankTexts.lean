/- The best texts for words: the specification's and the program's. No condition but that they fit in memory. The law of RankTexts, walked: over what the program and the specification answer. No condition. FnExactRankTexts: for all arguments the law answers true and its arguments read as they did. No condition. -/
import Derived.Test.YtdaomklgcdfllaaQRfT
import Derived.Test.YtdaomklgcdfllaaQSbS
import Derived.Test.YtdaomklgcdfllaaQKOstring
namespace Go.Proofs.Ytdaomklgcdfllaa
open Go.RowKit
set_option linter.unusedVariables false

/-- What RankTexts answers. -/
def RRankTexts (x0 : DWords) (x1 : List ByteArray) (x2 : Int) (w : World) (e : Ending) (w' : World) : Prop := ∃ (a0 : Option Addr) (n0 c0 : Nat) (T0 : Nat → Prop), e = .returned (.tuple #[.slice a0 n0 c0, .bool (fRankTexts x0 x1 x2).2]) ∧ (kRow kScored).is true w' T0 [.slice a0 n0 c0] (fRankTexts x0 x1 x2).1 ∧ (∀ k, T0 k → w.heap.size ≤ k) ∧ sums kScored.cnt (fRankTexts x0 x1 x2).1 ≤ 2 ^ 26 ∧ Below w.heap.size w w'
theorem RRankTexts.no {x0 : DWords} {x1 : List ByteArray} {x2 : Int} {w w' : World} (h : ((fGoodWords x0 && fDistinct x1) && decide (0 ≤ x2 ∧ x2 ≤ 60)) = false) (hb : Below w.heap.size w w') : RRankTexts x0 x1 x2 w (.returned (.tuple #[.slice none 0 0, .bool false])) w' := by
  unfold RRankTexts fRankTexts
  rw [if_neg (by rw [h]; exact Bool.false_ne_true)]
  exact ⟨none, 0, 0, fun _ => False, rfl, row_nil _ _ _ _ _ _, fun k hk => hk.elim, by simp [sums], hb⟩
theorem RRankTexts.no1 {x0 : DWords} {x1 : List ByteArray} {x2 : Int} {w w' : World} (h : (fGoodWords x0 && fDistinct x1) = false) (hb : Below w.heap.size w w') : RRankTexts x0 x1 x2 w (.returned (.tuple #[.slice none 0 0, .bool false])) w' := RRankTexts.no (by rw [h]; rfl) hb
theorem RRankTexts.yes {x0 : DWords} {x1 : List ByteArray} {t : Nat} {w w' : World} (h : fGoodWords x0 = true) (h2 : fDistinct x1 = true) (ht : t ≤ 60) {a : Option Addr} {n c B : Nat} (hr : (kRow kScored).is true w' (fun q => B ≤ q) [.slice a n c] ((allD (rksOf x0 x1)).take t)) (hB : w.heap.size ≤ B) (hb : Below w.heap.size w w') : RRankTexts x0 x1 t w (.returned (.tuple #[.slice a n c, .bool true])) w' := by
  unfold RRankTexts fRankTexts
  rw [if_pos (by rw [h, h2, decide_eq_true (by omega)]; rfl)]
  refine ⟨a, n, c, _, rfl, hr, fun k hk => Nat.le_trans hB hk, ?_, hb⟩
  rw [cnt_scs]
  show ((allD (rksOf x0 x1)).take t).length * 2 ≤ _
  rw [List.length_take]
  omega
theorem rks_sz {x0 : DWords} {x1 : List ByteArray} (h : fGoodWords x0 = true) (h2 : fDistinct x1 = true) : (kRow kRanking).sz (rksOf x0 x1) ≤ 2 ^ 20 := by
  have hg := rks_good h h2
  have h5 := (good_len hg).1
  have h6 := sums_small kRanking.sz 60 (rksOf x0 x1) fun r hr => by
    have := (good_len hg).2 r hr
    show r.length + sums kScored.sz r ≤ 60
    have e : sums kScored.sz r = 0 := sums_zero r
    rw [e]
    omega
  have h7 := Nat.mul_le_mul_left 60 h5
  show (rksOf x0 x1).length + sums kRanking.sz (rksOf x0 x1) ≤ _
  omega
/-- What the best few found ahead of the ends are, for words. -/
theorem RRankTexts.top {x0 : DWords} {x1 : List ByteArray} {x2 : Int} {w w3 w' : World} (h : fGoodWords x0 = true) (h2 : fDistinct x1 = true) {a : Option Addr} {n c : Nat} {T : Nat → Prop} (hr : (kRow kScored).is true w' T [.slice a n c] (fTopBest (rksOf x0 x1) x2).1) (hT : ∀ k, T k → w3.heap.size ≤ k) (hz : w.heap.size ≤ w3.heap.size) (hc : sums kScored.cnt (fTopBest (rksOf x0 x1) x2).1 ≤ 2 ^ 26) (hb : Below w.heap.size w w') : RRankTexts x0 x1 x2 w (.returned (.tuple #[.slice a n c, .bool (fTopBest (rksOf x0 x1) x2).2.2])) w' := by
  have e := top_all (rksOf x0 x1) x2
  have e2 : fAllBest (rksOf x0 x1) x2 = fRankTexts x0 x1 x2 := by
    unfold fAllBest fRankTexts
    rw [rks_good h h2, h, h2]
    rfl
  rw [e2] at e
  rw [e.1] at hr hc
  rw [e.2]
  exact ⟨a, n, c, T, rfl, hr, fun k hk => Nat.le_trans hz (hT k hk), hc, hb⟩

set_option maxRecDepth 100000 in
set_option maxHeartbeats 4000000 in
theorem specRankTexts_k (x0 : DWords) (C0 : List Value) (S0 : Nat → Prop) (x1 : List ByteArray) (a1 : Option Addr) (n1 c1 : Nat) (S1 : Nat → Prop) (x2 : Int) (w : World) (h0 : kWords.is true w S0 C0 x0) (z0 : kWords.sz x0 ≤ 2 ^ 20) (h1 : (kRow kStr).is true w S1 [.slice a1 n1 c1] x1) (z1 : (kRow kStr).sz x1 ≤ 2 ^ 20) (h2 : IntOk x2) :
    Calls Try.prog 39 #[.agg C0.toArray, .slice a1 n1 c1, .int .i64 x2] w (RRankTexts x0 x1 x2 w) := by
  obtain ⟨tx, es⟩ := x0
  have HKT : Hid (kWords.is true w S0 C0 (tx, es)) := h0
  have HK : Hid (kWords.is false w S0 C0 (tx, es)) := Kd.read _ h0
  obtain ⟨a, c, T, rfl, g0, hmx, hr, _⟩ := kWords_open HK.out
  have HZ0 : Hid (kWords.sz (tx, es) ≤ 2 ^ 20) := z0
  have HZ : Hid ((kRow kEntry).sz es ≤ 2 ^ 20) := by have : kWords.sz (tx, es) = 0 + (kRow kEntry).sz es := rfl; show _ ≤ _; omega
  have HZ1 : Hid ((kRow kStr).sz x1 ≤ 2 ^ 20) := z1
  have HRW : Hid ((kRow kEntry).is false w T [.slice a es.length c] es) := hr
  have HW : Hid ((kRow kStr).is true w S1 [.slice a1 n1 c1] x1) := h1
  have HN1 : Hid (n1 = x1.length) := row_len h1
  clear h0 z0 h1 z1 hr
  show Calls Try.prog 39 #[.agg #[.int .i64 tx, .slice a es.length c], .slice a1 n1 c1, .int .i64 x2] w _
  go_enter Try.func39, Try.ntmps39
  go_wp2_with fail
  refine (specGoodWords_k (tx, es) [.int .i64 tx, .slice a es.length c] S0 _ (Kd.below HK.out (below_a1r _ _)) HZ0.out).mono ?_
  rintro e w1 ⟨rfl, hb1⟩
  have X0 : w1.cell? ⟨w.heap.size, 0, none⟩ = some (.int .i64 tx) := by rw [hb1.cell (by simp)]; simp [go_sem]
  have X1 : w1.cell? ⟨w.heap.size, 1, none⟩ = some (.slice a es.length c) := by rw [hb1.cell (by simp)]; simp [go_sem]
  have HB1 : Hid (Below w.heap.size w w1) := (below_a1r _ _).trans (hb1.mono (by simp))
  clear hb1
  cases hg : fGoodWords (tx, es) with
  | false =>
    have HNO : Hid ((fGoodWords (tx, es) && fDistinct x1) = false) := by show _ = _; rw [hg]; rfl
    clear hg
    go_wp2
    refine bodyPost_ret (v := .tuple #[.slice none 0 0, .bool false]) (by simp [results, Try.results39, go_sem]) rfl ?_
    exact RRankTexts.no1 HNO.out HB1.out
  | true =>
    have HG : Hid (fGoodWords (tx, es) = true) := hg
    clear hg
    go_wp2_with fail
    refine (l11Distinct_k x1 a1 n1 c1 S1 _ (Kd.below HW.out HB1.out) HZ1.out).mono ?_
    rintro e w2 ⟨rfl, hb2⟩
    have Y0 := cell_later hb2 X0
    have Y1 := cell_later hb2 X1
    have HB2 : Hid (Below w.heap.size w w2) := HB1.out.trans (hb2.mono HB1.out.size)
    clear hb2 X0 X1
    cases hd : fDistinct x1 with
    | false =>
      have HNO : Hid ((fGoodWords (tx, es) && fDistinct x1) = false) := by show _ = _; rw [hd, Bool.and_false]
      clear hd
      go_wp2
      refine bodyPost_ret (v := .tuple #[.slice none 0 0, .bool false]) (by simp [results, Try.results39, go_sem]) rfl ?_
      exact RRankTexts.no1 HNO.out HB2.out
    | true =>
      have HD : Hid (fDistinct x1 = true) := hd
      have hn5 : n1 ≤ 5 := by unfold fDistinct at hd; simp only [Bool.and_eq_true, decide_eq_true_eq] at hd; rw [HN1.out]; exact hd.2
      obtain ⟨t0, t40⟩ := good_texts HG.out
      have z2 : w.heap.size ≤ w2.heap.size := HB2.out.size
      clear hd
      go_wp2_with fail
      refine (l1In_k x2 0 60 _).mono ?_
      rintro e w4 ⟨rfl, rfl⟩
      by_cases hk : 0 ≤ x2 ∧ x2 ≤ 60
      · rw [decide_eq_true hk]
        obtain ⟨t, rfl⟩ : ∃ t : Nat, x2 = t := ⟨x2.toNat, by omega⟩
        have ht : t ≤ 60 := by omega
        clear hk
        go_wp2_with fail
        refine (l11Rankings_k tx es a c T x1 a1 n1 c1 S1 _ (Kd.below HRW.out HB2.out) HZ.out (Kd.below (Kd.read _ HW.out) HB2.out) HG.out hn5).mono ?_
        rintro e w3 ⟨ra, rn, rc, rfl, hr3, hb3⟩
        have HR3 : Hid ((kRow kRanking).is true w3 (fun q => w4.heap.size ≤ q) [.slice ra rn rc] (rksOf (tx, es) x1)) := hr3
        have HB3 : Hid (Below w.heap.size w w3) := HB2.out.trans (hb3.mono z2)
        have z3 : w.heap.size ≤ w3.heap.size := HB3.out.size
        clear hr3 hb3
        go_wp2_with fail
        refine (l11All_k (rksOf (tx, es) x1) ra rn rc _ t _ (Kd.read _ HR3.out) (rks_good HG.out HD.out) ht).mono ?_
        rintro e w5 ⟨a5, n5, c5, rfl, hr5, hb5⟩
        have HB5 : Hid (Below w.heap.size w w5) := HB3.out.trans (hb5.mono z3)
        have HR5 : Hid ((kRow kScored).is true w5 (fun q => w3.heap.size ≤ q) [.slice a5 n5 c5] ((allD (rksOf (tx, es) x1)).take t)) := hr5
        clear hb5 hr5
        go_wp2
        refine bodyPost_ret (v := .tuple #[.slice a5 n5 c5, .bool true]) (by simp [results, Try.results39, go_sem]) rfl ?_
        exact RRankTexts.yes HG.out HD.out ht HR5.out z3 HB5.out
      · rw [decide_eq_false hk]
        have HNO : Hid (((fGoodWords (tx, es) && fDistinct x1) && decide (0 ≤ x2 ∧ x2 ≤ 60)) = false) := by show _ = _; rw [decide_eq_false hk, Bool.and_false]
        clear hk
        go_wp2
        refine bodyPost_ret (v := .tuple #[.slice none 0 0, .bool false]) (by simp [results, Try.results39, go_sem]) rfl ?_
        exact RRankTexts.no HNO.out HB2.out

set_option maxRecDepth 100000 in
set_option maxHeartbeats 4000000 in
theorem implRankTexts_k (x0 : DWords) (C0 : List Value) (S0 : Nat → Prop) (x1 : List ByteArray) (a1 : Option Addr) (n1 c1 : Nat) (S1 : Nat → Prop) (x2 : Int) (w : World) (h0 : kWords.is true w S0 C0 x0) (z0 : kWords.sz x0 ≤ 2 ^ 20) (h1 : (kRow kStr).is true w S1 [.slice a1 n1 c1] x1) (z1 : (kRow kStr).sz x1 ≤ 2 ^ 20) (h2 : IntOk x2) :
    Calls Try.prog 40 #[.agg C0.toArray, .slice a1 n1 c1, .int .i64 x2] w (RRankTexts x0 x1 x2 w) := by
  obtain ⟨tx, es⟩ := x0
  have HKT : Hid (kWords.is true w S0 C0 (tx, es)) := h0
  have HK : Hid (kWords.is false w S0 C0 (tx, es)) := Kd.read _ h0
  obtain ⟨a, c, T, rfl, g0, hmx, hr, _⟩ := kWords_open HK.out
  have HZ0 : Hid (kWords.sz (tx, es) ≤ 2 ^ 20) := z0
  have HZ : Hid ((kRow kEntry).sz es ≤ 2 ^ 20) := by have : kWords.sz (tx, es) = 0 + (kRow kEntry).sz es := rfl; show _ ≤ _; omega
  have HZ1 : Hid ((kRow kStr).sz x1 ≤ 2 ^ 20) := z1
  have HRW : Hid ((kRow kEntry).is false w T [.slice a es.length c] es) := hr
  have HW : Hid ((kRow kStr).is true w S1 [.slice a1 n1 c1] x1) := h1
  have HN1 : Hid (n1 = x1.length) := row_len h1
  have HX2 : Hid (IntOk x2) := h2
  clear h0 z0 h1 z1 hr h2
  show Calls Try.prog 40 #[.agg #[.int .i64 tx, .slice a es.length c], .slice a1 n1 c1, .int .i64 x2] w _
  go_enter Try.func40, Try.ntmps40
  go_wp2_with fail
  refine (implRankingsFor_k (tx, es) [.int .i64 tx, .slice a es.length c] S0 x1 a1 n1 c1 S1 _ (Kd.below HKT.out (below_a1r _ _)) HZ0.out (Kd.below HW.out (below_a1r _ _)) HZ1.out).mono ?_
  rintro e w3 ⟨ra, rn, rc, T3, rfl, hr3, hT3, _, hb3⟩
  have Y0 : w3.cell? ⟨w.heap.size, 0, none⟩ = some (.int .i64 tx) := by rw [hb3.cell (by simp)]; simp [go_sem]
  have HB3 : Hid (Below w.heap.size w w3) := (below_a1r _ _).trans (hb3.mono (by simp))
  have z3 : w.heap.size ≤ w3.heap.size := HB3.out.size
  clear hb3
  cases hgd : (fGoodWords (tx, es) && fDistinct x1) with
  | false =>
    have e : fRankingsFor (tx, es) x1 = ([], false) := by unfold fRankingsFor; rw [if_neg (by rw [hgd]; exact Bool.false_ne_true)]
    have HNO : Hid ((fGoodWords (tx, es) && fDistinct x1) = false) := hgd
    rw [e]
    clear hgd e hr3 hT3
    go_wp2
    refine bodyPost_ret (v := .tuple #[.slice none 0 0, .bool false]) (by simp [results, Try.results40, go_sem]) rfl ?_
    exact RRankTexts.no1 HNO.out HB3.out
  | true =>
    have e : fRankingsFor (tx, es) x1 = (rksOf (tx, es) x1, true) := by unfold fRankingsFor; rw [if_pos hgd]
    rw [e] at hr3 ⊢
    obtain ⟨hg', hd'⟩ : fGoodWords (tx, es) = true ∧ fDistinct x1 = true := by simpa using hgd
    have HG : Hid (fGoodWords (tx, es) = true) := hg'
    have HD : Hid (fDistinct x1 = true) := hd'
    have HR3 : Hid ((kRow kRanking).is true w3 T3 [.slice ra rn rc] (rksOf (tx, es) x1)) := hr3
    obtain ⟨t0, t40⟩ := good_texts HG.out
    clear hgd e hr3 hg' hd'
    clear hT3
    go_wp2_with fail
    refine (implTopBest_k (rksOf (tx, es) x1) ra rn rc T3 x2 _ HR3.out (rks_sz HG.out HD.out) HX2.out).mono ?_
    rintro e w5 ⟨a5, n5, c5, T5, rfl, hr5, hT5, hc5, _, hb5⟩
    have HB5 : Hid (Below w.heap.size w w5) := HB3.out.trans (hb5.mono z3)
    have HY : Hid (RRankTexts (tx, es) x1 x2 w (.returned (.tuple #[.slice a5 n5 c5, .bool (fTopBest (rksOf (tx, es) x1) x2).2.2])) w5) := RRankTexts.top HG.out HD.out hr5 hT5 z3 hc5 HB5.out
    clear hb5 hr5 hT5 hc5
    generalize (fTopBest (rksOf (tx, es) x1) x2).2.2 = q2 at *
    generalize (fTopBest (rksOf (tx, es) x1) x2).2.1 = q1 at *
    go_wp2
    refine bodyPost_ret (v := .tuple #[.slice a5 n5 c5, .bool q2]) (by simp [results, Try.results40, go_sem]) rfl ?_
    exact HY.out
end Go.Proofs.Ytdaomklgcdfllaa
namespace Go.Proofs.Ytdaomklgcdfllaa
open Go.RowKit
set_option linter.unusedVariables false

set_option maxRecDepth 100000 in
set_option maxHeartbeats 4000000 in
theorem lawRankTexts_k (x0 : DWords) (C0 : List Value) (x1 : List ByteArray) (a1 : Option Addr) (n1 c1 : Nat) (x2 : Int) (w : World) (h0 : kWords.is false w (fun _ => True) C0 x0) (h1 : (kRow kStr).is false w (fun _ => True) [.slice a1 n1 c1] x1) (h2 : IntOk x2) :
    Calls Try.prog 9 #[.agg C0.toArray, .slice a1 n1 c1, .int .i64 x2] w fun e w' => e = .returned (.bool true) ∧ Below w.heap.size w w' := by
  obtain ⟨f0_0, f0_1⟩ := x0
  obtain ⟨a0_1, c0_1, _, rfl, _, _, _, _⟩ := kWords_open h0
  have H0 : Hid (kWords.is false w (fun _ => True) [.int .i64 f0_0, .slice a0_1 f0_1.length c0_1] (f0_0, f0_1)) := h0
  clear h0
  have H1 : Hid ((kRow kStr).is false w (fun _ => True) [.slice a1 n1 c1] x1) := h1
  clear h1
  show Calls Try.prog 9 #[.agg #[.int .i64 f0_0, .slice a0_1 f0_1.length c0_1], .slice a1 n1 c1, .int .i64 x2] w _
  go_enter Try.func9, Try.ntmps9
  go_wp2_with fail
  have hal : ∀ o0, Below w.heap.size w (w.alloc o0) := fun o0 => ((Below.refl _ _).alloc (Nat.le_refl _) o0)
  refine (szWords_k (f0_0, f0_1) [.int .i64 f0_0, .slice a0_1 f0_1.length c0_1] (fun _ => True) _ _ (by omega) (by omega) (Kd.below H0.out (hal _))).mono ?_
  rintro e w1 ⟨q0, rfl, hq0, hb⟩
  have Bw1 : Below w.heap.size w w1 := (hal _).trans (hb.mono (by simp))
  have zzw1 := Bw1.size
  have Ya0_0_w1 : w1.cell? ⟨w.heap.size, 0, none⟩ = some (.int .i64 f0_0) := by rw [hb.cell (by simp)]; simp [go_sem]
  have Ya0_1_w1 : w1.cell? ⟨w.heap.size, 1, none⟩ = some (.slice a0_1 f0_1.length c0_1) := by rw [hb.cell (by simp)]; simp [go_sem]
  have ZAa0_w1 : w.heap.size < w1.heap.size := World.block_lt_of_cell? _ _ Ya0_0_w1
  have HB1 : Hid (Below w.heap.size w w1) := Bw1
  clear hal hb Bw1
  rcases hq0 with rfl | ⟨p0, e0⟩
  · go_wp2
    go_ret
    exact ⟨rfl, HB1.out⟩
  have Z0 : Hid (kWords.sz (f0_0, f0_1) ≤ 2 ^ 20) := by show _ ≤ _; omega
  have u0' : q0 ≤ 2 ^ 20 := by omega
  have v0' : ¬ q0 < 0 := by omega
  clear e0
  go_wp2_with fail
  refine (szStringS_k x1 a1 _ c1 (fun _ => True) _ _ (by omega) (by omega) (Kd.below H1.out HB1.out)).mono ?_
  rintro e w2 ⟨q1, rfl, hq1, hb⟩
  have Bw2 : Below w1.heap.size w1 w2 := hb
  have zzw2 := Bw2.size
  have Ya0_0_w2 : w2.cell? ⟨w.heap.size, 0, none⟩ = some (.int .i64 f0_0) := cell_later Bw2 Ya0_0_w1
  have Ya0_1_w2 : w2.cell? ⟨w.heap.size, 1, none⟩ = some (.slice a0_1 f0_1.length c0_1) := cell_later Bw2 Ya0_1_w1
  have ZAa0_w2 : w.heap.size < w2.heap.size := World.block_lt_of_cell? _ _ Ya0_0_w2
  have HB2 : Hid (Below w.heap.size w w2) := HB1.out.trans (Bw2.mono HB1.out.size)
  clear Ya0_0_w1 Ya0_1_w1 HB1 hb Bw2
  rcases hq1 with rfl | ⟨p1, e1⟩
  · go_wp2
    go_ret
    exact ⟨rfl, HB2.out⟩
  have Z1 : Hid ((kRow kStr).sz x1 ≤ 2 ^ 20) := by show _ ≤ _; omega
  have u1' : q1 ≤ 2 ^ 20 := by omega
  have v1' : ¬ q1 < 0 := by omega
  clear e1
  obtain ⟨y0, hy0⟩ : ∃ y, y = (fRankTexts (f0_0, f0_1) x1 x2).1 := ⟨_, rfl⟩
  have HY0 : Hid (y0 = (fRankTexts (f0_0, f0_1) x1 x2).1) := hy0
  clear hy0
  obtain ⟨y1, hy1⟩ : ∃ y, y = (fRankTexts (f0_0, f0_1) x1 x2).2 := ⟨_, rfl⟩
  have HY1 : Hid (y1 = (fRankTexts (f0_0, f0_1) x1 x2).2) := hy1
  clear hy1
  go_wp2_with fail
  refine (toWords_k (f0_0, f0_1) [.int .i64 f0_0, .slice a0_1 f0_1.length c0_1] (fun _ => True) _ (Kd.below H0.out HB2.out) Z0.out).mono ?_
  rintro e w3 ⟨Ds0, rfl, ho, hb⟩
  obtain ⟨bs0_1, ds0_1, _, rfl, _, _, _, _⟩ := kWords_open ho
  obtain ⟨Ls0, hLs0⟩ : ∃ L, L = w2.heap.size := ⟨_, rfl⟩
  obtain ⟨Ms0, hMs0⟩ : ∃ M, M = w3.heap.size := ⟨_, rfl⟩
  have Ns0 : Hid (kWords.is true w3 (fun k => Ls0 ≤ k ∧ k < Ms0) [.int .i64 f0_0, .slice bs0_1 f0_1.length ds0_1] (f0_0, f0_1)) := Kd.tight _ ho (fun k hk hk' => ⟨by have hz : _ ≤ k := hk'; omega, by omega⟩)
  clear ho
  have Bw3 : Below w2.heap.size w2 w3 := hb
  have zzw3 := Bw3.size
  have Ya0_0_w3 : w3.cell? ⟨w.heap.size, 0, none⟩ = some (.int .i64 f0_0) := cell_later Bw3 Ya0_0_w2
  have Ya0_1_w3 : w3.cell? ⟨w.heap.size, 1, none⟩ = some (.slice a0_1 f0_1.length c0_1) := cell_later Bw3 Ya0_1_w2
  have ZAa0_w3 : w.heap.size < w3.heap.size := World.block_lt_of_cell? _ _ Ya0_0_w3
  have HB3 : Hid (Below w.heap.size w w3) := HB2.out.trans (Bw3.mono HB2.out.size)
  clear Ya0_0_w2 Ya0_1_w2 HB2 hb Bw3
  have PTs0 : w.heap.size ≤ Ls0 ∧ Ms0 ≤ w3.heap.size ∧ w.heap.size < Ls0 := by omega
  clear hLs0 hMs0
  go_wp2_with fail
  refine (toStringS_k x1 a1 _ c1 (fun _ => True) _ (Kd.below H1.out HB3.out) Z1.out).mono ?_
  rintro e w4 ⟨bs1, rfl, ho, hlt, hb⟩
  clear hlt
  obtain ⟨Ls1, hLs1⟩ : ∃ L, L = w3.heap.size := ⟨_, rfl⟩
  obtain ⟨Ms1, hMs1⟩ : ∃ M, M = w4.heap.size := ⟨_, rfl⟩
  have Ns1 : Hid ((kRow kStr).is true w4 (fun k => Ls1 ≤ k ∧ k < Ms1) [.slice bs1 n1 n1] x1) := Kd.tight _ ho (fun k hk hk' => ⟨by have hz : _ ≤ k := hk'; omega, by omega⟩)
  clear ho
  have Bw4 : Below w3.heap.size w3 w4 := hb
  have zzw4 := Bw4.size
  have Ya0_0_w4 : w4.cell? ⟨w.heap.size, 0, none⟩ = some (.int .i64 f0_0) := cell_later Bw4 Ya0_0_w3
  have Ya0_1_w4 : w4.cell? ⟨w.heap.size, 1, none⟩ = some (.slice a0_1 f0_1.length c0_1) := cell_later Bw4 Ya0_1_w3
  have ZAa0_w4 : w.heap.size < w4.heap.size := World.block_lt_of_cell? _ _ Ya0_0_w4
  have s0_w4 : Hid (kWords.is true w4 (fun k => Ls0 ≤ k ∧ k < Ms0) [.int .i64 f0_0, .slice bs0_1 f0_1.length ds0_1] (f0_0, f0_1)) := Kd.below Ns0.out Bw4
  have HB4 : Hid (Below w.heap.size w w4) := HB3.out.trans (Bw4.mono HB3.out.size)
  clear Ya0_0_w3 Ya0_1_w3 Ns0 HB3 hb Bw4
  have PTs1 : w.heap.size ≤ Ls1 ∧ Ms1 ≤ w4.heap.size ∧ w.heap.size < Ls1 ∧ Ms0 ≤ Ls1 := by omega
  clear hLs1 hMs1
  go_wp2_with fail
  refine (specRankTexts_k (f0_0, f0_1) [.int .i64 f0_0, .slice bs0_1 f0_1.length ds0_1] _ x1 _ _ _ _ x2 _ s0_w4.out Z0.out Ns1.out Z1.out h2).mono ?_
  rintro e w5 ⟨bW0, nW0, dW0, TW0, rfl, rW0, sW0, kW0, hb⟩
  obtain rfl := row_len rW0
  rw [← HY0.out] at rW0 kW0 ⊢
  rw [← HY1.out]
  have KC0 : Hid (sums kScored.cnt y0 ≤ 2 ^ 26) := kW0
  obtain ⟨LW0, hLW0⟩ : ∃ L, L = w4.heap.size := ⟨_, rfl⟩
  obtain ⟨MW0, hMW0⟩ : ∃ M, M = w5.heap.size := ⟨_, rfl⟩
  have NW0 : Hid ((kRow kScored).is true w5 (fun k => LW0 ≤ k ∧ k < MW0) [.slice bW0 y0.length dW0] y0) := Kd.tight _ rW0 (fun k hk hk' => ⟨by have hz := sW0 k hk'; omega, by omega⟩)
  clear rW0 sW0 kW0
  have Bw5 : Below w4.heap.size w4 w5 := hb
  have zzw5 := Bw5.size
  have Ya0_0_w5 : w5.cell? ⟨w.heap.size, 0, none⟩ = some (.int .i64 f0_0) := cell_later Bw5 Ya0_0_w4
  have Ya0_1_w5 : w5.cell? ⟨w.heap.size, 1, none⟩ = some (.slice a0_1 f0_1.length c0_1) := cell_later Bw5 Ya0_1_w4
  have ZAa0_w5 : w.heap.size < w5.heap.size := World.block_lt_of_cell? _ _ Ya0_0_w5
  have HB5 : Hid (Below w.heap.size w w5) := HB4.out.trans (Bw5.mono HB4.out.size)
  clear Ya0_0_w4 Ya0_1_w4 HB4 hb Bw5
  have PTW0 : w.heap.size ≤ LW0 ∧ MW0 ≤ w5.heap.size ∧ w.heap.size < LW0 ∧ Ms0 ≤ LW0 ∧ Ms1 ≤ LW0 := by omega
  clear hLW0 hMW0
  go_wp2_with fail
  refine (toWords_k (f0_0, f0_1) [.int .i64 f0_0, .slice a0_1 f0_1.length c0_1] (fun _ => True) _ (Kd.below H0.out HB5.out) Z0.out).mono ?_
  rintro e w6 ⟨DX0, rfl, ho, hb⟩
  obtain ⟨bX0_1, dX0_1, _, rfl, _, _, _, _⟩ := kWords_open ho
  obtain ⟨LX0, hLX0⟩ : ∃ L, L = w5.heap.size := ⟨_, rfl⟩
  obtain ⟨MX0, hMX0⟩ : ∃ M, M = w6.heap.size := ⟨_, rfl⟩
  have NX0 : Hid (kWords.is true w6 (fun k => LX0 ≤ k ∧ k < MX0) [.int .i64 f0_0, .slice bX0_1 f0_1.length dX0_1] (f0_0, f0_1)) := Kd.tight _ ho (fun k hk hk' => ⟨by have hz : _ ≤ k := hk'; omega, by omega⟩)
  clear ho
  have Bw6 : Below w5.heap.size w5 w6 := hb
  have zzw6 := Bw6.size
  have Ya0_0_w6 : w6.cell? ⟨w.heap.size, 0, none⟩ = some (.int .i64 f0_0) := cell_later Bw6 Ya0_0_w5
  have Ya0_1_w6 : w6.cell? ⟨w.heap.size, 1, none⟩ = some (.slice a0_1 f0_1.length c0_1) := cell_later Bw6 Ya0_1_w5
  have ZAa0_w6 : w.heap.size < w6.heap.size := World.block_lt_of_cell? _ _ Ya0_0_w6
  have W0_w6 : Hid ((kRow kScored).is true w6 (fun k => LW0 ≤ k ∧ k < MW0) [.slice bW0 y0.length dW0] y0) := Kd.below NW0.out Bw6
  have HB6 : Hid (Below w.heap.size w w6) := HB5.out.trans (Bw6.mono HB5.out.size)
  clear Ya0_0_w5 Ya0_1_w5 NW0 HB5 hb Bw6
  have PTX0 : w.heap.size ≤ LX0 ∧ MX0 ≤ w6.heap.size ∧ w.heap.size < LX0 ∧ Ms0 ≤ LX0 ∧ Ms1 ≤ LX0 ∧ MW0 ≤ LX0 := by omega
  clear hLX0 hMX0
  have PBX0 : w.heap.size ≤ w6.heap.size ∧ Ms0 ≤ w6.heap.size ∧ Ms1 ≤ w6.heap.size ∧ MW0 ≤ w6.heap.size ∧ MX0 ≤ w6.heap.size := by omega
  go_wp2_with fail
  have hal : ∀ o0, Below w6.heap.size w6 (w6.alloc o0) := fun o0 => ((Below.refl _ _).alloc (Nat.le_refl _) o0)
  refine (toStringS_k x1 a1 _ c1 (fun _ => True) _ (Kd.below H1.out (HB6.out.trans ((hal _).mono HB6.out.size))) Z1.out).mono ?_
  rintro e w7 ⟨bX1, rfl, ho, hlt, hb⟩
  clear hlt
  obtain ⟨LX1, hLX1⟩ : ∃ L, L = w6.heap.size + 1 := ⟨_, rfl⟩
  obtain ⟨MX1, hMX1⟩ : ∃ M, M = w7.heap.size := ⟨_, rfl⟩
  have NX1 : Hid ((kRow kStr).is true w7 (fun k => LX1 ≤ k ∧ k < MX1) [.slice bX1 n1 n1] x1) := Kd.tight _ ho (fun k hk hk' => ⟨by have hz : _ ≤ k := hk'; simp only [World.size_alloc] at hz; omega, by omega⟩)
  clear ho
  have Bw7 : Below w6.heap.size w6 w7 := (hal _).trans (hb.mono (by simp))
  have zzw7 := Bw7.size
  have Ya0_0_w7 : w7.cell? ⟨w.heap.size, 0, none⟩ = some (.int .i64 f0_0) := cell_later Bw7 Ya0_0_w6
  have Ya0_1_w7 : w7.cell? ⟨w.heap.size, 1, none⟩ = some (.slice a0_1 f0_1.length c0_1) := cell_later Bw7 Ya0_1_w6
  have ZAa0_w7 : w.heap.size < w7.heap.size := World.block_lt_of_cell? _ _ Ya0_0_w7
  have YX0_0_w7 : w7.cell? ⟨w6.heap.size, 0, none⟩ = some (.int .i64 f0_0) := by rw [hb.cell (by simp)]; simp [go_sem]
  have YX0_1_w7 : w7.cell? ⟨w6.heap.size, 1, none⟩ = some (.slice bX0_1 f0_1.length dX0_1) := by rw [hb.cell (by simp)]; simp [go_sem]
  have ZAX0_w7 : w6.heap.size < w7.heap.size := World.block_lt_of_cell? _ _ YX0_0_w7
  have W0_w7 : Hid ((kRow kScored).is true w7 (fun k => LW0 ≤ k ∧ k < MW0) [.slice bW0 y0.length dW0] y0) := Kd.below W0_w6.out Bw7
  have X0_w7 : Hid (kWords.is true w7 (fun k => LX0 ≤ k ∧ k < MX0) [.int .i64 f0_0, .slice bX0_1 f0_1.length dX0_1] (f0_0, f0_1)) := Kd.below NX0.out Bw7
  have HB7 : Hid (Below w.heap.size w w7) := HB6.out.trans (Bw7.mono HB6.out.size)
  clear Ya0_0_w6 Ya0_1_w6 W0_w6 NX0 HB6 hal hb Bw7
  have PTX1 : w.heap.size ≤ LX1 ∧ MX1 ≤ w7.heap.size ∧ w.heap.size < LX1 ∧ Ms0 ≤ LX1 ∧ Ms1 ≤ LX1 ∧ MW0 ≤ LX1 ∧ MX0 ≤ LX1 ∧ w6.heap.size < LX1 := by omega
  clear hLX1 hMX1
  go_wp2_with fail
  refine (implRankTexts_k (f0_0, f0_1) [.int .i64 f0_0, .slice bX0_1 f0_1.length dX0_1] _ x1 _ _ _ _ x2 _ X0_w7.out Z0.out NX1.out Z1.out h2).mono ?_
  rintro e w8 ⟨bG0, nG0, dG0, TG0, rfl, rG0, sG0, kG0, hb⟩
  obtain rfl := row_len rG0
  rw [← HY0.out] at rG0 kG0 ⊢
  rw [← HY1.out]
  clear kG0
  obtain ⟨LG0, hLG0⟩ : ∃ L, L = w7.heap.size := ⟨_, rfl⟩
  obtain ⟨MG0, hMG0⟩ : ∃ M, M = w8.heap.size := ⟨_, rfl⟩
  have NG0 : Hid ((kRow kScored).is true w8 (fun k => LG0 ≤ k ∧ k < MG0) [.slice bG0 y0.length dG0] y0) := Kd.tight _ rG0 (fun k hk hk' => ⟨by have hz := sG0 k hk'; omega, by omega⟩)
  clear rG0 sG0
  have Bw8 : Below w7.heap.size w7 w8 := hb
  have zzw8 := Bw8.size
  have Ya0_0_w8 : w8.cell? ⟨w.heap.size, 0, none⟩ = some (.int .i64 f0_0) := cell_later Bw8 Ya0_0_w7
  have Ya0_1_w8 : w8.cell? ⟨w.heap.size, 1, none⟩ = some (.slice a0_1 f0_1.length c0_1) := cell_later Bw8 Ya0_1_w7
  have ZAa0_w8 : w.heap.size < w8.heap.size := World.block_lt_of_cell? _ _ Ya0_0_w8
  have YX0_0_w8 : w8.cell? ⟨w6.heap.size, 0, none⟩ = some (.int .i64 f0_0) := cell_later Bw8 YX0_0_w7
  have YX0_1_w8 : w8.cell? ⟨w6.heap.size, 1, none⟩ = some (.slice bX0_1 f0_1.length dX0_1) := cell_later Bw8 YX0_1_w7
  have ZAX0_w8 : w6.heap.size < w8.heap.size := World.block_lt_of_cell? _ _ YX0_0_w8
  have W0_w8 : Hid ((kRow kScored).is true w8 (fun k => LW0 ≤ k ∧ k < MW0) [.slice bW0 y0.length dW0] y0) := Kd.below W0_w7.out Bw8
  have X0_w8 : Hid (kWords.is true w8 (fun k => LX0 ≤ k ∧ k < MX0) [.int .i64 f0_0, .slice bX0_1 f0_1.length dX0_1] (f0_0, f0_1)) := Kd.below X0_w7.out Bw8
  have X1_w8 : Hid ((kRow kStr).is true w8 (fun k => LX1 ≤ k ∧ k < MX1) [.slice bX1 n1 n1] x1) := Kd.below NX1.out Bw8
  have HB8 : Hid (Below w.heap.size w w8) := HB7.out.trans (Bw8.mono HB7.out.size)
  clear Ya0_0_w7 Ya0_1_w7 YX0_0_w7 YX0_1_w7 W0_w7 X0_w7 NX1 HB7 hb Bw8
  have PTG0 : w.heap.size ≤ LG0 ∧ MG0 ≤ w8.heap.size ∧ w.heap.size < LG0 ∧ Ms0 ≤ LG0 ∧ Ms1 ≤ LG0 ∧ MW0 ≤ LG0 ∧ MX0 ≤ LG0 ∧ w6.heap.size < LG0 ∧ MX1 ≤ LG0 := by omega
  clear hLG0 hMG0
  go_wp2_with fail
  refine (eqScoredS_k y0 bG0 bW0 _ dG0 dW0 _ _ _ (Kd.read _ NG0.out) (Kd.read _ W0_w8.out)).mono ?_
  rintro e w9 ⟨rfl, hb⟩
  have Bw9 : Below w8.heap.size w8 w9 := hb
  have zzw9 := Bw9.size
  have Ya0_0_w9 : w9.cell? ⟨w.heap.size, 0, none⟩ = some (.int .i64 f0_0) := cell_later Bw9 Ya0_0_w8
  have Ya0_1_w9 : w9.cell? ⟨w.heap.size, 1, none⟩ = some (.slice a0_1 f0_1.length c0_1) := cell_later Bw9 Ya0_1_w8
  have ZAa0_w9 : w.heap.size < w9.heap.size := World.block_lt_of_cell? _ _ Ya0_0_w9
  have YX0_0_w9 : w9.cell? ⟨w6.heap.size, 0, none⟩ = some (.int .i64 f0_0) := cell_later Bw9 YX0_0_w8
  have YX0_1_w9 : w9.cell? ⟨w6.heap.size, 1, none⟩ = some (.slice bX0_1 f0_1.length dX0_1) := cell_later Bw9 YX0_1_w8
  have ZAX0_w9 : w6.heap.size < w9.heap.size := World.block_lt_of_cell? _ _ YX0_0_w9
  have W0_w9 : Hid ((kRow kScored).is true w9 (fun k => LW0 ≤ k ∧ k < MW0) [.slice bW0 y0.length dW0] y0) := Kd.below W0_w8.out Bw9
  have X0_w9 : Hid (kWords.is true w9 (fun k => LX0 ≤ k ∧ k < MX0) [.int .i64 f0_0, .slice bX0_1 f0_1.length dX0_1] (f0_0, f0_1)) := Kd.below X0_w8.out Bw9
  have X1_w9 : Hid ((kRow kStr).is true w9 (fun k => LX1 ≤ k ∧ k < MX1) [.slice bX1 n1 n1] x1) := Kd.below X1_w8.out Bw9
  have G0_w9 : Hid ((kRow kScored).is true w9 (fun k => LG0 ≤ k ∧ k < MG0) [.slice bG0 y0.length dG0] y0) := Kd.below NG0.out Bw9
  have HB9 : Hid (Below w.heap.size w w9) := HB8.out.trans (Bw9.mono HB8.out.size)
  clear Ya0_0_w8 Ya0_1_w8 YX0_0_w8 YX0_1_w8 W0_w8 X0_w8 X1_w8 NG0 HB8 hb Bw9
  go_wp2_with fail
  go_region_held3 (fun w' => w'.cell? ⟨w6.heap.size, 0, none⟩ = some (.int .i64 f0_0) ∧ w'.cell? ⟨w6.heap.size, 1, none⟩ = some (.slice bX0_1 f0_1.length dX0_1) ∧ w'.cell? ⟨w.heap.size, 0, none⟩ = some (.int .i64 f0_0) ∧ w'.cell? ⟨w.heap.size, 1, none⟩ = some (.slice a0_1 f0_1.length c0_1)) (first | exact ⟨YX0_0_w9, YX0_1_w9, Ya0_0_w9, Ya0_1_w9⟩ | exact ⟨(hcB _ _ (Nat.lt_of_lt_of_le ZAX0_w9 zzA)).trans ((hcA _ _ ZAX0_w9).trans YX0_0_w9), (hcB _ _ (Nat.lt_of_lt_of_le ZAX0_w9 zzA)).trans ((hcA _ _ ZAX0_w9).trans YX0_1_w9), (hcB _ _ (Nat.lt_of_lt_of_le ZAa0_w9 zzA)).trans ((hcA _ _ ZAa0_w9).trans Ya0_0_w9), (hcB _ _ (Nat.lt_of_lt_of_le ZAa0_w9 zzA)).trans ((hcA _ _ ZAa0_w9).trans Ya0_1_w9)⟩ | exact ⟨(hcA _ _ ZAX0_w9).trans YX0_0_w9, (hcA _ _ ZAX0_w9).trans YX0_1_w9, (hcA _ _ ZAa0_w9).trans Ya0_0_w9, (hcA _ _ ZAa0_w9).trans Ya0_1_w9⟩)
    (first | (go_at_call 37; refine (toWords_k (f0_0, f0_1) [.int .i64 f0_0, .slice a0_1 f0_1.length c0_1] (fun _ => True) _ (Kd.below H0.out (HB9.out.drew)) Z0.out).mono ?_; rintro e wA ⟨DA, rfl, hoA, hbA⟩; obtain ⟨_, _, _, rfl, _, _, _, _⟩ := kWords_open hoA; obtain ⟨hcA, hfA⟩ := bcell hbA; have zzA := hbA.size) | (go_at_call 15; refine (eqWords_k (f0_0, f0_1) [.int .i64 f0_0, .slice bX0_1 f0_1.length dX0_1] _ _ _ _ (Kd.read _ (Kd.below X0_w9.out ((Below.drew (Below.refl w9.heap.size w9)).trans (hbA.mono (Nat.le_refl w9.heap.size))))) (Kd.read _ hoA)).mono ?_; rintro e w10 ⟨rfl, hbB⟩; obtain ⟨hcB, hfB⟩ := bcell hbB))
  have hb : Below w9.heap.size w9 w10 := ((Below.drew (Below.refl w9.heap.size w9)).trans (hbA.mono (Nat.le_refl w9.heap.size))).trans (hbB.mono zzA)
  clear hbA hbB hcA hfA hcB hfB hoA zzA
  have Bw10 : Below w9.heap.size w9 w10 := hb
  have zzw10 := Bw10.size
  have Ya0_0_w10 : w10.cell? ⟨w.heap.size, 0, none⟩ = some (.int .i64 f0_0) := cell_later Bw10 Ya0_0_w9
  have Ya0_1_w10 : w10.cell? ⟨w.heap.size, 1, none⟩ = some (.slice a0_1 f0_1.length c0_1) := cell_later Bw10 Ya0_1_w9
  have ZAa0_w10 : w.heap.size < w10.heap.size := World.block_lt_of_cell? _ _ Ya0_0_w10
  have YX0_0_w10 : w10.cell? ⟨w6.heap.size, 0, none⟩ = some (.int .i64 f0_0) := cell_later Bw10 YX0_0_w9
  have YX0_1_w10 : w10.cell? ⟨w6.heap.size, 1, none⟩ = some (.slice bX0_1 f0_1.length dX0_1) := cell_later Bw10 YX0_1_w9
  have ZAX0_w10 : w6.heap.size < w10.heap.size := World.block_lt_of_cell? _ _ YX0_0_w10
  have W0_w10 : Hid ((kRow kScored).is true w10 (fun k => LW0 ≤ k ∧ k < MW0) [.slice bW0 y0.length dW0] y0) := Kd.below W0_w9.out Bw10
  have X0_w10 : Hid (kWords.is true w10 (fun k => LX0 ≤ k ∧ k < MX0) [.int .i64 f0_0, .slice bX0_1 f0_1.length dX0_1] (f0_0, f0_1)) := Kd.below X0_w9.out Bw10
  have X1_w10 : Hid ((kRow kStr).is true w10 (fun k => LX1 ≤ k ∧ k < MX1) [.slice bX1 n1 n1] x1) := Kd.below X1_w9.out Bw10
  have G0_w10 : Hid ((kRow kScored).is true w10 (fun k => LG0 ≤ k ∧ k < MG0) [.slice bG0 y0.length dG0] y0) := Kd.below G0_w9.out Bw10
  have HB10 : Hid (Below w.heap.size w w10) := HB9.out.trans (Bw10.mono HB9.out.size)
  clear Ya0_0_w9 Ya0_1_w9 YX0_0_w9 YX0_1_w9 W0_w9 X0_w9 X1_w9 G0_w9 HB9 hb Bw10
  go_wp2_with fail
  refine (toStringS_k x1 a1 _ c1 (fun _ => True) _ (Kd.below H1.out HB10.out) Z1.out).mono ?_
  rintro e w11 ⟨bE1, rfl, ho, hlt, hb⟩
  clear hlt
  obtain ⟨LE1, hLE1⟩ : ∃ L, L = w10.heap.size := ⟨_, rfl⟩
  obtain ⟨ME1, hME1⟩ : ∃ M, M = w11.heap.size := ⟨_, rfl⟩
  have NE1 : Hid ((kRow kStr).is true w11 (fun k => LE1 ≤ k ∧ k < ME1) [.slice bE1 n1 n1] x1) := Kd.tight _ ho (fun k hk hk' => ⟨by have hz : _ ≤ k := hk'; omega, by omega⟩)
  clear ho
  have Bw11 : Below w10.heap.size w10 w11 := hb
  have zzw11 := Bw11.size
  have Ya0_0_w11 : w11.cell? ⟨w.heap.size, 0, none⟩ = some (.int .i64 f0_0) := cell_later Bw11 Ya0_0_w10
  have Ya0_1_w11 : w11.cell? ⟨w.heap.size, 1, none⟩ = some (.slice a0_1 f0_1.length c0_1) := cell_later Bw11 Ya0_1_w10
  have ZAa0_w11 : w.heap.size < w11.heap.size := World.block_lt_of_cell? _ _ Ya0_0_w11
  have YX0_0_w11 : w11.cell? ⟨w6.heap.size, 0, none⟩ = some (.int .i64 f0_0) := cell_later Bw11 YX0_0_w10
  have YX0_1_w11 : w11.cell? ⟨w6.heap.size, 1, none⟩ = some (.slice bX0_1 f0_1.length dX0_1) := cell_later Bw11 YX0_1_w10
  have ZAX0_w11 : w6.heap.size < w11.heap.size := World.block_lt_of_cell? _ _ YX0_0_w11
  have W0_w11 : Hid ((kRow kScored).is true w11 (fun k => LW0 ≤ k ∧ k < MW0) [.slice bW0 y0.length dW0] y0) := Kd.below W0_w10.out Bw11
  have X0_w11 : Hid (kWords.is true w11 (fun k => LX0 ≤ k ∧ k < MX0) [.int .i64 f0_0, .slice bX0_1 f0_1.length dX0_1] (f0_0, f0_1)) := Kd.below X0_w10.out Bw11
  have X1_w11 : Hid ((kRow kStr).is true w11 (fun k => LX1 ≤ k ∧ k < MX1) [.slice bX1 n1 n1] x1) := Kd.below X1_w10.out Bw11
  have G0_w11 : Hid ((kRow kScored).is true w11 (fun k => LG0 ≤ k ∧ k < MG0) [.slice bG0 y0.length dG0] y0) := Kd.below G0_w10.out Bw11
  have HB11 : Hid (Below w.heap.size w w11) := HB10.out.trans (Bw11.mono HB10.out.size)
  clear Ya0_0_w10 Ya0_1_w10 YX0_0_w10 YX0_1_w10 W0_w10 X0_w10 X1_w10 G0_w10 HB10 hb Bw11
  have PTE1 : w.heap.size ≤ LE1 ∧ ME1 ≤ w11.heap.size ∧ w.heap.size < LE1 ∧ Ms0 ≤ LE1 ∧ Ms1 ≤ LE1 ∧ MW0 ≤ LE1 ∧ MX0 ≤ LE1 ∧ w6.heap.size < LE1 ∧ MX1 ≤ LE1 ∧ MG0 ≤ LE1 := by omega
  clear hLE1 hME1
  go_wp2_with fail
  refine (eqStringS_k x1 bX1 bE1 _ n1 n1 _ _ _ (Kd.read _ X1_w11.out) (Kd.read _ NE1.out)).mono ?_
  rintro e w12 ⟨rfl, hb⟩
  have Bw12 : Below w11.heap.size w11 w12 := hb
  have zzw12 := Bw12.size
  have Ya0_0_w12 : w12.cell? ⟨w.heap.size, 0, none⟩ = some (.int .i64 f0_0) := cell_later Bw12 Ya0_0_w11
  have Ya0_1_w12 : w12.cell? ⟨w.heap.size, 1, none⟩ = some (.slice a0_1 f0_1.length c0_1) := cell_later Bw12 Ya0_1_w11
  have ZAa0_w12 : w.heap.size < w12.heap.size := World.block_lt_of_cell? _ _ Ya0_0_w12
  have YX0_0_w12 : w12.cell? ⟨w6.heap.size, 0, none⟩ = some (.int .i64 f0_0) := cell_later Bw12 YX0_0_w11
  have YX0_1_w12 : w12.cell? ⟨w6.heap.size, 1, none⟩ = some (.slice bX0_1 f0_1.length dX0_1) := cell_later Bw12 YX0_1_w11
  have ZAX0_w12 : w6.heap.size < w12.heap.size := World.block_lt_of_cell? _ _ YX0_0_w12
  have W0_w12 : Hid ((kRow kScored).is true w12 (fun k => LW0 ≤ k ∧ k < MW0) [.slice bW0 y0.length dW0] y0) := Kd.below W0_w11.out Bw12
  have X0_w12 : Hid (kWords.is true w12 (fun k => LX0 ≤ k ∧ k < MX0) [.int .i64 f0_0, .slice bX0_1 f0_1.length dX0_1] (f0_0, f0_1)) := Kd.below X0_w11.out Bw12
  have X1_w12 : Hid ((kRow kStr).is true w12 (fun k => LX1 ≤ k ∧ k < MX1) [.slice bX1 n1 n1] x1) := Kd.below X1_w11.out Bw12
  have G0_w12 : Hid ((kRow kScored).is true w12 (fun k => LG0 ≤ k ∧ k < MG0) [.slice bG0 y0.length dG0] y0) := Kd.below G0_w11.out Bw12
  have HB12 : Hid (Below w.heap.size w w12) := HB11.out.trans (Bw12.mono HB11.out.size)
  clear Ya0_0_w11 Ya0_1_w11 YX0_0_w11 YX0_1_w11 W0_w11 X0_w11 X1_w11 G0_w11 HB11 hb Bw12
  have CB0 : Hid (hWords_cnt (f0_0, f0_1) ≤ 2 ^ 26) := cnt_Words Z0.out
  obtain ⟨kc0, hkc0⟩ : ∃ k, k = hWords_cnt (f0_0, f0_1) := ⟨_, rfl⟩
  have kb0 : kc0 ≤ 2 ^ 26 := by have := CB0.out; omega
  have HKC0 : Hid (kc0 = hWords_cnt (f0_0, f0_1)) := hkc0
  clear hkc0
  go_wp2_with fail
  refine (markWords_k (f0_0, f0_1) [.int .i64 f0_0, .slice bX0_1 f0_1.length dX0_1] _ _ _ (by omega) (by have := HKC0.out; omega) X0_w12.out).mono ?_
  rw [← HKC0.out]
  rintro e w13 ⟨rfl, hb, hr⟩
  clear hr
  have Bw13 : KeptO (fun k => LX0 ≤ k ∧ k < MX0) w12 w13 := hb
  have zzw13 := Bw13.size
  have Ya0_0_w13 : w13.cell? ⟨w.heap.size, 0, none⟩ = some (.int .i64 f0_0) := cell_keptO Bw13 Ya0_0_w12 (fun h => by omega)
  have Ya0_1_w13 : w13.cell? ⟨w.heap.size, 1, none⟩ = some (.slice a0_1 f0_1.length c0_1) := cell_keptO Bw13 Ya0_1_w12 (fun h => by omega)
  have ZAa0_w13 : w.heap.size < w13.heap.size := World.block_lt_of_cell? _ _ Ya0_0_w13
  have W0_w13 : Hid ((kRow kScored).is true w13 (fun k => LW0 ≤ k ∧ k < MW0) [.slice bW0 y0.length dW0] y0) := Kd.kept W0_w12.out Bw13 (fun k _ h1 h2 => by omega)
  have X1_w13 : Hid ((kRow kStr).is true w13 (fun k => LX1 ≤ k ∧ k < MX1) [.slice bX1 n1 n1] x1) := Kd.kept X1_w12.out Bw13 (fun k _ h1 h2 => by omega)
  have G0_w13 : Hid ((kRow kScored).is true w13 (fun k => LG0 ≤ k ∧ k < MG0) [.slice bG0 y0.length dG0] y0) := Kd.kept G0_w12.out Bw13 (fun k _ h1 h2 => by omega)
  have HB13 : Hid (Below w.heap.size w w13) := HB12.out.trans ((Bw13.below (B := w.heap.size) (HB12.out.size) (fun k hk h => by omega)))
  clear Ya0_0_w12 Ya0_1_w12 YX0_0_w12 YX0_1_w12 W0_w12 X1_w12 G0_w12 HB12 hb Bw13
  have CB1 : Hid (sums kStr.cnt x1 ≤ 2 ^ 26) := cnt_StringS Z1.out
  obtain ⟨kc1, hkc1⟩ : ∃ k, k = sums kStr.cnt x1 := ⟨_, rfl⟩
  have kb1 : kc1 ≤ 2 ^ 26 := by have := CB1.out; omega
  have HKC1 : Hid (kc1 = sums kStr.cnt x1) := hkc1
  clear hkc1
  go_wp2_with fail
  refine (markStringS_k x1 _ _ _ _ _ _ (by omega) (by have := HKC1.out; omega) X1_w13.out).mono ?_
  rw [← HKC1.out]
  rintro e w14 ⟨rfl, hb, hr⟩
  clear hr
  have Bw14 : KeptO (fun k => LX1 ≤ k ∧ k < MX1) w13 w14 := hb
  have zzw14 := Bw14.size
  have Ya0_0_w14 : w14.cell? ⟨w.heap.size, 0, none⟩ = some (.int .i64 f0_0) := cell_keptO Bw14 Ya0_0_w13 (fun h => by omega)
  have Ya0_1_w14 : w14.cell? ⟨w.heap.size, 1, none⟩ = some (.slice a0_1 f0_1.length c0_1) := cell_keptO Bw14 Ya0_1_w13 (fun h => by omega)
  have ZAa0_w14 : w.heap.size < w14.heap.size := World.block_lt_of_cell? _ _ Ya0_0_w14
  have W0_w14 : Hid ((kRow kScored).is true w14 (fun k => LW0 ≤ k ∧ k < MW0) [.slice bW0 y0.length dW0] y0) := Kd.kept W0_w13.out Bw14 (fun k _ h1 h2 => by omega)
  have G0_w14 : Hid ((kRow kScored).is true w14 (fun k => LG0 ≤ k ∧ k < MG0) [.slice bG0 y0.length dG0] y0) := Kd.kept G0_w13.out Bw14 (fun k _ h1 h2 => by omega)
  have HB14 : Hid (Below w.heap.size w w14) := HB13.out.trans ((Bw14.below (B := w.heap.size) (HB13.out.size) (fun k hk h => by omega)))
  clear Ya0_0_w13 Ya0_1_w13 W0_w13 G0_w13 HB13 hb Bw14
  go_wp2_with fail
  refine (eqScoredS_k y0 bG0 bW0 _ dG0 dW0 _ _ _ (Kd.read _ G0_w14.out) (Kd.read _ W0_w14.out)).mono ?_
  rintro e w15 ⟨rfl, hb⟩
  have Bw15 : Below w14.heap.size w14 w15 := hb
  have zzw15 := Bw15.size
  have Ya0_0_w15 : w15.cell? ⟨w.heap.size, 0, none⟩ = some (.int .i64 f0_0) := cell_later Bw15 Ya0_0_w14
  have Ya0_1_w15 : w15.cell? ⟨w.heap.size, 1, none⟩ = some (.slice a0_1 f0_1.length c0_1) := cell_later Bw15 Ya0_1_w14
  have ZAa0_w15 : w.heap.size < w15.heap.size := World.block_lt_of_cell? _ _ Ya0_0_w15
  have W0_w15 : Hid ((kRow kScored).is true w15 (fun k => LW0 ≤ k ∧ k < MW0) [.slice bW0 y0.length dW0] y0) := Kd.below W0_w14.out Bw15
  have G0_w15 : Hid ((kRow kScored).is true w15 (fun k => LG0 ≤ k ∧ k < MG0) [.slice bG0 y0.length dG0] y0) := Kd.below G0_w14.out Bw15
  have HB15 : Hid (Below w.heap.size w w15) := HB14.out.trans (Bw15.mono HB14.out.size)
  clear Ya0_0_w14 Ya0_1_w14 W0_w14 G0_w14 HB14 hb Bw15
  obtain ⟨kg0, hkg0⟩ : ∃ k, k = sums kScored.cnt y0 := ⟨_, rfl⟩
  have kgb0 : kg0 ≤ 2 ^ 26 := by have := KC0.out; omega
  have HKG0 : Hid (kg0 = sums kScored.cnt y0) := hkg0
  clear hkg0
  go_wp2_with fail
  refine (markScoredS_k y0 _ _ _ _ _ _ (by omega) (by have := HKG0.out; omega) G0_w15.out).mono ?_
  rw [← HKG0.out]
  rintro e w16 ⟨rfl, hb, hr⟩
  have NG0' : Hid ((kRow kScored).is true w16 (fun k => LG0 ≤ k ∧ k < MG0) [.slice bG0 y0.length dG0] (mks kScored y0 1)) := hr
  clear hr
  have Bw16 : KeptO (fun k => LG0 ≤ k ∧ k < MG0) w15 w16 := hb
  have zzw16 := Bw16.size
  have Ya0_0_w16 : w16.cell? ⟨w.heap.size, 0, none⟩ = some (.int .i64 f0_0) := cell_keptO Bw16 Ya0_0_w15 (fun h => by omega)
  have Ya0_1_w16 : w16.cell? ⟨w.heap.size, 1, none⟩ = some (.slice a0_1 f0_1.length c0_1) := cell_keptO Bw16 Ya0_1_w15 (fun h => by omega)
  have ZAa0_w16 : w.heap.size < w16.heap.size := World.block_lt_of_cell? _ _ Ya0_0_w16
  have W0_w16 : Hid ((kRow kScored).is true w16 (fun k => LW0 ≤ k ∧ k < MW0) [.slice bW0 y0.length dW0] y0) := Kd.kept W0_w15.out Bw16 (fun k _ h1 h2 => by omega)
  have HB16 : Hid (Below w.heap.size w w16) := HB15.out.trans ((Bw16.below (B := w.heap.size) (HB15.out.size) (fun k hk h => by omega)))
  clear Ya0_0_w15 Ya0_1_w15 W0_w15 HB15 hb Bw16
  go_wp2_with fail
  refine (heldScoredS_k y0 _ _ _ _ _ _ (by omega) (by have := HKG0.out; omega) (Kd.read _ NG0'.out)).mono ?_
  rw [← HKG0.out]
  rintro e w17 ⟨rfl, hb⟩
  have Bw17 : Below w16.heap.size w16 w17 := hb
  have zzw17 := Bw17.size
  have Ya0_0_w17 : w17.cell? ⟨w.heap.size, 0, none⟩ = some (.int .i64 f0_0) := cell_later Bw17 Ya0_0_w16
  have Ya0_1_w17 : w17.cell? ⟨w.heap.size, 1, none⟩ = some (.slice a0_1 f0_1.length c0_1) := cell_later Bw17 Ya0_1_w16
  have ZAa0_w17 : w.heap.size < w17.heap.size := World.block_lt_of_cell? _ _ Ya0_0_w17
  have W0_w17 : Hid ((kRow kScored).is true w17 (fun k => LW0 ≤ k ∧ k < MW0) [.slice bW0 y0.length dW0] y0) := Kd.below W0_w16.out Bw17
  have G0_w17 : Hid ((kRow kScored).is true w17 (fun k => LG0 ≤ k ∧ k < MG0) [.slice bG0 y0.length dG0] (mks kScored y0 1)) := Kd.below NG0'.out Bw17
  have HB17 : Hid (Below w.heap.size w w17) := HB16.out.trans (Bw17.mono HB16.out.size)
  clear Ya0_0_w16 Ya0_1_w16 W0_w16 NG0' HB16 hb Bw17
  go_wp2_with fail
  refine (toWords_k (f0_0, f0_1) [.int .i64 f0_0, .slice a0_1 f0_1.length c0_1] (fun _ => True) _ (Kd.below H0.out HB17.out) Z0.out).mono ?_
  rintro e w18 ⟨Dt0, rfl, ho, hb⟩
  obtain ⟨bt0_1, dt0_1, _, rfl, _, _, _, _⟩ := kWords_open ho
  obtain ⟨Lt0, hLt0⟩ : ∃ L, L = w17.heap.size := ⟨_, rfl⟩
  obtain ⟨Mt0, hMt0⟩ : ∃ M, M = w18.heap.size := ⟨_, rfl⟩
  have Nt0 : Hid (kWords.is true w18 (fun k => Lt0 ≤ k ∧ k < Mt0) [.int .i64 f0_0, .slice bt0_1 f0_1.length dt0_1] (f0_0, f0_1)) := Kd.tight _ ho (fun k hk hk' => ⟨by have hz : _ ≤ k := hk'; omega, by omega⟩)
  clear ho
  have Bw18 : Below w17.heap.size w17 w18 := hb
  have zzw18 := Bw18.size
  have Ya0_0_w18 : w18.cell? ⟨w.heap.size, 0, none⟩ = some (.int .i64 f0_0) := cell_later Bw18 Ya0_0_w17
  have Ya0_1_w18 : w18.cell? ⟨w.heap.size, 1, none⟩ = some (.slice a0_1 f0_1.length c0_1) := cell_later Bw18 Ya0_1_w17
  have ZAa0_w18 : w.heap.size < w18.heap.size := World.block_lt_of_cell? _ _ Ya0_0_w18
  have W0_w18 : Hid ((kRow kScored).is true w18 (fun k => LW0 ≤ k ∧ k < MW0) [.slice bW0 y0.length dW0] y0) := Kd.below W0_w17.out Bw18
  have G0_w18 : Hid ((kRow kScored).is true w18 (fun k => LG0 ≤ k ∧ k < MG0) [.slice bG0 y0.length dG0] (mks kScored y0 1)) := Kd.below G0_w17.out Bw18
  have HB18 : Hid (Below w.heap.size w w18) := HB17.out.trans (Bw18.mono HB17.out.size)
  clear Ya0_0_w17 Ya0_1_w17 W0_w17 G0_w17 HB17 hb Bw18
  have PTt0 : w.heap.size ≤ Lt0 ∧ Mt0 ≤ w18.heap.size ∧ w.heap.size < Lt0 ∧ Ms0 ≤ Lt0 ∧ Ms1 ≤ Lt0 ∧ MW0 ≤ Lt0 ∧ MX0 ≤ Lt0 ∧ w6.heap.size < Lt0 ∧ MX1 ≤ Lt0 ∧ MG0 ≤ Lt0 ∧ ME1 ≤ Lt0 := by omega
  clear hLt0 hMt0
  go_wp2_with fail
  refine (toStringS_k x1 a1 _ c1 (fun _ => True) _ (Kd.below H1.out HB18.out) Z1.out).mono ?_
  rintro e w19 ⟨bt1, rfl, ho, hlt, hb⟩
  clear hlt
  obtain ⟨Lt1, hLt1⟩ : ∃ L, L = w18.heap.size := ⟨_, rfl⟩
  obtain ⟨Mt1, hMt1⟩ : ∃ M, M = w19.heap.size := ⟨_, rfl⟩
  have Nt1 : Hid ((kRow kStr).is true w19 (fun k => Lt1 ≤ k ∧ k < Mt1) [.slice bt1 n1 n1] x1) := Kd.tight _ ho (fun k hk hk' => ⟨by have hz : _ ≤ k := hk'; omega, by omega⟩)
  clear ho
  have Bw19 : Below w18.heap.size w18 w19 := hb
  have zzw19 := Bw19.size
  have Ya0_0_w19 : w19.cell? ⟨w.heap.size, 0, none⟩ = some (.int .i64 f0_0) := cell_later Bw19 Ya0_0_w18
  have Ya0_1_w19 : w19.cell? ⟨w.heap.size, 1, none⟩ = some (.slice a0_1 f0_1.length c0_1) := cell_later Bw19 Ya0_1_w18
  have ZAa0_w19 : w.heap.size < w19.heap.size := World.block_lt_of_cell? _ _ Ya0_0_w19
  have W0_w19 : Hid ((kRow kScored).is true w19 (fun k => LW0 ≤ k ∧ k < MW0) [.slice bW0 y0.length dW0] y0) := Kd.below W0_w18.out Bw19
  have G0_w19 : Hid ((kRow kScored).is true w19 (fun k => LG0 ≤ k ∧ k < MG0) [.slice bG0 y0.length dG0] (mks kScored y0 1)) := Kd.below G0_w18.out Bw19
  have t0_w19 : Hid (kWords.is true w19 (fun k => Lt0 ≤ k ∧ k < Mt0) [.int .i64 f0_0, .slice bt0_1 f0_1.length dt0_1] (f0_0, f0_1)) := Kd.below Nt0.out Bw19
  have HB19 : Hid (Below w.heap.size w w19) := HB18.out.trans (Bw19.mono HB18.out.size)
  clear Ya0_0_w18 Ya0_1_w18 W0_w18 G0_w18 Nt0 HB18 hb Bw19
  have PTt1 : w.heap.size ≤ Lt1 ∧ Mt1 ≤ w19.heap.size ∧ w.heap.size < Lt1 ∧ Ms0 ≤ Lt1 ∧ Ms1 ≤ Lt1 ∧ MW0 ≤ Lt1 ∧ MX0 ≤ Lt1 ∧ w6.heap.size < Lt1 ∧ MX1 ≤ Lt1 ∧ MG0 ≤ Lt1 ∧ ME1 ≤ Lt1 ∧ Mt0 ≤ Lt1 := by omega
  clear hLt1 hMt1
  go_wp2_with fail
  refine (implRankTexts_k (f0_0, f0_1) [.int .i64 f0_0, .slice bt0_1 f0_1.length dt0_1] _ x1 _ _ _ _ x2 _ t0_w19.out Z0.out Nt1.out Z1.out h2).mono ?_
  rintro e w20 ⟨bH0, nH0, dH0, TH0, rfl, rH0, sH0, kH0, hb⟩
  obtain rfl := row_len rH0
  rw [← HY0.out] at rH0 kH0 ⊢
  rw [← HY1.out]
  clear kH0
  obtain ⟨LH0, hLH0⟩ : ∃ L, L = w19.heap.size := ⟨_, rfl⟩
  obtain ⟨MH0, hMH0⟩ : ∃ M, M = w20.heap.size := ⟨_, rfl⟩
  have NH0 : Hid ((kRow kScored).is true w20 (fun k => LH0 ≤ k ∧ k < MH0) [.slice bH0 y0.length dH0] y0) := Kd.tight _ rH0 (fun k hk hk' => ⟨by have hz := sH0 k hk'; omega, by omega⟩)
  clear rH0 sH0
  have Bw20 : Below w19.heap.size w19 w20 := hb
  have zzw20 := Bw20.size
  have Ya0_0_w20 : w20.cell? ⟨w.heap.size, 0, none⟩ = some (.int .i64 f0_0) := cell_later Bw20 Ya0_0_w19
  have Ya0_1_w20 : w20.cell? ⟨w.heap.size, 1, none⟩ = some (.slice a0_1 f0_1.length c0_1) := cell_later Bw20 Ya0_1_w19
  have ZAa0_w20 : w.heap.size < w20.heap.size := World.block_lt_of_cell? _ _ Ya0_0_w20
  have W0_w20 : Hid ((kRow kScored).is true w20 (fun k => LW0 ≤ k ∧ k < MW0) [.slice bW0 y0.length dW0] y0) := Kd.below W0_w19.out Bw20
  have G0_w20 : Hid ((kRow kScored).is true w20 (fun k => LG0 ≤ k ∧ k < MG0) [.slice bG0 y0.length dG0] (mks kScored y0 1)) := Kd.below G0_w19.out Bw20
  have HB20 : Hid (Below w.heap.size w w20) := HB19.out.trans (Bw20.mono HB19.out.size)
  clear Ya0_0_w19 Ya0_1_w19 W0_w19 G0_w19 HB19 hb Bw20
  have PTH0 : w.heap.size ≤ LH0 ∧ MH0 ≤ w20.heap.size ∧ w.heap.size < LH0 ∧ Ms0 ≤ LH0 ∧ Ms1 ≤ LH0 ∧ MW0 ≤ LH0 ∧ MX0 ≤ LH0 ∧ w6.heap.size < LH0 ∧ MX1 ≤ LH0 ∧ MG0 ≤ LH0 ∧ ME1 ≤ LH0 ∧ Mt0 ≤ LH0 ∧ Mt1 ≤ LH0 := by omega
  clear hLH0 hMH0
  go_wp2_with fail
  refine (eqScoredS_k y0 bH0 bW0 _ dH0 dW0 _ _ _ (Kd.read _ NH0.out) (Kd.read _ W0_w20.out)).mono ?_
  rintro e w21 ⟨rfl, hb⟩
  have Bw21 : Below w20.heap.size w20 w21 := hb
  have zzw21 := Bw21.size
  have Ya0_0_w21 : w21.cell? ⟨w.heap.size, 0, none⟩ = some (.int .i64 f0_0) := cell_later Bw21 Ya0_0_w20
  have Ya0_1_w21 : w21.cell? ⟨w.heap.size, 1, none⟩ = some (.slice a0_1 f0_1.length c0_1) := cell_later Bw21 Ya0_1_w20
  have ZAa0_w21 : w.heap.size < w21.heap.size := World.block_lt_of_cell? _ _ Ya0_0_w21
  have W0_w21 : Hid ((kRow kScored).is true w21 (fun k => LW0 ≤ k ∧ k < MW0) [.slice bW0 y0.length dW0] y0) := Kd.below W0_w20.out Bw21
  have G0_w21 : Hid ((kRow kScored).is true w21 (fun k => LG0 ≤ k ∧ k < MG0) [.slice bG0 y0.length dG0] (mks kScored y0 1)) := Kd.below G0_w20.out Bw21
  have H0_w21 : Hid ((kRow kScored).is true w21 (fun k => LH0 ≤ k ∧ k < MH0) [.slice bH0 y0.length dH0] y0) := Kd.below NH0.out Bw21
  have HB21 : Hid (Below w.heap.size w w21) := HB20.out.trans (Bw21.mono HB20.out.size)
  clear Ya0_0_w20 Ya0_1_w20 W0_w20 G0_w20 NH0 HB20 hb Bw21
  go_wp2_with fail
  refine (heldScoredS_k y0 _ _ _ _ _ _ (by omega) (by have := HKG0.out; omega) (Kd.read _ G0_w21.out)).mono ?_
  rw [← HKG0.out]
  rintro e w22 ⟨rfl, hb⟩
  have Bw22 : Below w21.heap.size w21 w22 := hb
  have zzw22 := Bw22.size
  have Ya0_0_w22 : w22.cell? ⟨w.heap.size, 0, none⟩ = some (.int .i64 f0_0) := cell_later Bw22 Ya0_0_w21
  have Ya0_1_w22 : w22.cell? ⟨w.heap.size, 1, none⟩ = some (.slice a0_1 f0_1.length c0_1) := cell_later Bw22 Ya0_1_w21
  have ZAa0_w22 : w.heap.size < w22.heap.size := World.block_lt_of_cell? _ _ Ya0_0_w22
  have W0_w22 : Hid ((kRow kScored).is true w22 (fun k => LW0 ≤ k ∧ k < MW0) [.slice bW0 y0.length dW0] y0) := Kd.below W0_w21.out Bw22
  have G0_w22 : Hid ((kRow kScored).is true w22 (fun k => LG0 ≤ k ∧ k < MG0) [.slice bG0 y0.length dG0] (mks kScored y0 1)) := Kd.below G0_w21.out Bw22
  have H0_w22 : Hid ((kRow kScored).is true w22 (fun k => LH0 ≤ k ∧ k < MH0) [.slice bH0 y0.length dH0] y0) := Kd.below H0_w21.out Bw22
  have HB22 : Hid (Below w.heap.size w w22) := HB21.out.trans (Bw22.mono HB21.out.size)
  clear Ya0_0_w21 Ya0_1_w21 W0_w21 G0_w21 H0_w21 HB21 hb Bw22
  go_wp2
  go_ret
  exact ⟨rfl, HB22.out⟩

end Go.Proofs.Ytdaomklgcdfllaa
namespace Go.Proofs.Ytdaomklgcdfllaa
open Go.ChangeShapes Go.WideShapes Go.ChangeAt Go.RowKit
open Go.ChangeMaps (open_string shut_string)
set_option linter.unusedVariables false

set_option maxRecDepth 100000 in
theorem rankTexts_lifted (os : Os) (started : os.Started) (H : Type) (enc : TypeId × Value → H) :
    ReturnsInHanded {} Try.checked os 9 .any (Rows.fnExactRankTextsSpec.pre6 enc Try.prog Try.f9 Rows.fnExactRankTextsRow.domain false) (Rows.fnExactRankTextsSpec.post enc Try.prog Try.f9 false true false false) := by
  refine returnsInHanded_of_change (C := Try.checked) own started (by kernel_rfl) Try.func9
    (ChangeSpec.witness6 (enc := enc) (C := Try.checked) false ⟨#[], #[.agg #[.int .i64 0, .slice none 0 0], .slice none 0 0, .int .i64 0], []⟩ 8 (by kernel_rfl) (by kernel_rfl) (by kernel_rfl) (by kernel_rfl)) ?_
  intro W base args ds gs before hval0 hW hcnd _
  have hval : ∀ (j : Nat) t v, Try.f9.params[j]? = some t → args[j]? = some v → Value.okWide Try.prog W .any base t v := hval0
  have hW' := hW
  obtain ⟨p, q, hA0, hV, rfl, hfz, hnd⟩ := hW
  have hA : DataW.TrodAll enc Try.prog W 0 (fun _ => true) true Try.f9.params.toList args.toList ds p := hA0
  rw [Try.params9] at hA hval
  obtain ⟨v0, vs0, d0, ds0, p0, q0, hargs, rfl, rfl, h0, r0⟩ := trodAll_cons hA
  obtain ⟨v1, vs1, d1, ds1, p1, q1, rfl, rfl, rfl, h1, r1⟩ := trodAll_cons r0
  obtain ⟨v2, vs2, d2, ds2, p2, q2, rfl, rfl, rfl, h2, r2⟩ := trodAll_cons r1
  obtain ⟨rfl, rfl, rfl⟩ := trodAll_nil r2
  obtain rfl : args = #[v0, v1, v2] := by cases args; simp_all
  obtain ⟨rfl, rfl⟩ := trodVars_none hV
  have k0 := h0
  have lt0 : ∀ x ∈ p0, x.block < W.heap.size := by obtain ⟨m, hm⟩ := k0; exact DataW.trod_lt m _ _ _ hm
  obtain ⟨C0, x0, rfl, g0⟩ := open_agg Try.underlying54 opens_Words (hval 0 54 v0 rfl rfl) h0
  have k1 := h1
  have lt1 : ∀ x ∈ p1, x.block < W.heap.size := by obtain ⟨m, hm⟩ := k1; exact DataW.trod_lt m _ _ _ hm
  obtain ⟨a1, n1, c1, x1, rfl, g1⟩ := open_row Try.underlying22 opens_stringS (hval 1 22 v1 rfl rfl) h1
  obtain ⟨x2, rfl, rfl, rfl, w2⟩ := open_int Try.underlying3 (hval 2 3 v2 rfl rfl) h2
  have z2 : IntOk x2 := by
    have h : IntKind.i64.min ≤ x2 ∧ x2 ≤ IntKind.i64.max := by simpa only [Lit.wf, Bool.and_eq_true, decide_eq_true_eq] using w2
    exact h
  clear hA0 hval0
  simp only [List.append_nil] at hW'
  refine (lawRankTexts_k x0 C0 x1 a1 n1 c1 x2 W g0 g1 z2).mono fun e W' ⟨he, bel⟩ => ?_
  subst he
  exact ⟨_, rfl, _, _, _, [], _, [], hW', trodAll_mk1 (shut_bool Try.underlying4 _), (trodAll_cons_mk (Below.trod laidOut (by kernel_rfl) (of_decide_eq_true (by kernel_rfl)) k0 bel lt0) (trodAll_cons_mk (Below.trod laidOut (by kernel_rfl) (of_decide_eq_true (by kernel_rfl)) k1 bel lt1) (trodAll_cons_mk (shut_int Try.underlying3 w2) trodAll_mk0))), rfl, bel.frame _, fun h => by cases h⟩

theorem rankTexts_holds : Rows.FnExactRankTextsSaid :=
  OpenClaim.holds_of_wide 9 Try.f9 rfl rfl rfl rfl rfl rfl rfl ⟨rfl, rfl, rfl, rfl, rfl⟩ rfl rfl rfl rfl rfl (by kernel_rfl) Try.func9 (by kernel_rfl)
    (of_decide_eq_true (by kernel_rfl)) (by unfold Func.isWrapper; first | (rw [if_pos (by decide +kernel)]; kernel_rfl) | (rw [if_neg (by decide +kernel)]; exact ⟨rfl, rfl⟩))
    (fun os started H enc _ => rankTexts_lifted os started H enc)
#print axioms rankTexts_holds
end Go.Proofs.Ytdaomklgcdfllaa
