/- Rankings for words, and a text's score: the specification's and the program's. No condition but that they fit in memory. -/
import Derived.Test.YtdaomklgcdfllaaQRfS
import Derived.Test.YtdaomklgcdfllaaWgS
namespace Go.Proofs.Ytdaomklgcdfllaa
open Go.RowKit
set_option linter.unusedVariables false

/-- What ScoreOf answers. -/
def RScoreOf (x0 : DWords) (x1 : List ByteArray) (x2 : Int) (w : World) (e : Ending) (w' : World) : Prop := e = .returned (.tuple #[.int .i64 (fScoreOf x0 x1 x2).1, .bool (fScoreOf x0 x1 x2).2]) ∧ IntOk (fScoreOf x0 x1 x2).1 ∧ Below w.heap.size w w'
theorem RScoreOf.no {x0 : DWords} {x1 : List ByteArray} {x2 : Int} {w w' : World} (h : ((fGoodWords x0 && fDistinct x1) && decide (0 ≤ x2 ∧ x2 ≤ x0.1 - 1)) = false) (hb : Below w.heap.size w w') : RScoreOf x0 x1 x2 w (.returned (.tuple #[.int .i64 0, .bool false])) w' := by
  unfold RScoreOf fScoreOf
  rw [if_neg (by rw [h]; exact Bool.false_ne_true)]
  exact ⟨rfl, ⟨by decide, by decide⟩, hb⟩
theorem RScoreOf.no1 {x0 : DWords} {x1 : List ByteArray} {x2 : Int} {w w' : World} (h : (fGoodWords x0 && fDistinct x1) = false) (hb : Below w.heap.size w w') : RScoreOf x0 x1 x2 w (.returned (.tuple #[.int .i64 0, .bool false])) w' := RScoreOf.no (by rw [h]; rfl) hb
theorem RScoreOf.yes {x0 : DWords} {x1 : List ByteArray} {x2 : Int} {w w' : World} (h : fGoodWords x0 = true) (h2 : fDistinct x1 = true) (h3 : 0 ≤ x2 ∧ x2 ≤ x0.1 - 1) (hb : Below w.heap.size w w') : RScoreOf x0 x1 x2 w (.returned (.tuple #[.int .i64 (sumL (rksOf x0 x1) x2), .bool true])) w' := by
  unfold RScoreOf fScoreOf
  rw [if_pos (by rw [h, h2, decide_eq_true h3]; rfl)]
  have hg := rks_good h h2
  have h4 := sumL_bnd (fun r hr y hy => (good_sc hg r hr y hy).1) x2
  have h5 := (good_len hg).1
  exact ⟨rfl, by unfold IntOk; show _ ∧ _; simp only; omega, hb⟩

set_option maxRecDepth 100000 in
set_option maxHeartbeats 4000000 in
theorem specRankingsFor_k (x0 : DWords) (C0 : List Value) (S0 : Nat → Prop) (x1 : List ByteArray) (a1 : Option Addr) (n1 c1 : Nat) (S1 : Nat → Prop) (w : World) (h0 : kWords.is true w S0 C0 x0) (z0 : kWords.sz x0 ≤ 2 ^ 20) (h1 : (kRow kStr).is true w S1 [.slice a1 n1 c1] x1) (z1 : (kRow kStr).sz x1 ≤ 2 ^ 20) :
    Calls Try.prog 41 #[.agg C0.toArray, .slice a1 n1 c1] w (RRankingsFor x0 x1 w) := by
  obtain ⟨tx, es⟩ := x0
  have HKT : Hid (kWords.is true w S0 C0 (tx, es)) := h0
  have HK : Hid (kWords.is false w S0 C0 (tx, es)) := Kd.read _ h0
  obtain ⟨a, c, T, rfl, g0, hmx, hr, _⟩ := kWords_open HK.out
  have HZ0 : Hid (kWords.sz (tx, es) ≤ 2 ^ 20) := z0
  have HZ : Hid ((kRow kEntry).sz es ≤ 2 ^ 20) := by have : kWords.sz (tx, es) = 0 + (kRow kEntry).sz es := rfl; show _ ≤ _; omega
  have HZ1 : Hid ((kRow kStr).sz x1 ≤ 2 ^ 20) := z1
  have HRW : Hid ((kRow kEntry).is false w T [.slice a es.length c] es) := hr
  have HW : Hid ((kRow kStr).is true w S1 [.slice a1 n1 c1] x1) := h1
  have HN1 : Hid (n1 = x1.length) := row_len h1
  clear h0 z0 h1 z1 hr
  show Calls Try.prog 41 #[.agg #[.int .i64 tx, .slice a es.length c], .slice a1 n1 c1] w _
  go_enter Try.func41, Try.ntmps41
  go_wp2_with fail
  refine (specGoodWords_k (tx, es) [.int .i64 tx, .slice a es.length c] S0 _ (Kd.below HK.out (below_a1r _ _)) HZ0.out).mono ?_
  rintro e w1 ⟨rfl, hb1⟩
  have X0 : w1.cell? ⟨w.heap.size, 0, none⟩ = some (.int .i64 tx) := by rw [hb1.cell (by simp)]; simp [go_sem]
  have X1 : w1.cell? ⟨w.heap.size, 1, none⟩ = some (.slice a es.length c) := by rw [hb1.cell (by simp)]; simp [go_sem]
  have HB1 : Hid (Below w.heap.size w w1) := (below_a1r _ _).trans (hb1.mono (by simp))
  clear hb1
  cases hg : fGoodWords (tx, es) with
  | false =>
    have HNO : Hid ((fGoodWords (tx, es) && fDistinct x1) = false) := by show _ = _; rw [hg]; rfl
    clear hg
    go_wp2
    refine bodyPost_ret (v := .tuple #[.slice none 0 0, .bool false]) (by simp [results, Try.results41, go_sem]) rfl ?_
    exact RRankingsFor.no HNO.out HB1.out
  | true =>
    have HG : Hid (fGoodWords (tx, es) = true) := hg
    clear hg
    go_wp2_with fail
    refine (l11Distinct_k x1 a1 n1 c1 S1 _ (Kd.below HW.out HB1.out) HZ1.out).mono ?_
    rintro e w2 ⟨rfl, hb2⟩
    have Y0 := cell_later hb2 X0
    have Y1 := cell_later hb2 X1
    have HB2 : Hid (Below w.heap.size w w2) := HB1.out.trans (hb2.mono HB1.out.size)
    clear hb2 X0 X1
    cases hd : fDistinct x1 with
    | false =>
      have HNO : Hid ((fGoodWords (tx, es) && fDistinct x1) = false) := by show _ = _; rw [hd, Bool.and_false]
      clear hd
      go_wp2
      refine bodyPost_ret (v := .tuple #[.slice none 0 0, .bool false]) (by simp [results, Try.results41, go_sem]) rfl ?_
      exact RRankingsFor.no HNO.out HB2.out
    | true =>
      have HD : Hid (fDistinct x1 = true) := hd
      have hn5 : n1 ≤ 5 := by unfold fDistinct at hd; simp only [Bool.and_eq_true, decide_eq_true_eq] at hd; rw [HN1.out]; exact hd.2
      obtain ⟨t0, t40⟩ := good_texts HG.out
      have z2 : w.heap.size ≤ w2.heap.size := HB2.out.size
      clear hd
      go_wp2_with fail
      refine (l11Rankings_k tx es a c T x1 a1 n1 c1 S1 _ (Kd.below HRW.out HB2.out) HZ.out (Kd.below (Kd.read _ HW.out) HB2.out) HG.out hn5).mono ?_
      rintro e w3 ⟨ra, rn, rc, rfl, hr3, hb3⟩
      have HR3 : Hid ((kRow kRanking).is true w3 (fun q => w2.heap.size ≤ q) [.slice ra rn rc] (rksOf (tx, es) x1)) := hr3
      have HB3 : Hid (Below w.heap.size w w3) := HB2.out.trans (hb3.mono z2)
      have z3 : w.heap.size ≤ w3.heap.size := HB3.out.size
      clear hr3 hb3
      go_wp2
      refine bodyPost_ret (v := .tuple #[.slice ra rn rc, .bool true]) (by simp [results, Try.results41, go_sem]) rfl ?_
      exact RRankingsFor.yes HG.out HD.out HR3.out z2 HB3.out

set_option maxRecDepth 100000 in
set_option maxHeartbeats 4000000 in
theorem specScoreOf_k (x0 : DWords) (C0 : List Value) (S0 : Nat → Prop) (x1 : List ByteArray) (a1 : Option Addr) (n1 c1 : Nat) (S1 : Nat → Prop) (x2 : Int) (w : World) (h0 : kWords.is true w S0 C0 x0) (z0 : kWords.sz x0 ≤ 2 ^ 20) (h1 : (kRow kStr).is true w S1 [.slice a1 n1 c1] x1) (z1 : (kRow kStr).sz x1 ≤ 2 ^ 20) (h2 : IntOk x2) :
    Calls Try.prog 36 #[.agg C0.toArray, .slice a1 n1 c1, .int .i64 x2] w (RScoreOf x0 x1 x2 w) := by
  obtain ⟨tx, es⟩ := x0
  have HKT : Hid (kWords.is true w S0 C0 (tx, es)) := h0
  have HK : Hid (kWords.is false w S0 C0 (tx, es)) := Kd.read _ h0
  obtain ⟨a, c, T, rfl, g0, hmx, hr, _⟩ := kWords_open HK.out
  have HZ0 : Hid (kWords.sz (tx, es) ≤ 2 ^ 20) := z0
  have HZ : Hid ((kRow kEntry).sz es ≤ 2 ^ 20) := by have : kWords.sz (tx, es) = 0 + (kRow kEntry).sz es := rfl; show _ ≤ _; omega
  have HZ1 : Hid ((kRow kStr).sz x1 ≤ 2 ^ 20) := z1
  have HRW : Hid ((kRow kEntry).is false w T [.slice a es.length c] es) := hr
  have HW : Hid ((kRow kStr).is true w S1 [.slice a1 n1 c1] x1) := h1
  have HN1 : Hid (n1 = x1.length) := row_len h1
  clear h0 z0 h1 z1 hr
  show Calls Try.prog 36 #[.agg #[.int .i64 tx, .slice a es.length c], .slice a1 n1 c1, .int .i64 x2] w _
  go_enter Try.func36, Try.ntmps36
  go_wp2_with fail
  refine (specGoodWords_k (tx, es) [.int .i64 tx, .slice a es.length c] S0 _ (Kd.below HK.out (below_a1r _ _)) HZ0.out).mono ?_
  rintro e w1 ⟨rfl, hb1⟩
  have X0 : w1.cell? ⟨w.heap.size, 0, none⟩ = some (.int .i64 tx) := by rw [hb1.cell (by simp)]; simp [go_sem]
  have X1 : w1.cell? ⟨w.heap.size, 1, none⟩ = some (.slice a es.length c) := by rw [hb1.cell (by simp)]; simp [go_sem]
  have HB1 : Hid (Below w.heap.size w w1) := (below_a1r _ _).trans (hb1.mono (by simp))
  clear hb1
  cases hg : fGoodWords (tx, es) with
  | false =>
    have HNO : Hid ((fGoodWords (tx, es) && fDistinct x1) = false) := by show _ = _; rw [hg]; rfl
    clear hg
    go_wp2
    refine bodyPost_ret (v := .tuple #[.int .i64 0, .bool false]) (by simp [results, Try.results36, go_sem]) rfl ?_
    exact RScoreOf.no1 HNO.out HB1.out
  | true =>
    have HG : Hid (fGoodWords (tx, es) = true) := hg
    clear hg
    go_wp2_with fail
    refine (l11Distinct_k x1 a1 n1 c1 S1 _ (Kd.below HW.out HB1.out) HZ1.out).mono ?_
    rintro e w2 ⟨rfl, hb2⟩
    have Y0 := cell_later hb2 X0
    have Y1 := cell_later hb2 X1
    have HB2 : Hid (Below w.heap.size w w2) := HB1.out.trans (hb2.mono HB1.out.size)
    clear hb2 X0 X1
    cases hd : fDistinct x1 with
    | false =>
      have HNO : Hid ((fGoodWords (tx, es) && fDistinct x1) = false) := by show _ = _; rw [hd, Bool.and_false]
      clear hd
      go_wp2
      refine bodyPost_ret (v := .tuple #[.int .i64 0, .bool false]) (by simp [results, Try.results36, go_sem]) rfl ?_
      exact RScoreOf.no1 HNO.out HB2.out
    | true =>
      have HD : Hid (fDistinct x1 = true) := hd
      have hn5 : n1 ≤ 5 := by unfold fDistinct at hd; simp only [Bool.and_eq_true, decide_eq_true_eq] at hd; rw [HN1.out]; exact hd.2
      obtain ⟨t0, t40⟩ := good_texts HG.out
      have z2 : w.heap.size ≤ w2.heap.size := HB2.out.size
      clear hd
      go_wp2_with fail
      refine (l1In_k x2 0 (tx - 1) _).mono ?_
      rintro e w4 ⟨rfl, rfl⟩
      by_cases hk : 0 ≤ x2 ∧ x2 ≤ tx - 1
      · rw [decide_eq_true hk]
        have HK2 : Hid (0 ≤ x2 ∧ x2 ≤ (tx, es).1 - 1) := hk
        clear hk
        go_wp2_with fail
        refine (l11Rankings_k tx es a c T x1 a1 n1 c1 S1 _ (Kd.below HRW.out HB2.out) HZ.out (Kd.below (Kd.read _ HW.out) HB2.out) HG.out hn5).mono ?_
        rintro e w3 ⟨ra, rn, rc, rfl, hr3, hb3⟩
        have HR3 : Hid ((kRow kRanking).is true w3 (fun q => w4.heap.size ≤ q) [.slice ra rn rc] (rksOf (tx, es) x1)) := hr3
        have HB3 : Hid (Below w.heap.size w w3) := HB2.out.trans (hb3.mono z2)
        have z3 : w.heap.size ≤ w3.heap.size := HB3.out.size
        clear hr3 hb3
        go_wp2_with fail
        refine (l11Sum_k (rksOf (tx, es) x1) ra rn rc _ x2 _ (Kd.read _ HR3.out) (good_sumOk (rks_good HG.out HD.out))).mono ?_
        rintro e w5 ⟨rfl, hb5⟩
        have HB5 : Hid (Below w.heap.size w w5) := HB3.out.trans (hb5.mono z3)
        have HY := RScoreOf.yes (w := w) (w' := w5) HG.out HD.out HK2.out HB5.out
        have HYY : Hid (RScoreOf (tx, es) x1 x2 w (.returned (.tuple #[.int .i64 (sumL (rksOf (tx, es) x1) x2), .bool true])) w5) := HY
        clear hb5 HY
        generalize sumL (rksOf (tx, es) x1) x2 = sm at *
        go_wp2
        refine bodyPost_ret (v := .tuple #[.int .i64 sm, .bool true]) (by simp [results, Try.results36, go_sem]) rfl ?_
        exact HYY.out
      · rw [decide_eq_false hk]
        have HNO : Hid (((fGoodWords (tx, es) && fDistinct x1) && decide (0 ≤ x2 ∧ x2 ≤ (tx, es).1 - 1)) = false) := by show _ = _; rw [decide_eq_false hk, Bool.and_false]
        clear hk
        go_wp2
        refine bodyPost_ret (v := .tuple #[.int .i64 0, .bool false]) (by simp [results, Try.results36, go_sem]) rfl ?_
        exact RScoreOf.no HNO.out HB2.out

set_option maxRecDepth 100000 in
set_option maxHeartbeats 4000000 in
theorem implScoreOf_k (x0 : DWords) (C0 : List Value) (S0 : Nat → Prop) (x1 : List ByteArray) (a1 : Option Addr) (n1 c1 : Nat) (S1 : Nat → Prop) (x2 : Int) (w : World) (h0 : kWords.is true w S0 C0 x0) (z0 : kWords.sz x0 ≤ 2 ^ 20) (h1 : (kRow kStr).is true w S1 [.slice a1 n1 c1] x1) (z1 : (kRow kStr).sz x1 ≤ 2 ^ 20) (h2 : IntOk x2) :
    Calls Try.prog 38 #[.agg C0.toArray, .slice a1 n1 c1, .int .i64 x2] w (RScoreOf x0 x1 x2 w) := by
  obtain ⟨tx, es⟩ := x0
  have HKT : Hid (kWords.is true w S0 C0 (tx, es)) := h0
  have HK : Hid (kWords.is false w S0 C0 (tx, es)) := Kd.read _ h0
  obtain ⟨a, c, T, rfl, g0, hmx, hr, _⟩ := kWords_open HK.out
  have HZ0 : Hid (kWords.sz (tx, es) ≤ 2 ^ 20) := z0
  have HZ : Hid ((kRow kEntry).sz es ≤ 2 ^ 20) := by have : kWords.sz (tx, es) = 0 + (kRow kEntry).sz es := rfl; show _ ≤ _; omega
  have HZ1 : Hid ((kRow kStr).sz x1 ≤ 2 ^ 20) := z1
  have HRW : Hid ((kRow kEntry).is false w T [.slice a es.length c] es) := hr
  have HW : Hid ((kRow kStr).is true w S1 [.slice a1 n1 c1] x1) := h1
  have HN1 : Hid (n1 = x1.length) := row_len h1
  clear h0 z0 h1 z1 hr
  show Calls Try.prog 38 #[.agg #[.int .i64 tx, .slice a es.length c], .slice a1 n1 c1, .int .i64 x2] w _
  go_enter Try.func38, Try.ntmps38
  go_wp2_with fail
  refine (implRankingsFor_k (tx, es) [.int .i64 tx, .slice a es.length c] S0 x1 a1 n1 c1 S1 _ (Kd.below HKT.out (below_a1r _ _)) HZ0.out (Kd.below HW.out (below_a1r _ _)) HZ1.out).mono ?_
  rintro e w3 ⟨ra, rn, rc, T3, rfl, hr3, hT3, _, hb3⟩
  have Y0 : w3.cell? ⟨w.heap.size, 0, none⟩ = some (.int .i64 tx) := by rw [hb3.cell (by simp)]; simp [go_sem]
  have HB3 : Hid (Below w.heap.size w w3) := (below_a1r _ _).trans (hb3.mono (by simp))
  have z3 : w.heap.size ≤ w3.heap.size := HB3.out.size
  clear hb3
  cases hgd : (fGoodWords (tx, es) && fDistinct x1) with
  | false =>
    have e : fRankingsFor (tx, es) x1 = ([], false) := by unfold fRankingsFor; rw [if_neg (by rw [hgd]; exact Bool.false_ne_true)]
    have HNO : Hid ((fGoodWords (tx, es) && fDistinct x1) = false) := hgd
    rw [e]
    clear hgd e hr3 hT3
    go_wp2
    refine bodyPost_ret (v := .tuple #[.int .i64 0, .bool false]) (by simp [results, Try.results38, go_sem]) rfl ?_
    exact RScoreOf.no1 HNO.out HB3.out
  | true =>
    have e : fRankingsFor (tx, es) x1 = (rksOf (tx, es) x1, true) := by unfold fRankingsFor; rw [if_pos hgd]
    rw [e] at hr3 ⊢
    obtain ⟨hg', hd'⟩ : fGoodWords (tx, es) = true ∧ fDistinct x1 = true := by simpa using hgd
    have HG : Hid (fGoodWords (tx, es) = true) := hg'
    have HD : Hid (fDistinct x1 = true) := hd'
    have HR3 : Hid ((kRow kRanking).is true w3 T3 [.slice ra rn rc] (rksOf (tx, es) x1)) := hr3
    obtain ⟨t0, t40⟩ := good_texts HG.out
    clear hgd e hr3 hg' hd'
    clear hT3
    by_cases k1 : x2 < 0
    · have HNO : Hid (((fGoodWords (tx, es) && fDistinct x1) && decide (0 ≤ x2 ∧ x2 ≤ (tx, es).1 - 1)) = false) := by show _ = _; rw [decide_eq_false (by omega), Bool.and_false]
      go_wp2
      refine bodyPost_ret (v := .tuple #[.int .i64 0, .bool false]) (by simp [results, Try.results38, go_sem]) rfl ?_
      exact RScoreOf.no HNO.out HB3.out
    · by_cases k2 : tx ≤ x2
      · have HNO : Hid (((fGoodWords (tx, es) && fDistinct x1) && decide (0 ≤ x2 ∧ x2 ≤ (tx, es).1 - 1)) = false) := by show _ = _; rw [decide_eq_false (by show ¬ (0 ≤ x2 ∧ x2 ≤ tx - 1); omega), Bool.and_false]
        go_wp2
        refine bodyPost_ret (v := .tuple #[.int .i64 0, .bool false]) (by simp [results, Try.results38, go_sem]) rfl ?_
        exact RScoreOf.no HNO.out HB3.out
      · have HK2 : Hid (0 ≤ x2 ∧ x2 ≤ (tx, es).1 - 1) := by show 0 ≤ x2 ∧ x2 ≤ tx - 1; omega
        go_wp2_with fail
        refine (sumIn_k (rksOf (tx, es) x1) ra rn rc _ x2 _ (Kd.read _ HR3.out) (good_sumOk (rks_good HG.out HD.out))).mono ?_
        rintro e w5 ⟨rfl, hb5⟩
        have HB5 : Hid (Below w.heap.size w w5) := HB3.out.trans (hb5.mono z3)
        have HY := RScoreOf.yes (w := w) (w' := w5) HG.out HD.out HK2.out HB5.out
        have HYY : Hid (RScoreOf (tx, es) x1 x2 w (.returned (.tuple #[.int .i64 (sumL (rksOf (tx, es) x1) x2), .bool true])) w5) := HY
        clear hb5 HY
        generalize sumL (rksOf (tx, es) x1) x2 = sm at *
        go_wp2
        refine bodyPost_ret (v := .tuple #[.int .i64 sm, .bool true]) (by simp [results, Try.results38, go_sem]) rfl ?_
        exact HYY.out
end Go.Proofs.Ytdaomklgcdfllaa
