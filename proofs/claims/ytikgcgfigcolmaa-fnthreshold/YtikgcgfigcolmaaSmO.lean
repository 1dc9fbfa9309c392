/- The sum of an id in lists: the program's and the specification's. No condition but that they fit in memory. -/
import Derived.Test.YtikgcgfigcolmaaSmI
import Derived.Test.YtikgcgfigcolmaaRkG
import Derived.Test.YtikgcgfigcolmaaRkS
namespace Go.Proofs.Ytikgcgfigcolmaa
open Go.RowKit
set_option linter.unusedVariables false

/-- SumOf. -/
def fSumOf (x0 : List DRanking) (x1 : Int) : Int × Bool := if (fGoodRankings x0 && decide (0 ≤ x1 ∧ x1 ≤ 1000)) = true then (sumL x0 x1, true) else (0, false)
theorem fSumOf_ok (x0 : List DRanking) (x1 : Int) : IntOk (fSumOf x0 x1).1 := by
  unfold fSumOf
  split
  · next h =>
    simp only [Bool.and_eq_true] at h
    have hok := good_sumOk h.1
    have h1 := sumL_bnd (ls := x0) (fun r hr => (hok.2 r hr).2.2) x1
    have h2 := hok.1
    show IntOk (sumL x0 x1)
    unfold IntOk
    omega
  · show IntOk 0
    unfold IntOk
    omega
/-- What SumOf answers. -/
def RSumOf (x0 : List DRanking) (x1 : Int) (w : World) (e : Ending) (w' : World) : Prop := e = .returned (.tuple #[.int .i64 (fSumOf x0 x1).1, .bool (fSumOf x0 x1).2]) ∧ IntOk (fSumOf x0 x1).1 ∧ Below w.heap.size w w'
theorem RSumOf.no {x0 : List DRanking} {x1 : Int} {w w' : World} (h : (fGoodRankings x0 && decide (0 ≤ x1 ∧ x1 ≤ 1000)) = false) (hb : Below w.heap.size w w') : RSumOf x0 x1 w (.returned (.tuple #[.int .i64 0, .bool false])) w' := by
  have e : fSumOf x0 x1 = (0, false) := by unfold fSumOf; rw [h]; rfl
  refine ⟨by rw [e], fSumOf_ok _ _, hb⟩
theorem RSumOf.yes {x0 : List DRanking} {x1 : Int} {w w' : World} (h : fGoodRankings x0 = true) (h1 : 0 ≤ x1 ∧ x1 ≤ 1000) (hb : Below w.heap.size w w') : RSumOf x0 x1 w (.returned (.tuple #[.int .i64 (sumL x0 x1), .bool true])) w' := by
  have e : fSumOf x0 x1 = (sumL x0 x1, true) := by unfold fSumOf; rw [h, decide_eq_true h1]; rfl
  refine ⟨by rw [e], fSumOf_ok _ _, hb⟩
set_option maxRecDepth 100000 in
set_option maxHeartbeats 4000000 in
theorem implSumOf_k (x0 : List DRanking) (a0 : Option Addr) (n0 c0 : Nat) (S0 : Nat → Prop) (x1 : Int) (w : World) (h0 : (kRow kRanking).is true w S0 [.slice a0 n0 c0] x0) (z0 : (kRow kRanking).sz x0 ≤ 2 ^ 20) (h1 : IntOk x1) :
    Calls Try.prog 30 #[.slice a0 n0 c0, .int .i64 x1] w (RSumOf x0 x1 w) := by
  have H : Hid ((kRow kRanking).is true w S0 [.slice a0 n0 c0] x0) := h0
  have HZ : Hid ((kRow kRanking).sz x0 ≤ 2 ^ 20) := z0
  clear h0 z0 h1
  go_enter Try.func30, Try.ntmps30
  go_wp2_with fail
  refine (implGoodRankings_k x0 a0 n0 c0 S0 _ H.out HZ.out).mono ?_
  rintro e w1 ⟨rfl, hb1⟩
  have HB1 : Hid (Below w.heap.size w w1) := hb1
  clear hb1
  cases hg : fGoodRankings x0 with
  | false =>
    have HNO : Hid ((fGoodRankings x0 && decide (0 ≤ x1 ∧ x1 ≤ 1000)) = false) := by show _ = _; rw [hg]; rfl
    clear hg
    go_wp2
    refine bodyPost_ret (v := .tuple #[.int .i64 0, .bool false]) (by simp [results, Try.results30, go_sem]) rfl ?_
    exact RSumOf.no HNO.out HB1.out
  | true =>
    have HG : Hid (fGoodRankings x0 = true) := hg
    clear hg
    by_cases c1 : 0 ≤ x1 ∧ x1 ≤ 1000
    · have HI : ∀ w, Hid (Calls Try.prog 72 #[.int .i64 x1] w fun e w' => e = .returned (.bool true) ∧ w' = w) := fun w => isId_is w (decide_eq_true c1)
      have HC : Hid (0 ≤ x1 ∧ x1 ≤ 1000) := c1
      clear c1
      go_wp2_with fail
      refine (HI _).out.mono ?_
      rintro e w2 ⟨rfl, rfl⟩
      go_wp2_with fail
      refine (sumIn_k x0 a0 n0 c0 S0 x1 _ (Kd.read _ (Kd.below H.out HB1.out)) (good_sumOk HG.out)).mono ?_
      rintro e w3 ⟨rfl, hb3⟩
      have HB3 : Hid (Below w.heap.size w w3) := HB1.out.trans (hb3.mono HB1.out.size)
      clear hb3
      go_wp2
      refine bodyPost_ret (v := .tuple #[.int .i64 (sumL x0 x1), .bool true]) (by simp [results, Try.results30, go_sem]) rfl ?_
      exact RSumOf.yes HG.out HC.out HB3.out
    · have HI : ∀ w, Hid (Calls Try.prog 72 #[.int .i64 x1] w fun e w' => e = .returned (.bool false) ∧ w' = w) := fun w => isId_is w (decide_eq_false c1)
      have HNO : Hid ((fGoodRankings x0 && decide (0 ≤ x1 ∧ x1 ≤ 1000)) = false) := by show _ = _; rw [decide_eq_false c1, Bool.and_false]
      clear c1
      go_wp2_with fail
      refine (HI _).out.mono ?_
      rintro e w2 ⟨rfl, rfl⟩
      go_wp2
      refine bodyPost_ret (v := .tuple #[.int .i64 0, .bool false]) (by simp [results, Try.results30, go_sem]) rfl ?_
      exact RSumOf.no HNO.out HB1.out
end Go.Proofs.Ytikgcgfigcolmaa
