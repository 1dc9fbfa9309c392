/- MajorityOf and BallotFor: both sides. No condition. -/
import Derived.Test.YtdlodeklheapgaaPxS
namespace Go.Proofs.Ytdlodeklheapgaa
open Go.RowKit
set_option linter.unusedVariables false

def fMajorityOf (n : Int) : Int × Bool := if 1 ≤ n ∧ n ≤ 100 then (n / 2 + 1, true) else (0, false)
/-- What MajorityOf answers. -/
def RMajorityOf (x0 : Int) (w : World) (e : Ending) (w' : World) : Prop := e = .returned (.tuple #[.int .i64 (fMajorityOf x0).1, .bool (fMajorityOf x0).2]) ∧ IntOk (fMajorityOf x0).1 ∧ Below w.heap.size w w'
theorem maj_yes {n : Int} (h : 1 ≤ n ∧ n ≤ 100) : fMajorityOf n = (n / 2 + 1, true) := if_pos h
theorem maj_no {n : Int} (h : ¬ (1 ≤ n ∧ n ≤ 100)) : fMajorityOf n = (0, false) := if_neg h
theorem quo2 {x : Int} (h : 0 ≤ x) : x.tdiv 2 = x / 2 := Int.tdiv_eq_ediv_of_nonneg h
set_option maxRecDepth 100000 in
set_option maxHeartbeats 1000000 in
theorem implMajorityOf_k (x0 : Int) (w : World) (h0 : IntOk x0) :
    Calls Try.prog 27 #[.int .i64 x0] w (RMajorityOf x0 w) := by
  by_cases c1 : 1 ≤ x0
  · by_cases c2 : x0 ≤ 100
    · have HQ : Hid (x0.tdiv 2 = x0 / 2) := quo2 (by omega)
      have e1 : 0 ≤ x0 / 2 := by omega
      have e2 : x0 / 2 ≤ 50 := by omega
      have HM : Hid (fMajorityOf x0 = (x0 / 2 + 1, true)) := maj_yes ⟨c1, c2⟩
      go_enter Try.func27, Try.ntmps27
      go_wp2
      refine bodyPost_ret (v := .tuple #[.int .i64 (x0 / 2 + 1), .bool true]) (by simp [results, Try.results27, go_sem]) rfl ?_
      unfold RMajorityOf
      rw [HM.out]
      exact ⟨rfl, ⟨by omega, by omega⟩, Below.refl _ _⟩
    · have HM : Hid (fMajorityOf x0 = (0, false)) := maj_no (fun h => c2 h.2)
      go_enter Try.func27, Try.ntmps27
      go_wp2
      refine bodyPost_ret (v := .tuple #[.int .i64 0, .bool false]) (by simp [results, Try.results27, go_sem]) rfl ?_
      unfold RMajorityOf
      rw [HM.out]
      exact ⟨rfl, ⟨by omega, by omega⟩, Below.refl _ _⟩
  · have HM : Hid (fMajorityOf x0 = (0, false)) := maj_no (fun h => c1 h.1)
    go_enter Try.func27, Try.ntmps27
    go_wp2
    refine bodyPost_ret (v := .tuple #[.int .i64 0, .bool false]) (by simp [results, Try.results27, go_sem]) rfl ?_
    unfold RMajorityOf
    rw [HM.out]
    exact ⟨rfl, ⟨by omega, by omega⟩, Below.refl _ _⟩
set_option maxRecDepth 100000 in
set_option maxHeartbeats 1000000 in
theorem specMajorityOf_k (x0 : Int) (w : World) (h0 : IntOk x0) :
    Calls Try.prog 28 #[.int .i64 x0] w (RMajorityOf x0 w) := by
  go_enter Try.func28, Try.ntmps28
  go_wp2_with fail
  refine (in1_k _ _ _ _).mono ?_
  rintro e w' ⟨rfl, rfl⟩
  by_cases c : 1 ≤ x0 ∧ x0 ≤ 100
  · have HQ : Hid (x0.tdiv 2 = x0 / 2) := quo2 (by omega)
    have e1 : 0 ≤ x0 / 2 := by omega
    have e2 : x0 / 2 ≤ 50 := by omega
    have HM : Hid (fMajorityOf x0 = (x0 / 2 + 1, true)) := maj_yes c
    rw [decide_eq_true c]
    go_wp2
    refine bodyPost_ret (v := .tuple #[.int .i64 (x0 / 2 + 1), .bool true]) (by simp [results, Try.results28, go_sem]) rfl ?_
    unfold RMajorityOf
    rw [HM.out]
    exact ⟨rfl, ⟨by omega, by omega⟩, Below.refl _ _⟩
  · have HM : Hid (fMajorityOf x0 = (0, false)) := maj_no c
    rw [decide_eq_false c]
    go_wp2
    refine bodyPost_ret (v := .tuple #[.int .i64 0, .bool false]) (by simp [results, Try.results28, go_sem]) rfl ?_
    unfold RMajorityOf
    rw [HM.out]
    exact ⟨rfl, ⟨by omega, by omega⟩, Below.refl _ _⟩

def fBallotFor (x y : Int) : Int × Bool := if (1 ≤ x ∧ x ≤ 1000) ∧ (0 ≤ y ∧ y ≤ 2) then (x * 3 + y, true) else (0, false)
/-- What BallotFor answers. -/
def RBallotFor (x0 : Int) (x1 : Int) (w : World) (e : Ending) (w' : World) : Prop := e = .returned (.tuple #[.int .i64 (fBallotFor x0 x1).1, .bool (fBallotFor x0 x1).2]) ∧ IntOk (fBallotFor x0 x1).1 ∧ Below w.heap.size w w'
theorem bal_yes {x y : Int} (h : (1 ≤ x ∧ x ≤ 1000) ∧ (0 ≤ y ∧ y ≤ 2)) : fBallotFor x y = (x * 3 + y, true) := if_pos h
theorem bal_no {x y : Int} (h : ¬ ((1 ≤ x ∧ x ≤ 1000) ∧ (0 ≤ y ∧ y ≤ 2))) : fBallotFor x y = (0, false) := if_neg h
theorem bal_not {x y : Int} {w : World} (h : ¬ ((1 ≤ x ∧ x ≤ 1000) ∧ (0 ≤ y ∧ y ≤ 2))) : RBallotFor x y w (.returned (.tuple #[.int .i64 0, .bool false])) w := by
  unfold RBallotFor
  rw [bal_no h]
  exact ⟨rfl, ⟨by omega, by omega⟩, Below.refl _ _⟩
set_option maxRecDepth 100000 in
set_option maxHeartbeats 1000000 in
theorem implBallotFor_k (x0 : Int) (x1 : Int) (w : World) (h0 : IntOk x0) (h1 : IntOk x1) :
    Calls Try.prog 24 #[.int .i64 x0, .int .i64 x1] w (RBallotFor x0 x1 w) := by
  have no : ¬ ((1 ≤ x0 ∧ x0 ≤ 1000) ∧ (0 ≤ x1 ∧ x1 ≤ 2)) → Hid (RBallotFor x0 x1 w (.returned (.tuple #[.int .i64 0, .bool false])) w) := bal_not
  by_cases c1 : 1 ≤ x0
  · by_cases c2 : x0 ≤ 1000
    · by_cases c3 : 0 ≤ x1
      · by_cases c4 : x1 ≤ 2
        · have HM : Hid (fBallotFor x0 x1 = (x0 * 3 + x1, true)) := bal_yes ⟨⟨c1, c2⟩, c3, c4⟩
          clear no
          go_enter Try.func24, Try.ntmps24
          go_wp2
          refine bodyPost_ret (v := .tuple #[.int .i64 (x0 * 3 + x1), .bool true]) (by simp [results, Try.results24, go_sem]) rfl ?_
          unfold RBallotFor
          rw [HM.out]
          exact ⟨rfl, ⟨by omega, by omega⟩, Below.refl _ _⟩
        · have H := no (fun h => c4 h.2.2)
          clear no
          go_enter Try.func24, Try.ntmps24
          go_wp2
          exact bodyPost_ret (v := .tuple #[.int .i64 0, .bool false]) (by simp [results, Try.results24, go_sem]) rfl H.out
      · have H := no (fun h => c3 h.2.1)
        clear no
        go_enter Try.func24, Try.ntmps24
        go_wp2
        exact bodyPost_ret (v := .tuple #[.int .i64 0, .bool false]) (by simp [results, Try.results24, go_sem]) rfl H.out
    · have H := no (fun h => c2 h.1.2)
      clear no
      go_enter Try.func24, Try.ntmps24
      go_wp2
      exact bodyPost_ret (v := .tuple #[.int .i64 0, .bool false]) (by simp [results, Try.results24, go_sem]) rfl H.out
  · have H := no (fun h => c1 h.1.1)
    clear no
    go_enter Try.func24, Try.ntmps24
    go_wp2
    exact bodyPost_ret (v := .tuple #[.int .i64 0, .bool false]) (by simp [results, Try.results24, go_sem]) rfl H.out
set_option maxRecDepth 100000 in
set_option maxHeartbeats 1000000 in
theorem specBallotFor_k (x0 : Int) (x1 : Int) (w : World) (h0 : IntOk x0) (h1 : IntOk x1) :
    Calls Try.prog 25 #[.int .i64 x0, .int .i64 x1] w (RBallotFor x0 x1 w) := by
  have no : ¬ ((1 ≤ x0 ∧ x0 ≤ 1000) ∧ (0 ≤ x1 ∧ x1 ≤ 2)) → Hid (RBallotFor x0 x1 w (.returned (.tuple #[.int .i64 0, .bool false])) w) := bal_not
  go_enter Try.func25, Try.ntmps25
  go_wp2_with fail
  refine (in1_k _ _ _ _).mono ?_
  rintro e w' ⟨rfl, rfl⟩
  by_cases c1 : 1 ≤ x0 ∧ x0 ≤ 1000
  · rw [decide_eq_true c1]
    go_wp2_with fail
    refine (in1_k _ _ _ _).mono ?_
    rintro e w'' ⟨rfl, rfl⟩
    by_cases c2 : 0 ≤ x1 ∧ x1 ≤ 2
    · have HM : Hid (fBallotFor x0 x1 = (x0 * 3 + x1, true)) := bal_yes ⟨c1, c2⟩
      obtain ⟨c3, c4⟩ := c1
      obtain ⟨c5, c6⟩ := c2
      rw [decide_eq_true ⟨c5, c6⟩]
      clear no
      go_wp2
      refine bodyPost_ret (v := .tuple #[.int .i64 (x0 * 3 + x1), .bool true]) (by simp [results, Try.results25, go_sem]) rfl ?_
      unfold RBallotFor
      rw [HM.out]
      exact ⟨rfl, ⟨by omega, by omega⟩, Below.refl _ _⟩
    · have H := no (fun h => c2 h.2)
      clear no
      rw [decide_eq_false c2]
      go_wp2
      exact bodyPost_ret (v := .tuple #[.int .i64 0, .bool false]) (by simp [results, Try.results25, go_sem]) rfl H.out
  · have H := no (fun h => c1 h.1)
    clear no
    rw [decide_eq_false c1]
    go_wp2
    exact bodyPost_ret (v := .tuple #[.int .i64 0, .bool false]) (by simp [results, Try.results25, go_sem]) rfl H.out
end Go.Proofs.Ytdlodeklheapgaa
