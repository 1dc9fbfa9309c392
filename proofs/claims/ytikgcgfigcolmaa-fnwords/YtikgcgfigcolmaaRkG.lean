/- Rankings that are good: the program's GoodRankings. No condition but that they fit in memory. -/
import Derived.Test.YtikgcgfigcolmaaRkJ
namespace Go.Proofs.Ytikgcgfigcolmaa
open Go.RowKit
set_option linter.unusedVariables false

theorem cell1 {w : World} {b off k : Nat} {v : Value} (h : w.cell? ⟨b, off + k * 1 + 0, none⟩ = some v) : w.cell? ⟨b, off + k, none⟩ = some v := by
  rw [Nat.mul_one, Nat.add_zero] at h
  exact h

set_option maxRecDepth 100000 in
set_option maxHeartbeats 2000000 in
theorem implGoodRankings_k (x0 : List DRanking) (a0 : Option Addr) (n0 c0 : Nat) (S0 : Nat → Prop) (w : World) (h0 : (kRow kRanking).is true w S0 [.slice a0 n0 c0] x0) (z0 : (kRow kRanking).sz x0 ≤ 2 ^ 20) :
    Calls Try.prog 28 #[.slice a0 n0 c0] w (RGoodRankings x0 w) := by
  have hnl := row_len h0
  have hmx : n0 ≤ 9223372036854775807 := by obtain ⟨_, _, _, h, _⟩ := row_form h0; rw [hnl]; exact h
  have HNL : Hid (n0 = x0.length) := hnl
  have H : Hid ((kRow kRanking).is true w S0 [.slice a0 n0 c0] x0) := h0
  obtain ⟨q, hq⟩ : ∃ q, q = fGoodRankings x0 := ⟨_, rfl⟩
  have HQ : Hid (q = (x0.all rkGood && decide (x0.length ≤ 5))) := hq
  unfold RGoodRankings
  rw [← hq]
  clear h0 hnl hq z0
  by_cases c5 : (5 : Int) < (n0 : Int)
  · have HF : Hid (q = false) := by show _ = _; rw [HQ.out, decide_eq_false (by rw [← HNL.out]; omega), Bool.and_false]
    go_enter Try.func28, Try.ntmps28
    go_wp2
    go_ret
    exact ⟨by rw [HF.out]; rfl, Below.refl _ _⟩
  have HQ1 : Hid ((x0.drop 0).all rkGood = q) := by show _ = _; rw [HQ.out, decide_eq_true (by rw [← HNL.out]; omega), Bool.and_true]; simp
  clear HQ
  go_enter Try.func28, Try.ntmps28
  go_wp2_with fail
  go_loopw [10] (fun iv wr => ∃ (k : Nat), k ≤ n0 ∧ iv = .int .i64 k ∧ Hid ((x0.drop k).all rkGood = q) ∧ Below w.heap.size w wr) (fun iv _ => n0 - (intOf iv).toNat)
  case atStart => exact ⟨0, Nat.zero_le _, rfl, HQ1, Below.refl _ _⟩
  case round =>
    obtain ⟨k, hk, rfl, HI, hnx⟩ := hrel
    have zw := hnx.size
    by_cases hlt : k < n0
    · obtain ⟨x, hx⟩ : ∃ x, x0[k]? = some x := ⟨_, List.getElem?_eq_getElem (by rw [← HNL.out]; exact hlt)⟩
      obtain ⟨b, off, B, C, rfl, hb, _, hi, _, hc⟩ := row_at (Kd.below H.out hnx) hx
      obtain ⟨la, lc, T, rfl, hm, hl, _⟩ := kRanking_open hi
      have A0 : wr.cell? ⟨b, off + k, none⟩ = some (.slice la x.length lc) := cell1 (hc 0 _ rfl).1
      have i0 : (0 : Int) ≤ (k : Int) := by omega
      have i1 : (k : Int) < (n0 : Int) := by omega
      have HI1 : Hid ((rkGood x && (x0.drop (k + 1)).all rkGood) = q) := by have := HI.out; rw [all_drop hx] at this; exact this
      have HL : Hid ((kRow kScored).is true wr T [.slice la x.length lc] x) := hl
      have HBR : Hid (Below w.heap.size w wr) := hnx
      clear hc hi hx HI hl hnx
      obtain ⟨m, hm'⟩ : ∃ m, m = x.length := ⟨_, rfl⟩
      rw [← hm'] at A0 HL
      clear hm hm'
      go_wp2_with fail
      refine (rkIsGood_k x la m lc T _ (Kd.below HL.out (below_a1r _ _))).mono ?_
      rintro e w1 ⟨rfl, hb1⟩
      have HB1 : Hid (Below w.heap.size w w1) := HBR.out.trans (((below_a1r _ _).trans (hb1.mono (by simp))).mono HBR.out.size)
      clear hb1
      cases hg : rkGood x with
      | false =>
        have HF : Hid (q = false) := by have := HI1.out; rw [hg] at this; exact this.symm
        clear HI1 hg
        go_wp2
        go_ret
        exact ⟨by rw [HF.out]; rfl, HB1.out⟩
      | true =>
        have HI2 : Hid ((x0.drop (k + 1)).all rkGood = q) := by have := HI1.out; rw [hg] at this; exact this
        clear HI1 hg
        go_wp2
        go_roundw
        case rel => exact ⟨k + 1, by omega, by go_num, HI2, HB1.out⟩
        case measure => simp [intOf]; omega
    · have HF : Hid (q = true) := by
        have := HI.out
        rw [show k = x0.length by rw [← HNL.out]; omega, List.drop_length] at this
        exact this.symm
      go_wp2
      go_ret
      exact ⟨by rw [HF.out]; rfl, hnx⟩
end Go.Proofs.Ytikgcgfigcolmaa
