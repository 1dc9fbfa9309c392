/- A sum over lists: the program's. No condition but that they fit in memory. -/
import Derived.Test.YtikgcgfigcolmaaRpS
namespace Go.Proofs.Ytikgcgfigcolmaa
open Go.RowKit
set_option linter.unusedVariables false

set_option maxRecDepth 100000 in
set_option maxHeartbeats 2000000 in
theorem sumIn_k (ls : List DRanking) (a : Option Addr) (n c : Nat) (S : Nat → Prop) (i : Int) (w : World) (h : (kRow kRanking).is false w S [.slice a n c] ls) (hok : SumOk ls) :
    Calls Try.prog 73 #[.slice a n c, .int .i64 i] w fun e w' => e = .returned (.int .i64 (sumL ls i)) ∧ Below w.heap.size w w' := by
  have hnl := row_len h
  have h5 : n ≤ 5 := by rw [hnl]; exact hok.1
  have HNL : Hid (n = ls.length) := hnl
  have H : Hid ((kRow kRanking).is false w S [.slice a n c] ls) := h
  have HOK : Hid (SumOk ls) := hok
  clear h hnl hok
  go_enter Try.func73, Try.ntmps73
  go_wp2_with fail
  go_loopw [5, 10] (fun sv iv wr => ∃ (k : Nat) (z : Int), k ≤ n ∧ iv = .int .i64 k ∧ sv = .int .i64 z ∧ Hid (z = sumL (ls.take k) i) ∧ (0 ≤ z ∧ z ≤ 1000000 * k) ∧ Below w.heap.size w wr) (fun _ iv _ => n - (intOf iv).toNat)
  case atStart => exact ⟨0, 0, Nat.zero_le _, rfl, rfl, rfl, by omega, Below.refl _ _⟩
  case round =>
    obtain ⟨k, z, hk, rfl, rfl, HI, hz, hnx⟩ := hrel
    have zw := hnx.size
    by_cases hlt : k < n
    · obtain ⟨x, hx⟩ : ∃ x, ls[k]? = some x := ⟨_, List.getElem?_eq_getElem (by rw [← HNL.out]; exact hlt)⟩
      obtain ⟨b, off, B, C, rfl, hb, _, hi, _, hc⟩ := row_at (Kd.below H.out hnx) hx
      obtain ⟨la, lc, T, rfl, hm, hl, _⟩ := kRanking_open hi
      have A0 : wr.cell? ⟨b, off + k, none⟩ = some (.slice la x.length lc) := cell1 (hc 0 _ rfl).1
      have i0 : (0 : Int) ≤ (k : Int) := by omega
      have i1 : (k : Int) < (n : Int) := by omega
      obtain ⟨q60, qn, qb⟩ := HOK.out.2 x (List.mem_of_getElem? hx)
      obtain ⟨s1, s2⟩ := scoreL_bnd qb i
      have HTK : Hid (z + scoreL x i = sumL (ls.take (k + 1)) i) := by show _ = _; rw [List.take_add_one, hx, sumL_append, HI.out]; simp [sumL]
      have HL : Hid ((kRow kScored).is false wr T [.slice la x.length lc] x) := hl
      have HBR : Hid (Below w.heap.size w wr) := hnx
      obtain ⟨m, hm'⟩ : ∃ m, m = x.length := ⟨_, rfl⟩
      rw [← hm'] at A0 HL
      obtain ⟨y, hy⟩ : ∃ y, y = scoreL x i := ⟨_, rfl⟩
      have HY : Hid (y = scoreL x i) := hy
      rw [← hy] at s1 s2 HTK
      clear hc hi hx hl hnx hm' qn qb hm HI hy
      obtain ⟨z1, z2⟩ := hz
      go_wp2_with fail
      refine (scoreIn_k x la m lc T i _ (Kd.below HL.out (below_a1r _ _))).mono ?_
      rintro e w1 ⟨rfl, hb1⟩
      rw [← HY.out]
      have HB1 : Hid (Below w.heap.size w w1) := HBR.out.trans (((below_a1r _ _).trans (hb1.mono (by simp))).mono HBR.out.size)
      clear hb1
      go_wp2
      go_roundw
      case rel => exact ⟨k + 1, z + y, by omega, by go_num, by first | rfl | (congr 1; omega), HTK, by omega, HB1.out⟩
      case measure => simp [intOf]; omega
    · have i1 : ¬ (k : Int) < (n : Int) := by omega
      have HE : Hid (sumL ls i = z) := by show _ = _; rw [HI.out, show k = ls.length by rw [← HNL.out]; omega, List.take_length]
      clear HI
      go_wp2
      go_ret
      exact ⟨by rw [HE.out]; rfl, hnx⟩
end Go.Proofs.Ytikgcgfigcolmaa
