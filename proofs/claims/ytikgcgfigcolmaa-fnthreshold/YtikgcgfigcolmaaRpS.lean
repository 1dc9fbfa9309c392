/- The specification's sum of an id, the first few, and one put to its place. No condition but that they fit in memory. -/
import Derived.Test.YtikgcgfigcolmaaAp3
import Derived.Test.YtikgcgfigcolmaaRkS
import Derived.Test.YtikgcgfigcolmaaRtM
namespace Go.Proofs.Ytikgcgfigcolmaa
open Go.RowKit
set_option linter.unusedVariables false

/-- The scores of an id in a list, all together. -/
def sumS : List DScored → Int → Int
  | [], _ => 0
  | x :: r, i => (if x.1 = i then x.2 else 0) + sumS r i
theorem sumS_append : ∀ (a b : List DScored) (i : Int), sumS (a ++ b) i = sumS a i + sumS b i
  | [], b, i => by simp [sumS]
  | x :: r, b, i => by simp only [List.cons_append, sumS, sumS_append r b i]; omega
theorem sumS_no : ∀ (l : List DScored) (i : Int), noId l i = true → sumS l i = 0
  | [], i, _ => rfl
  | x :: r, i, h => by
    simp only [noId, Bool.and_eq_true] at h
    have h1 : ¬ x.1 = i := by simpa using h.1
    rw [sumS, if_neg h1, sumS_no r i h.2]
    rfl
theorem sumS_is : ∀ (l : List DScored) (i : Int), NoTwice l → sumS l i = scoreL l i
  | [], i, _ => rfl
  | x :: r, i, h => by
    have h' := List.pairwise_cons.1 h
    rw [sumS, scoreL]
    by_cases c : x.1 = i
    · rw [if_pos c, if_pos c, sumS_no r i ((noId_iff _ _).2 fun y hy => by rw [← c]; exact (h'.1 y hy).symm)]
      omega
    · rw [if_neg c, if_neg c, sumS_is r i h'.2]
      omega
theorem rkOk_once : ∀ (r pre : List DScored), rkOk pre r = true → NoTwice r ∧ ∀ y ∈ pre, ∀ x ∈ r, y.1 ≠ x.1
  | [], pre, _ => ⟨List.Pairwise.nil, fun y _ x hx => by simp at hx⟩
  | x :: r, pre, h => by
    rw [rkOk] at h
    simp only [Bool.and_eq_true] at h
    obtain ⟨⟨⟨h1, h2⟩, h3⟩, h4⟩ := h
    obtain ⟨i1, i2⟩ := rkOk_once r (pre ++ [x]) h4
    refine ⟨List.pairwise_cons.2 ⟨fun y hy => i2 x (by simp) y hy, i1⟩, fun y hy z hz => ?_⟩
    rcases List.mem_cons.1 hz with rfl | hz
    · exact (noId_iff _ _).1 h3 y hy
    · exact i2 y (by simp [hy]) z hz
/-- What a sum needs: lists of scores, no id twice. -/
def SumOk (ls : List DRanking) : Prop := ls.length ≤ 5 ∧ ∀ r ∈ ls, r.length ≤ 60 ∧ NoTwice r ∧ ∀ x ∈ r, 1 ≤ x.2 ∧ x.2 ≤ 1000000
theorem good_sumOk {ls : List DRanking} (h : fGoodRankings ls = true) : SumOk ls := by
  refine ⟨(good_len h).1, fun r hr => ⟨(good_len h).2 r hr, ?_, fun x hx => (good_sc h r hr x hx).1⟩⟩
  unfold fGoodRankings at h
  simp only [Bool.and_eq_true, List.all_eq_true] at h
  have h1 := h.1 r hr
  unfold rkGood at h1
  simp only [Bool.and_eq_true] at h1
  exact (rkOk_once r [] h1.1).1
theorem sumL_append : ∀ (a b : List DRanking) (i : Int), sumL (a ++ b) i = sumL a i + sumL b i
  | [], b, i => by simp [sumL]
  | x :: r, b, i => by simp only [List.cons_append, sumL, sumL_append r b i]; omega
theorem scoreL_bnd {r : List DScored} (h : ∀ x ∈ r, 1 ≤ x.2 ∧ x.2 ≤ 1000000) (i : Int) : 0 ≤ scoreL r i ∧ scoreL r i ≤ 1000000 := by
  cases e : noId r i with
  | true => rw [scoreL_no r i e]; omega
  | false =>
    obtain ⟨y, hy, _, h2⟩ := scoreL_mem r i e
    have := h y hy
    omega
theorem sumL_bnd : ∀ {ls : List DRanking} (h : ∀ r ∈ ls, ∀ x ∈ r, 1 ≤ x.2 ∧ x.2 ≤ 1000000) (i : Int), 0 ≤ sumL ls i ∧ sumL ls i ≤ 1000000 * ls.length
  | [], _, i => by simp [sumL]
  | r :: t, h, i => by
    have h1 := scoreL_bnd (h r (by simp)) i
    have h2 := sumL_bnd (ls := t) (fun q hq => h q (by simp [hq])) i
    simp only [sumL, List.length_cons]
    omega

set_option maxRecDepth 100000 in
set_option maxHeartbeats 4000000 in
theorem l11Sum_k (ls : List DRanking) (a : Option Addr) (n c : Nat) (S : Nat → Prop) (i : Int) (w : World) (h : (kRow kRanking).is false w S [.slice a n c] ls) (hok : SumOk ls) :
    Calls Try.prog 68 #[.slice a n c, .int .i64 i] w fun e w' => e = .returned (.int .i64 (sumL ls i)) ∧ Below w.heap.size w w' := by
  have hnl := row_len h
  have h5 : n ≤ 5 := by rw [hnl]; exact hok.1
  have HNL : Hid (n = ls.length) := hnl
  have H : Hid ((kRow kRanking).is false w S [.slice a n c] ls) := h
  have HOK : Hid (SumOk ls) := hok
  clear h hnl hok
  go_enter Try.func68, Try.ntmps68
  go_wp2_with fail
  go_loopw [5, 12] (fun sv iv wr => ∃ (k : Nat) (z : Int), k ≤ n ∧ iv = .int .i64 k ∧ sv = .int .i64 z ∧ Hid (z = sumL (ls.take k) i) ∧ (0 ≤ z ∧ z ≤ 1000000 * k) ∧ Below w.heap.size w wr) (fun _ iv _ => n - (intOf iv).toNat)
  case atStart => exact ⟨0, 0, Nat.zero_le _, rfl, rfl, rfl, by omega, Below.refl _ _⟩
  case round =>
    obtain ⟨k, z, hk, rfl, rfl, HI, hz, hnx⟩ := hrel
    have zw := hnx.size
    by_cases hlt : k < n
    · obtain ⟨x, hx⟩ : ∃ x, ls[k]? = some x := ⟨_, List.getElem?_eq_getElem (by rw [← HNL.out]; exact hlt)⟩
      obtain ⟨b, off, B, C, rfl, hb, _, hi, _, hc⟩ := row_at (Kd.below H.out hnx) hx
      obtain ⟨la, lc, T, rfl, hm, hl, _⟩ := kRanking_open hi
      have A0 : wr.cell? ⟨b, off + k, none⟩ = some (.slice la x.length lc) := cell1 (hc 0 _ rfl).1
      have i0 : (0 : Int) ≤ (k : Int) := by omega
      have i1 : (k : Int) < (n : Int) := by omega
      obtain ⟨q60, qn, qb⟩ := HOK.out.2 x (List.mem_of_getElem? hx)
      have HQN : Hid (NoTwice x) := qn
      have HQB : Hid (∀ y ∈ x, 1 ≤ y.2 ∧ y.2 ≤ 1000000) := qb
      have HTK : Hid (sumL (ls.take (k + 1)) i = sumL (ls.take k) i + scoreL x i) := by show _ = _; rw [List.take_add_one, hx, sumL_append]; simp [sumL]
      obtain ⟨W1, hW1⟩ : ∃ W1, W1 = wr.alloc (.cells #[.slice la x.length lc] 58) := ⟨_, rfl⟩
      have B1 : Below wr.heap.size wr W1 := by rw [hW1]; exact below_a1r _ _
      have HL : Hid ((kRow kScored).is false W1 T [.slice la x.length lc] x) := Kd.below hl B1
      have HB1 : Hid (Below w.heap.size w W1) := hnx.trans (B1.mono hnx.size)
      obtain ⟨m, hm'⟩ : ∃ m, m = x.length := ⟨_, rfl⟩
      have HM : Hid (m = x.length) := hm'
      rw [← hm'] at A0 HL hW1 hm q60
      clear hc hi hx hl hnx B1 hm' qn qb
      obtain ⟨z1, z2⟩ := hz
      go_wp2_with fail
      rw [← hW1]
      clear hW1
      go_loopw [5, 19] (fun sv jv wq => ∃ (j : Nat) (y : Int), j ≤ m ∧ jv = .int .i64 j ∧ sv = .int .i64 y ∧ Hid (y = z + sumS (x.take j) i) ∧ (z ≤ y ∧ y ≤ z + 1000000 * j) ∧ Below W1.heap.size W1 wq) (fun _ jv _ => m - (intOf jv).toNat)
      case atStart => exact ⟨0, z, Nat.zero_le _, rfl, rfl, by show _ = _; simp [sumS], by omega, Below.refl _ _⟩
      case round =>
        obtain ⟨j, y, hj, rfl, rfl, HJ, hy, hnq⟩ := hrel
        obtain ⟨y1, y2⟩ := hy
        have zq := hnq.size
        have HBQ : Hid (Below w.heap.size w wr) := HB1.out.trans (hnq.mono HB1.out.size)
        by_cases hjl : j < m
        · obtain ⟨⟨u, s⟩, hu⟩ : ∃ y, x[j]? = some y := ⟨_, List.getElem?_eq_getElem (by rw [← HM.out]; exact hjl)⟩
          obtain ⟨b2, off2, B2, C2, rfl, hb2, _, hi2, _, hc2⟩ := row_at (Kd.below HL.out hnq) hu
          obtain ⟨rfl, g0, g1⟩ := kScored_open hi2
          have D0 : wr.cell? ⟨b2, off2 + j * 2, none⟩ = some (.int .i64 u) := (hc2 0 _ rfl).1
          have D1 : wr.cell? ⟨b2, off2 + j * 2 + 1, none⟩ = some (.int .i64 s) := (hc2 1 _ rfl).1
          have j0 : (0 : Int) ≤ (j : Int) := by omega
          have j1 : (j : Int) < (m : Int) := by omega
          obtain ⟨s1, s2⟩ := HQB.out (u, s) (List.mem_of_getElem? hu)
          simp only at s1 s2
          have HJ1 : Hid (sumS (x.take (j + 1)) i = sumS (x.take j) i + (if u = i then s else 0)) := by show _ = _; rw [List.take_add_one, hu, sumS_append]; simp [sumS]
          clear hc2 hi2 hu
          by_cases hui : u = i
          · have HJ2 : Hid (y + s = z + sumS (x.take (j + 1)) i) := by show _ = _; rw [HJ1.out, if_pos hui, HJ.out]; omega
            subst hui
            clear HJ1 HJ
            go_wp2
            go_roundw
            case rel => exact ⟨j + 1, y + s, by omega, by go_num, by first | rfl | (congr 1; omega), HJ2, by omega, hnq.alloc zq _⟩
            case measure => simp [intOf]; omega
          · have HJ2 : Hid (y = z + sumS (x.take (j + 1)) i) := by show _ = _; rw [HJ1.out, if_neg hui, HJ.out]; omega
            have hui' : (u == i) = false := by simpa using hui
            clear HJ1 HJ
            go_wp2
            go_roundw
            case rel => exact ⟨j + 1, y, by omega, by go_num, rfl, HJ2, by omega, hnq.alloc zq _⟩
            case measure => simp [intOf]; omega
        · have j1 : ¬ (j : Int) < (m : Int) := by omega
          have HE : Hid (y = sumL (ls.take (k + 1)) i) := by
            show _ = _
            rw [HTK.out, HJ.out, HI.out, show j = x.length by rw [← HM.out]; omega, List.take_length, sumS_is x i HQN.out]
          have HE2 : Hid (y ≤ z + 1000000) := by
            have h1 := scoreL_bnd HQB.out i
            have h2 := HE.out
            rw [HTK.out, ← HI.out] at h2
            show _ ≤ _
            omega
          clear HJ
          go_wp2
          go_roundw
          case rel => exact ⟨k + 1, y, by omega, by go_num, rfl, HE, by have := HE2.out; omega, HBQ.out⟩
          case measure => simp [intOf]; omega
    · have i1 : ¬ (k : Int) < (n : Int) := by omega
      have HE : Hid (sumL ls i = z) := by show _ = _; rw [HI.out, show k = ls.length by rw [← HNL.out]; omega, List.take_length]
      clear HI
      go_wp2
      go_ret
      exact ⟨by rw [HE.out]; rfl, hnx⟩
end Go.Proofs.Ytikgcgfigcolmaa
