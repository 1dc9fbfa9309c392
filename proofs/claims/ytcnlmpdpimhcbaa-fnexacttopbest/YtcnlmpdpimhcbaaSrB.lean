/- A search through lists: sums, how many are above, and an id that is met. No condition but that they fit in memory. -/
import Derived.Test.YtcnlmpdpimhcbaaSrA
import Derived.Deep.RegionLaw
import Derived.Deep.AppendLies
namespace Go.Proofs.Ytcnlmpdpimhcbaa
open Go.RowKit
set_option linter.unusedVariables false

set_option maxRecDepth 100000 in
set_option maxHeartbeats 2000000 in
theorem sumIn_k (ls : List DRanking) (a : Option Addr) (n c : Nat) (S : Nat → Prop) (i : Int) (w : World) (h : (kRow kRanking).is false w S [.slice a n c] ls) (hok : SumOk ls) :
    Calls Try.prog 107 #[.slice a n c, .int .i64 i] w fun e w' => e = .returned (.int .i64 (sumL ls i)) ∧ Below w.heap.size w w' := by
  have hnl := row_len h
  have h5 : n ≤ 5 := by rw [hnl]; exact hok.1
  have HNL : Hid (n = ls.length) := hnl
  have H : Hid ((kRow kRanking).is false w S [.slice a n c] ls) := h
  have HOK : Hid (SumOk ls) := hok
  clear h hnl hok
  go_enter Try.func107, Try.ntmps107
  go_wp2_with fail
  go_loopw [5, 10] (fun sv iv wr => ∃ (k : Nat) (z : Int), k ≤ n ∧ iv = .int .i64 k ∧ sv = .int .i64 z ∧ Hid (z = sumL (ls.take k) i) ∧ (0 ≤ z ∧ z ≤ 1000000 * k) ∧ Below w.heap.size w wr) (fun _ iv _ => n - (intOf iv).toNat)
  case atStart => exact ⟨0, 0, Nat.zero_le _, rfl, rfl, rfl, by omega, Below.refl _ _⟩
  case round =>
    obtain ⟨k, z, hk, rfl, rfl, HI, hz, hnx⟩ := hrel
    have zw := hnx.size
    by_cases hlt : k < n
    · obtain ⟨x, hx⟩ : ∃ x, ls[k]? = some x := ⟨_, List.getElem?_eq_getElem (by rw [← HNL.out]; exact hlt)⟩
      obtain ⟨b, off, B, C, rfl, hb, _, hi, _, hc⟩ := row_at (Kd.below H.out hnx) hx
      obtain ⟨la, lc, T, rfl, hm, hl, _⟩ := kRanking_open hi
      have A0 : wr.cell? ⟨b, off + k, none⟩ = some (.slice la x.length lc) := cell1 (hc 0 _ rfl).1
      have i0 : (0 : Int) ≤ (k : Int) := by omega
      have i1 : (k : Int) < (n : Int) := by omega
      obtain ⟨q60, qn, qb⟩ := HOK.out.2 x (List.mem_of_getElem? hx)
      obtain ⟨s1, s2⟩ := scoreL_bnd qb i
      have HTK : Hid (z + scoreL x i = sumL (ls.take (k + 1)) i) := by show _ = _; rw [List.take_add_one, hx, sumL_append, HI.out]; simp [sumL]
      have HL : Hid ((kRow kScored).is false wr T [.slice la x.length lc] x) := hl
      have HBR : Hid (Below w.heap.size w wr) := hnx
      obtain ⟨m, hm'⟩ : ∃ m, m = x.length := ⟨_, rfl⟩
      rw [← hm'] at A0 HL
      obtain ⟨y, hy⟩ : ∃ y, y = scoreL x i := ⟨_, rfl⟩
      have HY : Hid (y = scoreL x i) := hy
      rw [← hy] at s1 s2 HTK
      clear hc hi hx hl hnx hm' qn qb hm HI hy
      obtain ⟨z1, z2⟩ := hz
      go_wp2_with fail
      refine (scoreIn_k x la m lc T i _ (Kd.below HL.out (below_a1r _ _))).mono ?_
      rintro e w1 ⟨rfl, hb1⟩
      rw [← HY.out]
      have HB1 : Hid (Below w.heap.size w w1) := HBR.out.trans (((below_a1r _ _).trans (hb1.mono (by simp))).mono HBR.out.size)
      clear hb1
      go_wp2
      go_roundw
      case rel => exact ⟨k + 1, z + y, by omega, by go_num, by first | rfl | (congr 1; omega), HTK, by omega, HB1.out⟩
      case measure => simp [intOf]; omega
    · have i1 : ¬ (k : Int) < (n : Int) := by omega
      have HE : Hid (sumL ls i = z) := by show _ = _; rw [HI.out, show k = ls.length by rw [← HNL.out]; omega, List.take_length]
      clear HI
      go_wp2
      go_ret
      exact ⟨by rw [HE.out]; rfl, hnx⟩

theorem cnt_take {l : List DScored} {k : Nat} {x : DScored} (h : l[k]? = some x) (t : Int) : cntA (l.take (k + 1)) t = cntA (l.take k) t + (if t < x.2 then 1 else 0) := by
  rw [List.take_add_one, h, cntA_append]
  simp [cntA]

set_option maxRecDepth 100000 in
set_option maxHeartbeats 2000000 in
theorem above_k (w : World) (g Bm : Nat) (a : Option Addr) (n c : Nat) (ea : Option Addr) (ec : Nat) (ma : Option Addr) (mc : Nat) (met : List DScored) (d : Nat) (thr : Int) (hs : SrAt w g Bm a n c ea ec ma mc met d thr) (hm : met.length ≤ 2 ^ 20) (hmk : ∀ x ∈ met, IntOk x.1 ∧ IntOk x.2) :
    Calls Try.prog 104 #[.pointer (some ⟨g, 0, none⟩)] w fun e w' => e = .returned (.int .i64 (cntA met thr)) ∧ Below w.heap.size w w' := by
  obtain ⟨m, hmm⟩ : ∃ m, m = met.length := ⟨_, rfl⟩
  have HM : Hid (m = met.length) := hmm
  have X2 := hs.c2
  have X4 := hs.c4
  have HO : Hid ((kRow kScored).is false w (fun k => Bm ≤ k) [.slice ma met.length mc] met) := Kd.read _ (own_scs hs.own (by omega) hmk)
  rw [← hmm] at X2 HO
  have m20 : m ≤ 2 ^ 20 := by omega
  clear hs hm hmk hmm
  go_enter Try.func104, Try.ntmps104
  go_wp2_with fail
  go_loopw [3, 11] (fun cv iv wr => ∃ (k : Nat) (z : Nat), k ≤ m ∧ iv = .int .i64 k ∧ cv = .int .i64 z ∧ Hid (z = cntA (met.take k) thr) ∧ z ≤ k ∧ Below w.heap.size w wr) (fun _ iv _ => m - (intOf iv).toNat)
  case atStart => exact ⟨0, 0, Nat.zero_le _, rfl, rfl, rfl, Nat.le_refl _, Below.refl _ _⟩
  case round =>
    obtain ⟨k, z, hk, rfl, rfl, HI, hz, hnx⟩ := hrel
    have zw := hnx.size
    by_cases hlt : k < m
    · obtain ⟨⟨i, s⟩, hx⟩ : ∃ x, met[k]? = some x := ⟨_, List.getElem?_eq_getElem (by rw [← HM.out]; exact hlt)⟩
      obtain ⟨b, off, B, C, rfl, hb, _, hi, _, hc⟩ := row_at (Kd.below HO.out hnx) hx
      obtain ⟨rfl, g0, g1⟩ := kScored_open hi
      have A0 : wr.cell? ⟨b, off + k * 2, none⟩ = some (.int .i64 i) := (hc 0 _ rfl).1
      have A1 : wr.cell? ⟨b, off + k * 2 + 1, none⟩ = some (.int .i64 s) := (hc 1 _ rfl).1
      have i0 : (0 : Int) ≤ (k : Int) := by omega
      have i1 : (k : Int) < (m : Int) := by omega
      have HT : Hid (cntA (met.take (k + 1)) thr = cntA (met.take k) thr + (if thr < s then 1 else 0)) := cnt_take hx thr
      obtain ⟨W1, hW1⟩ : ∃ W1, W1 = wr.alloc (.cells #[.int .i64 i, .int .i64 s] 118) := ⟨_, rfl⟩
      have B1 : Below wr.heap.size wr W1 := by rw [hW1]; exact below_a1r _ _
      have HB1 : Hid (Below w.heap.size w W1) := hnx.trans (B1.mono zw)
      have U0 : ∀ p : BelowOf W1, p.v.cell? ⟨wr.heap.size, 1, none⟩ = some (.int .i64 s) := BelowOf.cell (by rw [hW1]; simp [go_sem])
      have U1 : ∀ p : BelowOf W1, p.v.cell? ⟨g, 4, none⟩ = some (.int .i64 thr) := BelowOf.cell (cell_later HB1.out X4)
      have hne := belowOf_ne W1
      clear hc hi hx B1 hnx
      by_cases c1 : thr < s
      · have HT2 : Hid (z + 1 = cntA (met.take (k + 1)) thr) := by show _ = _; rw [HT.out, if_pos c1, HI.out]
        have c1b : decide (thr < s) = true := decide_eq_true c1
        go_wp2_with fail
        rw [← hW1]
        clear hW1 HT HI
        refine region_below (by kernel_rfl) (by kernel_rfl) ?_
        repeat (go_big_quiet_step (fail))
        refine wpQuiet_nil (belowOf_all ?_)
        intro w2 hb2
        go_wp2
        go_roundw
        case rel => exact ⟨k + 1, z + 1, by omega, by go_num, by go_num, HT2, by omega, HB1.out.trans (hb2.mono HB1.out.size)⟩
        case measure => simp [intOf]; omega
      · have HT2 : Hid (z = cntA (met.take (k + 1)) thr) := by show _ = _; rw [HT.out, if_neg c1, HI.out]; rfl
        have c1b : decide (thr < s) = false := decide_eq_false c1
        go_wp2_with fail
        rw [← hW1]
        clear hW1 HT HI
        refine region_below (by kernel_rfl) (by kernel_rfl) ?_
        repeat (go_big_quiet_step (fail))
        refine wpQuiet_nil (belowOf_all ?_)
        intro w2 hb2
        go_wp2
        go_roundw
        case rel => exact ⟨k + 1, z, by omega, by go_num, rfl, HT2, by omega, HB1.out.trans (hb2.mono HB1.out.size)⟩
        case measure => simp [intOf]; omega
    · have HE : Hid (z = cntA met thr) := by show _ = _; rw [HI.out, List.take_of_length_le (by rw [← HM.out]; omega)]
      have i1 : ¬ (k : Int) < (m : Int) := by omega
      clear HI
      go_wp2
      go_ret
      exact ⟨by rw [← HE.out]; rfl, hnx⟩
end Go.Proofs.Ytcnlmpdpimhcbaa
