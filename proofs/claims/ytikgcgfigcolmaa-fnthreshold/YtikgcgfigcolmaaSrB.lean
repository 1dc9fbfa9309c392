/- A search through lists: sums, how many are above, and an id that is met. No condition but that they fit in memory. -/
import Derived.Test.YtikgcgfigcolmaaSrA
import Derived.Test.YtikgcgfigcolmaaSmI
import Derived.Deep.RegionLaw
import Derived.Deep.AppendLies
namespace Go.Proofs.Ytikgcgfigcolmaa
open Go.RowKit
set_option linter.unusedVariables false

theorem cnt_take {l : List DScored} {k : Nat} {x : DScored} (h : l[k]? = some x) (t : Int) : cntA (l.take (k + 1)) t = cntA (l.take k) t + (if t < x.2 then 1 else 0) := by
  rw [List.take_add_one, h, cntA_append]
  simp [cntA]

set_option maxRecDepth 100000 in
set_option maxHeartbeats 2000000 in
theorem above_k (w : World) (g Bm : Nat) (a : Option Addr) (n c : Nat) (ea : Option Addr) (ec : Nat) (ma : Option Addr) (mc : Nat) (met : List DScored) (d : Nat) (thr : Int) (hs : SrAt w g Bm a n c ea ec ma mc met d thr) (hm : met.length ≤ 2 ^ 20) (hmk : ∀ x ∈ met, IntOk x.1 ∧ IntOk x.2) :
    Calls Try.prog 63 #[.pointer (some ⟨g, 0, none⟩)] w fun e w' => e = .returned (.int .i64 (cntA met thr)) ∧ Below w.heap.size w w' := by
  obtain ⟨m, hmm⟩ : ∃ m, m = met.length := ⟨_, rfl⟩
  have HM : Hid (m = met.length) := hmm
  have X2 := hs.c2
  have X4 := hs.c4
  have HO : Hid ((kRow kScored).is false w (fun k => Bm ≤ k) [.slice ma met.length mc] met) := Kd.read _ (own_scs hs.own (by omega) hmk)
  rw [← hmm] at X2 HO
  have m20 : m ≤ 2 ^ 20 := by omega
  clear hs hm hmk hmm
  go_enter Try.func63, Try.ntmps63
  go_wp2_with fail
  go_loopw [3, 11] (fun cv iv wr => ∃ (k : Nat) (z : Nat), k ≤ m ∧ iv = .int .i64 k ∧ cv = .int .i64 z ∧ Hid (z = cntA (met.take k) thr) ∧ z ≤ k ∧ Below w.heap.size w wr) (fun _ iv _ => m - (intOf iv).toNat)
  case atStart => exact ⟨0, 0, Nat.zero_le _, rfl, rfl, rfl, Nat.le_refl _, Below.refl _ _⟩
  case round =>
    obtain ⟨k, z, hk, rfl, rfl, HI, hz, hnx⟩ := hrel
    have zw := hnx.size
    by_cases hlt : k < m
    · obtain ⟨⟨i, s⟩, hx⟩ : ∃ x, met[k]? = some x := ⟨_, List.getElem?_eq_getElem (by rw [← HM.out]; exact hlt)⟩
      obtain ⟨b, off, B, C, rfl, hb, _, hi, _, hc⟩ := row_at (Kd.below HO.out hnx) hx
      obtain ⟨rfl, g0, g1⟩ := kScored_open hi
      have A0 : wr.cell? ⟨b, off + k * 2, none⟩ = some (.int .i64 i) := (hc 0 _ rfl).1
      have A1 : wr.cell? ⟨b, off + k * 2 + 1, none⟩ = some (.int .i64 s) := (hc 1 _ rfl).1
      have i0 : (0 : Int) ≤ (k : Int) := by omega
      have i1 : (k : Int) < (m : Int) := by omega
      have HT : Hid (cntA (met.take (k + 1)) thr = cntA (met.take k) thr + (if thr < s then 1 else 0)) := cnt_take hx thr
      obtain ⟨W1, hW1⟩ : ∃ W1, W1 = wr.alloc (.cells #[.int .i64 i, .int .i64 s] 60) := ⟨_, rfl⟩
      have B1 : Below wr.heap.size wr W1 := by rw [hW1]; exact below_a1r _ _
      have HB1 : Hid (Below w.heap.size w W1) := hnx.trans (B1.mono zw)
      have U0 : ∀ p : BelowOf W1, p.v.cell? ⟨wr.heap.size, 1, none⟩ = some (.int .i64 s) := BelowOf.cell (by rw [hW1]; simp [go_sem])
      have U1 : ∀ p : BelowOf W1, p.v.cell? ⟨g, 4, none⟩ = some (.int .i64 thr) := BelowOf.cell (cell_later HB1.out X4)
      have hne := belowOf_ne W1
      clear hc hi hx B1 hnx
      by_cases c1 : thr < s
      · have HT2 : Hid (z + 1 = cntA (met.take (k + 1)) thr) := by show _ = _; rw [HT.out, if_pos c1, HI.out]
        have c1b : decide (thr < s) = true := decide_eq_true c1
        go_wp2_with fail
        rw [← hW1]
        clear hW1 HT HI
        refine region_below (by kernel_rfl) (by kernel_rfl) ?_
        repeat (go_big_quiet_step (fail))
        refine wpQuiet_nil (belowOf_all ?_)
        intro w2 hb2
        go_wp2
        go_roundw
        case rel => exact ⟨k + 1, z + 1, by omega, by go_num, by go_num, HT2, by omega, HB1.out.trans (hb2.mono HB1.out.size)⟩
        case measure => simp [intOf]; omega
      · have HT2 : Hid (z = cntA (met.take (k + 1)) thr) := by show _ = _; rw [HT.out, if_neg c1, HI.out]; rfl
        have c1b : decide (thr < s) = false := decide_eq_false c1
        go_wp2_with fail
        rw [← hW1]
        clear hW1 HT HI
        refine region_below (by kernel_rfl) (by kernel_rfl) ?_
        repeat (go_big_quiet_step (fail))
        refine wpQuiet_nil (belowOf_all ?_)
        intro w2 hb2
        go_wp2
        go_roundw
        case rel => exact ⟨k + 1, z, by omega, by go_num, rfl, HT2, by omega, HB1.out.trans (hb2.mono HB1.out.size)⟩
        case measure => simp [intOf]; omega
    · have HE : Hid (z = cntA met thr) := by show _ = _; rw [HI.out, List.take_of_length_le (by rw [← HM.out]; omega)]
      have i1 : ¬ (k : Int) < (m : Int) := by omega
      clear HI
      go_wp2
      go_ret
      exact ⟨by rw [← HE.out]; rfl, hnx⟩
end Go.Proofs.Ytikgcgfigcolmaa
