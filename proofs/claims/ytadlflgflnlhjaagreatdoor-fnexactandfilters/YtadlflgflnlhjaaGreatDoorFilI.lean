/- Whether a filter is good: the program. -/
import Derived.Test.YtadlflgflnlhjaaGreatDoorFilH
import Derived.Deep.DeepFit
namespace Go.Proofs.YtadlflgflnlhjaaGreatDoor
open Go.RowKit
set_option linter.unusedVariables false

set_option maxRecDepth 100000 in
set_option maxHeartbeats 4000000 in
theorem implGoodF_any (a : Option Addr) (c t : Nat) (F : Nat → Tm) (w : World) (h : FArg w a t F) (hs : SmallF t F) (htab : Tab w.heap.size w) (hml : ML w) :
    Calls Tryz.prog 18 #[.agg #[.slice a t c]] w (BoolIs (GoodF F t) w) := by
  have H : Hid (FArg w a t F) := h
  have HS : Hid (SmallF t F) := hs
  have HT : Hid (Tab w.heap.size w) := htab
  have HML : Hid (ML w) := hml
  have t20 := hs.1
  clear h hs htab hml
  have hal : ∀ o, Below w.heap.size w (w.alloc o) := fun o => (Below.refl _ _).alloc (Nat.le_refl _) o
  by_cases t0 : t = 0
  · subst t0
    have HN : Hid (¬ GoodF F 0) := fun h => by have := h.1.1; omega
    go_enter Tryz.func18, Tryz.ntmps18
    go_wp2
    go_ret
    exact BoolIs.no HN.out (hal _)
  by_cases t1 : 20 < t
  · have HN : Hid (¬ GoodF F t) := fun h => by have := h.1.2; omega
    have t2 : ((t : Int) == 0) = false := by simp; omega
    go_enter Tryz.func18, Tryz.ntmps18
    go_wp2
    go_ret
    exact BoolIs.no HN.out (hal _)
  have t2 : ((t : Int) == 0) = false := by simp; omega
  go_enter Tryz.func18, Tryz.ntmps18
  go_wp2_with fail
  go_loopw [18] (fun i wr => ∃ k : Nat, k ≤ t ∧ i = .int .i64 (k : Int) ∧ w.heap.size < wr.heap.size ∧ Below w.heap.size w wr ∧ wr.cell? ⟨w.heap.size, 0, none⟩ = some (.slice a t c) ∧ Hid (∀ j, j < k → FieldsOK (F j) ∧ RisA (F j).K (F j).m j)) (fun i _ => t - (intOf i).toNat)
  case atStart => exact ⟨0, Nat.zero_le _, rfl, by simp, hal _, by simp [go_sem], fun j hj => by omega⟩
  case round =>
    obtain ⟨k, hk, rfl, hz, hnx, hf, HJ⟩ := hrel
    by_cases hlt : k < t
    · obtain ⟨b, off, va, vc, ka, kc, rfl, hb, a0, a1, a2, a3, hv, hkk⟩ := (H.out.below hnx).at hlt
      have i0 : (0 : Int) ≤ (k : Int) := by omega
      have i1 : (k : Int) < (t : Int) := by omega
      have HV : Hid (ArgIs wr va (F k).n (F k).N ∧ ArgI wr ka (F k).m (F k).K) := ⟨hv, hkk⟩
      have HSK : Hid (SmallT (F k)) := HS.out.2 k hlt
      have HNX : Hid (Below w.heap.size w wr) := hnx
      have HWA : ∀ o, Below wr.heap.size wr (wr.alloc o) := fun o => (Below.refl _ _).alloc (Nat.le_refl _) o
      clear hv hkk hnx
      go_wp2_with fail
      refine (goodFields_any (F k) va ka vc kc _ HSK.out (HV.out.1.below (HWA _)) (HT.out.up (HNX.out.trans ((HWA _).mono HNX.out.size))) (HML.out.below (HNX.out.trans ((HWA _).mono HNX.out.size)))).mono ?_
      rintro e w1 ⟨q, rfl, hq, hb1⟩
      have x3 : w1.cell? ⟨wr.heap.size, 3, none⟩ = some (.slice ka (F k).m kc) := by rw [hb1.cell (by simp)]; simp [World.cell?_alloc_new]
      have B1 : Below wr.heap.size wr w1 := (HWA _).trans (hb1.mono (by simp))
      have z1 : wr.heap.size < w1.heap.size := by have := hb1.size; simp at this; omega
      have hf1 : w1.cell? ⟨w.heap.size, 0, none⟩ = some (.slice (some ⟨b, off, none⟩) t c) := (B1.cell hz).trans hf
      have HB1 : Hid (Below w.heap.size w w1) := HNX.out.trans (B1.mono HNX.out.size)
      have HK1 : Hid (ArgI w1 ka (F k).m (F k).K) := HV.out.2.below B1
      clear hb1 B1 HWA
      cases q with
      | false =>
        have HN : Hid (¬ GoodF F t) := fun h => by simpa using hq.2 (h.2.1 k hlt).1
        clear hq
        go_wp2
        go_ret
        exact BoolIs.no HN.out HB1.out
      | true =>
        have HFK : Hid (FieldsOK (F k)) := hq.1 rfl
        clear hq
        go_wp2_with fail
        refine (risingAhead_any ka kc (F k).m (F k).K k _ HSK.out.2.2 HK1.out).mono ?_
        rintro e w2 ⟨q, rfl, hq, hb2⟩
        have hf2 : w2.cell? ⟨w.heap.size, 0, none⟩ = some (.slice (some ⟨b, off, none⟩) t c) := (hb2.cell (by show w.heap.size < _; omega)).trans hf1
        have z2 := hb2.size
        have HB2 : Hid (Below w.heap.size w w2) := HB1.out.trans (hb2.mono HB1.out.size)
        clear hb2
        cases q with
        | false =>
          have HN : Hid (¬ GoodF F t) := fun h => by simpa using hq.2 (h.2.1 k hlt).2
          clear hq
          go_wp2
          go_ret
          exact BoolIs.no HN.out HB2.out
        | true =>
          have HJ' : Hid (∀ j, j < k + 1 → FieldsOK (F j) ∧ RisA (F j).K (F j).m j) := fun j hj => by
            by_cases e : j = k
            · subst e; exact ⟨HFK.out, hq.1 rfl⟩
            · exact HJ.out j (by omega)
          clear hq
          go_wp2
          go_roundw
          case rel => exact ⟨k + 1, by omega, by go_num, by omega, HB2.out, hf2, HJ'⟩
          case measure => simp [intOf]; omega
    · obtain rfl : k = t := by omega
      have HNX : Hid (Below w.heap.size w wr) := hnx
      clear hnx
      go_wp2_with fail
      refine (eachOneKid_any a c k F _ ⟨by omega, by omega⟩ (fun i hi => (HS.out.2 i hi).2.2) (fun i hi j hj => ((HJ.out i hi).2 j hj).1) (H.out.below HNX.out)).mono ?_
      rintro e w1 ⟨q, rfl, hq, hb1⟩
      have HQ : Hid (q = true ↔ GoodF F k) := ⟨fun h => ⟨⟨by omega, by omega⟩, HJ.out, hq.1 h⟩, fun h => hq.2 h.2.2⟩
      have HB1 : Hid (Below w.heap.size w w1) := HNX.out.trans (hb1.mono HNX.out.size)
      clear hb1 hq
      go_wp2
      go_ret
      exact BoolIs.of HQ.out HB1.out

end Go.Proofs.YtadlflgflnlhjaaGreatDoor
