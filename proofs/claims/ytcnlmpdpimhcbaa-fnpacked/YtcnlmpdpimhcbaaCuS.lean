/- A text that is spoilt: some text of two bytes more at most. No condition but that it fits in memory. -/
import Derived.Test.YtcnlmpdpimhcbaaCuP
namespace Go.Proofs.Ytcnlmpdpimhcbaa
open Go.RowKit
set_option linter.unusedVariables false

def RSpoilt (w : World) (g : Nat) (S : Nat → Prop) (m : Int) (N : Nat) (e : Ending) (w' : World) : Prop := ∃ s : ByteArray, e = .returned (.string s) ∧ s.size ≤ N ∧ CurAt w' g S m ∧ KeptO (fun k => k = g) w w'

set_option maxRecDepth 100000 in
set_option maxHeartbeats 4000000 in
theorem spoilt_k (w : World) (g : Nat) (S : Nat → Prop) (m : Int) (x cs : ByteArray) (h : CurAt w g S m) (hm : m ≤ 2 ^ 40) (hg : g < w.heap.size) (hS : ∀ k, S k → k < w.heap.size) (hx : x.size ≤ 100) (h1 : 1 ≤ cs.size) (h2 : cs.size ≤ 100) :
    Calls Try.prog 68 #[.pointer (some ⟨g, 0, none⟩), .string x, .string cs] w (RSpoilt w g S (m + 20) (x.size + 2)) := by
  have H : Hid (CurAt w g S m) := h
  clear h
  go_enter Try.func68, Try.ntmps68
  go_wp2_with fail
  refine (pick_k w g S m 3 H.out (by omega) (by omega) (by omega)).mono ?_
  rintro e w1 ⟨n0, rfl, ⟨n00, n01⟩, hc, hk⟩
  obtain ⟨n, rfl⟩ : ∃ n : Nat, n0 = n := ⟨n0.toNat, by omega⟩
  have HC1 : Hid (CurAt w1 g S (m + 1)) := hc
  have HK1 : Hid (KeptO (fun k => k = g) w w1) := hk
  have z1 : w.heap.size ≤ w1.heap.size := hk.size
  clear hc hk
  go_wp2_with fail
  go_loopw [1, 7] (fun sv nv wr => ∃ (k : Nat) (y : ByteArray), k ≤ n ∧ nv = .int .i64 k ∧ sv = .string y ∧ y.size + k ≤ x.size + n ∧ Hid (CurAt wr g S (m + 1 + 3 * (n - k))) ∧ Hid (KeptO (fun q => q = g) w wr)) (fun _ nv _ => (intOf nv).toNat)
  case atStart => exact ⟨n, x, Nat.le_refl _, rfl, rfl, Nat.le_refl _, HC1.out.mono (by omega), HK1⟩
  case round =>
    obtain ⟨k, y, hk, rfl, rfl, hy, HC, HK⟩ := hrel
    have zr : w.heap.size ≤ wr.heap.size := HK.out.size
    by_cases h0 : k = 0
    · obtain rfl : k = 0 := h0
      go_wp2
      go_ret
      exact ⟨y, rfl, by omega, HC.out.mono (by omega), HK.out⟩
    · obtain ⟨j, rfl⟩ : ∃ j, k = j + 1 := ⟨k - 1, by omega⟩
      have hjp : (0 : Int) < ((j + 1 : Nat) : Int) := by omega
      by_cases hy0 : y.size = 0
      · have : ¬ (0 : Int) < (y.size : Int) := by omega
        go_wp2
        go_ret
        exact ⟨y, rfl, by omega, HC.out.mono (by omega), HK.out⟩
      · have hyp : (0 : Int) < (y.size : Int) := by omega
        go_wp2_with fail
        refine (pick_k wr g S _ y.size HC.out (by omega) (by omega) (by omega)).mono ?_
        rintro e w2 ⟨i0, rfl, ⟨i00, i01⟩, hc2, hk2⟩
        obtain ⟨i, rfl⟩ : ∃ i : Nat, i0 = i := ⟨i0.toNat, by omega⟩
        have HC2 : Hid (CurAt w2 g S (m + 1 + 3 * (n - (j + 1 : Nat)) + 1)) := hc2
        have HK2 : Hid (KeptO (fun q => q = g) w w2) := HK.out.trans hk2
        clear hc2 hk2 HC HK
        go_wp2_with fail
        refine (pick_k w2 g S _ cs.size HC2.out (by omega) (by omega) (by omega)).mono ?_
        rintro e w3 ⟨c0, rfl, ⟨c00, c01⟩, hc3, hk3⟩
        obtain ⟨c, rfl⟩ : ∃ c : Nat, c0 = c := ⟨c0.toNat, by omega⟩
        have HC3 : Hid (CurAt w3 g S (m + 1 + 3 * (n - (j + 1 : Nat)) + 1 + 1)) := hc3
        have HK3 : Hid (KeptO (fun q => q = g) w w3) := HK2.out.trans hk3
        clear hc3 hk3 HC2 HK2
        have hcl : c < cs.size := by omega
        have hcv := conv_one
        go_wp2_with fail
        refine (pick_k _ g S _ 3 (HC3.out.below (below_a1' w3 _)) (by omega) (by omega) (by omega)).mono ?_
        rintro e w4 ⟨t, rfl, ⟨t0, t1⟩, hc4, hk4⟩
        have HC4 : Hid (CurAt w4 g S (m + 1 + 3 * (n - (j + 1 : Nat)) + 1 + 1 + 1)) := hc4
        have HK4 : Hid (KeptO (fun q => q = g) w w4) := (HK3.out.trans (KeptO.of (below_a1' w3 _))).trans hk4
        have hb1 : (strOfNums [(cs[c].toNat : Int)]).size = 1 := by rw [strOfNums_size]; rfl
        generalize strOfNums [(cs[c].toNat : Int)] = b at *
        clear hc4 hk4 HC3 HK3 hcv
        have hi1 : i < y.size := by omega
        have d1 : (i : Int) ≤ (y.size : Int) := by omega
        have d2 : (i : Int) + 1 ≤ (y.size : Int) := by omega
        have hne := belowOf_ne w4
        obtain rfl | rfl | rfl : t = 0 ∨ t = 1 ∨ t = 2 := by omega
        · go_wp2_with fail
          refine region_below (by kernel_rfl) (by kernel_rfl) ?_
          repeat (go_big_quiet_step (fail))
          refine wpQuiet_nil (belowOf_all ?_)
          intro w6 hb6
          have HC6 : Hid (CurAt w6 g S (m + 1 + 3 * (n - (j + 1 : Nat)) + 1 + 1 + 1)) := HC4.out.below hb6
          have HK6 : Hid (KeptO (fun q => q = g) w w6) := HK4.out.trans (KeptO.of hb6)
          have hz : (y.extract 0 i ++ b ++ y.extract i y.size).size ≤ y.size + 1 := by simp only [ByteArray.size_append, ByteArray.size_extract]; omega
          generalize y.extract 0 i ++ b ++ y.extract i y.size = y' at *
          clear hb6
          go_wp2
          go_roundw
          case rel => exact ⟨j, y', by omega, by congr 1, rfl, by omega, HC6.out.mono (by omega), HK6⟩
          case measure => simp [intOf]
        · go_wp2_with fail
          refine region_below (by kernel_rfl) (by kernel_rfl) ?_
          repeat (go_big_quiet_step (fail))
          refine wpQuiet_nil (belowOf_all ?_)
          intro w6 hb6
          have HC6 : Hid (CurAt w6 g S (m + 1 + 3 * (n - (j + 1 : Nat)) + 1 + 1 + 1)) := HC4.out.below hb6
          have HK6 : Hid (KeptO (fun q => q = g) w w6) := HK4.out.trans (KeptO.of hb6)
          have hz : (y.extract 0 i ++ b ++ y.extract (i + 1) y.size).size ≤ y.size + 1 := by simp only [ByteArray.size_append, ByteArray.size_extract]; omega
          generalize y.extract 0 i ++ b ++ y.extract (i + 1) y.size = y' at *
          clear hb6
          go_wp2
          go_roundw
          case rel => exact ⟨j, y', by omega, by congr 1, rfl, by omega, HC6.out.mono (by omega), HK6⟩
          case measure => simp [intOf]
        · go_wp2_with fail
          refine region_below (by kernel_rfl) (by kernel_rfl) ?_
          repeat (go_big_quiet_step (fail))
          refine wpQuiet_nil (belowOf_all ?_)
          intro w6 hb6
          have HC6 : Hid (CurAt w6 g S (m + 1 + 3 * (n - (j + 1 : Nat)) + 1 + 1 + 1)) := HC4.out.below hb6
          have HK6 : Hid (KeptO (fun q => q = g) w w6) := HK4.out.trans (KeptO.of hb6)
          have hz : (y.extract 0 i ++ y.extract (i + 1) y.size).size ≤ y.size + 1 := by simp only [ByteArray.size_append, ByteArray.size_extract]; omega
          generalize y.extract 0 i ++ y.extract (i + 1) y.size = y' at *
          clear hb6
          go_wp2
          go_roundw
          case rel => exact ⟨j, y', by omega, by congr 1, rfl, by omega, HC6.out.mono (by omega), HK6⟩
          case measure => simp [intOf]
end Go.Proofs.Ytcnlmpdpimhcbaa
