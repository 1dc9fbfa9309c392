/- sameVotings of votings that are the same. No condition. -/
import Derived.Test.YtbkdkiodkcpbeaaQuC
namespace Go.Proofs.Ytbkdkiodkcpbeaa
open Go.RowKit
set_option linter.unusedVariables false

set_option maxRecDepth 100000 in
set_option maxHeartbeats 2000000 in
theorem sameVotings_k (l : List DCopy) (r t : Int) (a1 a2 : Option Addr) (n c1 c2 : Nat) (S1 S2 : Nat → Prop) (w : World) (h1 : (kRow kCopy).is false w S1 [.slice a1 n c1] l) (h2 : (kRow kCopy).is false w S2 [.slice a2 n c2] l) :
    Calls Try.prog 16 #[.agg #[.slice a1 n c1, .int .i64 r, .int .i64 t], .agg #[.slice a2 n c2, .int .i64 r, .int .i64 t]] w fun e w' => e = .returned (.bool true) ∧ Below w.heap.size w w' := by
  have HNL : Hid (n = l.length) := row_len h1
  have hmx := row_max h1
  have H1 : Hid ((kRow kCopy).is false w S1 [.slice a1 n c1] l) := h1
  have H2 : Hid ((kRow kCopy).is false w S2 [.slice a2 n c2] l) := h2
  clear h1 h2
  go_enter Try.func16, Try.ntmps16
  go_wp2_with fail
  obtain ⟨W0, hW0⟩ : ∃ W, W = (w.alloc (.cells #[.slice a1 n c1, .int .i64 r, .int .i64 t] 25)).alloc (.cells #[.slice a2 n c2, .int .i64 r, .int .i64 t] 25) := ⟨_, rfl⟩
  have HB0 : Hid (Below w.heap.size w W0) := by show Below _ _ _; rw [hW0]; exact below_a2q _ _ _
  have C0 : W0.cell? ⟨w.heap.size, 0, none⟩ = some (.slice a1 n c1) ∧ W0.cell? ⟨w.heap.size + 1, 0, none⟩ = some (.slice a2 n c2) := by rw [hW0]; simp [go_sem]
  rw [← hW0]
  clear hW0
  obtain ⟨C0, C1⟩ := C0
  go_loopw [30] (fun i wr => ∃ k : Nat, k ≤ n ∧ i = .int .i64 k ∧ Below W0.heap.size W0 wr) (fun i _ => n - (intOf i).toNat)
  case atStart => exact ⟨0, Nat.zero_le _, rfl, Below.refl _ _⟩
  case round =>
    obtain ⟨k, hk, rfl, hnx⟩ := hrel
    have zw := hnx.size
    have HBw : Hid (Below w.heap.size w wr) := HB0.out.trans (hnx.mono HB0.out.size)
    by_cases hlt : k < n
    · obtain ⟨b, o, rfl, hb, j1, j2, j3, A0, A1, A2⟩ := rowC_at (Kd.below H1.out HBw.out) hlt
      obtain ⟨b', o', rfl, hb', _, _, _, D0, D1, D2⟩ := rowC_at (Kd.below H2.out HBw.out) hlt
      obtain ⟨x, hx⟩ : ∃ x, x = cp l k := ⟨_, rfl⟩
      rw [← hx] at A0 A1 A2 D0 D1 D2 j1 j2 j3
      clear hx
      obtain ⟨x1, x2, x3⟩ := x
      simp only at A0 A1 A2 D0 D1 D2
      have E0 : wr.cell? ⟨w.heap.size, 0, none⟩ = some (.slice (some ⟨b, o, none⟩) n c1) := (hnx.cell (World.block_lt_of_cell? _ _ C0)).trans C0
      have E1 : wr.cell? ⟨w.heap.size + 1, 0, none⟩ = some (.slice (some ⟨b', o', none⟩) n c2) := (hnx.cell (World.block_lt_of_cell? _ _ C1)).trans C1
      have i0 : (0 : Int) ≤ (k : Int) := by omega
      have i1 : (k : Int) < (n : Int) := by omega
      have hne := belowOf_ne wr
      have V0 := fun q => BelowOf.cell A0 q
      have V1 := fun q => BelowOf.cell A1 q
      have V2 := fun q => BelowOf.cell A2 q
      have V3 := fun q => BelowOf.cell D0 q
      have V4 := fun q => BelowOf.cell D1 q
      have V5 := fun q => BelowOf.cell D2 q
      have V6 := fun q => BelowOf.cell E0 q
      have V7 := fun q => BelowOf.cell E1 q
      clear A0 A1 A2 D0 D1 D2
      go_upto_region 6 with fail
      refine region_below (by kernel_rfl) (by kernel_rfl) ?_
      repeat (go_big_quiet_step (fail))
      refine wpQuiet_nil (belowOf_all ?_)
      intro w1 hb1
      clear V0 V1 V2 V3 V4 V5 V6 V7 hne
      go_wp2
      go_roundw
      case rel => exact ⟨k + 1, by omega, by go_num, hnx.trans (hb1.mono zw)⟩
      case measure => simp [intOf]; omega
    · go_wp2
      go_ret
      exact ⟨rfl, HBw.out⟩
end Go.Proofs.Ytbkdkiodkcpbeaa
