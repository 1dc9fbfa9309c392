/- The law of RepairCopies, walked: over what the program and the specification answer. No condition. -/
import Derived.Test.YtbkdkiodkcpbeaaQuZ
import Derived.Test.YtbkdkiodkcpbeaaKSint
namespace Go.Proofs.Ytbkdkiodkcpbeaa
open Go.RowKit
set_option linter.unusedVariables false

set_option maxRecDepth 100000 in
set_option maxHeartbeats 4000000 in
theorem lawRepairCopies_k (x0 : DVoting) (C0 : List Value) (x1 : List Int) (a1 : Option Addr) (n1 c1 : Nat) (w : World) (h0 : kVoting.is false w (fun _ => True) C0 x0) (h1 : (kRow kInt).is false w (fun _ => True) [.slice a1 n1 c1] x1) :
    Calls Try.prog 10 #[.agg C0.toArray, .slice a1 n1 c1] w fun e w' => e = .returned (.bool true) ∧ Below w.heap.size w w' := by
  obtain ⟨f0_0, f0_1, f0_2⟩ := x0
  obtain ⟨a0_0, c0_0, _, rfl, _, _, _, _, _⟩ := kVoting_open h0
  have H0 : Hid (kVoting.is false w (fun _ => True) [.slice a0_0 f0_0.length c0_0, .int .i64 f0_1, .int .i64 f0_2] (f0_0, f0_1, f0_2)) := h0
  clear h0
  have H1 : Hid ((kRow kInt).is false w (fun _ => True) [.slice a1 n1 c1] x1) := h1
  clear h1
  have RL1 := row_len H1.out
  by_cases c1' : n1 ≤ 1048576
  case neg =>
    have hk' : (1048576 : Int) < (n1 : Int) := by omega
    clear RL1
    show Calls Try.prog 10 #[.agg #[.slice a0_0 f0_0.length c0_0, .int .i64 f0_1, .int .i64 f0_2], .slice a1 n1 c1] w _
    go_enter Try.func10, Try.ntmps10
    go_wp2_with fail
    go_ret
    exact ⟨rfl, by go_grown⟩
  have cl1 : ¬ (1048576 : Int) < (n1 : Int) := by omega
  have Z1 : Hid ((kRow kInt).sz x1 ≤ 2 ^ 20) := by show x1.length + sums (fun _ => 0) x1 ≤ _; rw [sums_zero]; omega
  clear RL1
  show Calls Try.prog 10 #[.agg #[.slice a0_0 f0_0.length c0_0, .int .i64 f0_1, .int .i64 f0_2], .slice a1 n1 c1] w _
  go_enter Try.func10, Try.ntmps10
  go_wp2_with fail
  have hal : ∀ o0, Below w.heap.size w (w.alloc o0) := fun o0 => ((Below.refl _ _).alloc (Nat.le_refl _) o0)
  refine (szVoting_k (f0_0, f0_1, f0_2) [.slice a0_0 f0_0.length c0_0, .int .i64 f0_1, .int .i64 f0_2] (fun _ => True) _ _ (by omega) (by omega) (Kd.below H0.out (hal _))).mono ?_
  rintro e w1 ⟨q0, rfl, hq0, hb⟩
  have Bw1 : Below w.heap.size w w1 := (hal _).trans (hb.mono (by simp))
  have zzw1 := Bw1.size
  have Ya0_0_w1 : w1.cell? ⟨w.heap.size, 0, none⟩ = some (.slice a0_0 f0_0.length c0_0) := by rw [hb.cell (by simp)]; simp [go_sem]
  have Ya0_1_w1 : w1.cell? ⟨w.heap.size, 1, none⟩ = some (.int .i64 f0_1) := by rw [hb.cell (by simp)]; simp [go_sem]
  have Ya0_2_w1 : w1.cell? ⟨w.heap.size, 2, none⟩ = some (.int .i64 f0_2) := by rw [hb.cell (by simp)]; simp [go_sem]
  have ZAa0_w1 : w.heap.size < w1.heap.size := World.block_lt_of_cell? _ _ Ya0_0_w1
  have HB1 : Hid (Below w.heap.size w w1) := Bw1
  clear hal hb Bw1
  rcases hq0 with rfl | ⟨p0, e0⟩
  · go_wp2
    go_ret
    exact ⟨rfl, HB1.out⟩
  have Z0 : Hid (kVoting.sz (f0_0, f0_1, f0_2) ≤ 2 ^ 20) := by show _ ≤ _; omega
  have u0' : q0 ≤ 2 ^ 20 := by omega
  have v0' : ¬ q0 < 0 := by omega
  clear e0
  obtain ⟨y0, hy0⟩ : ∃ y, y = (fRepairCopies (f0_0, f0_1, f0_2) x1).1 := ⟨_, rfl⟩
  have HY0 : Hid (y0 = (fRepairCopies (f0_0, f0_1, f0_2) x1).1) := hy0
  clear hy0
  obtain ⟨y1, hy1⟩ : ∃ y, y = (fRepairCopies (f0_0, f0_1, f0_2) x1).2.1 := ⟨_, rfl⟩
  have HY1 : Hid (y1 = (fRepairCopies (f0_0, f0_1, f0_2) x1).2.1) := hy1
  clear hy1
  obtain ⟨y2, hy2⟩ : ∃ y, y = (fRepairCopies (f0_0, f0_1, f0_2) x1).2.2 := ⟨_, rfl⟩
  have HY2 : Hid (y2 = (fRepairCopies (f0_0, f0_1, f0_2) x1).2.2) := hy2
  clear hy2
  obtain ⟨y0_0, y0_1, y0_2⟩ := y0
  go_wp2_with fail
  refine (toVoting_k (f0_0, f0_1, f0_2) [.slice a0_0 f0_0.length c0_0, .int .i64 f0_1, .int .i64 f0_2] (fun _ => True) _ (Kd.below H0.out HB1.out) Z0.out).mono ?_
  rintro e w2 ⟨Ds0, rfl, ho, hb⟩
  obtain ⟨bs0_0, ds0_0, _, rfl, _, _, _, _, _⟩ := kVoting_open ho
  obtain ⟨Ls0, hLs0⟩ : ∃ L, L = w1.heap.size := ⟨_, rfl⟩
  obtain ⟨Ms0, hMs0⟩ : ∃ M, M = w2.heap.size := ⟨_, rfl⟩
  have Ns0 : Hid (kVoting.is true w2 (fun k => Ls0 ≤ k ∧ k < Ms0) [.slice bs0_0 f0_0.length ds0_0, .int .i64 f0_1, .int .i64 f0_2] (f0_0, f0_1, f0_2)) := Kd.tight _ ho (fun k hk hk' => ⟨by have hz : _ ≤ k := hk'; omega, by omega⟩)
  clear ho
  have Bw2 : Below w1.heap.size w1 w2 := hb
  have zzw2 := Bw2.size
  have Ya0_0_w2 : w2.cell? ⟨w.heap.size, 0, none⟩ = some (.slice a0_0 f0_0.length c0_0) := cell_later Bw2 Ya0_0_w1
  have Ya0_1_w2 : w2.cell? ⟨w.heap.size, 1, none⟩ = some (.int .i64 f0_1) := cell_later Bw2 Ya0_1_w1
  have Ya0_2_w2 : w2.cell? ⟨w.heap.size, 2, none⟩ = some (.int .i64 f0_2) := cell_later Bw2 Ya0_2_w1
  have ZAa0_w2 : w.heap.size < w2.heap.size := World.block_lt_of_cell? _ _ Ya0_0_w2
  have HB2 : Hid (Below w.heap.size w w2) := HB1.out.trans (Bw2.mono HB1.out.size)
  clear Ya0_0_w1 Ya0_1_w1 Ya0_2_w1 HB1 hb Bw2
  have PTs0 : w.heap.size ≤ Ls0 ∧ Ms0 ≤ w2.heap.size ∧ w.heap.size < Ls0 := by omega
  clear hLs0 hMs0
  go_wp2_with fail
  refine (toIntS_k x1 a1 _ c1 (fun _ => True) _ (Kd.below H1.out HB2.out) Z1.out).mono ?_
  rintro e w3 ⟨bs1, rfl, ho, hlt, hb⟩
  clear hlt
  obtain ⟨Ls1, hLs1⟩ : ∃ L, L = w2.heap.size := ⟨_, rfl⟩
  obtain ⟨Ms1, hMs1⟩ : ∃ M, M = w3.heap.size := ⟨_, rfl⟩
  have Ns1 : Hid ((kRow kInt).is true w3 (fun k => Ls1 ≤ k ∧ k < Ms1) [.slice bs1 n1 n1] x1) := Kd.tight _ ho (fun k hk hk' => ⟨by have hz : _ ≤ k := hk'; omega, by omega⟩)
  clear ho
  have Bw3 : Below w2.heap.size w2 w3 := hb
  have zzw3 := Bw3.size
  have Ya0_0_w3 : w3.cell? ⟨w.heap.size, 0, none⟩ = some (.slice a0_0 f0_0.length c0_0) := cell_later Bw3 Ya0_0_w2
  have Ya0_1_w3 : w3.cell? ⟨w.heap.size, 1, none⟩ = some (.int .i64 f0_1) := cell_later Bw3 Ya0_1_w2
  have Ya0_2_w3 : w3.cell? ⟨w.heap.size, 2, none⟩ = some (.int .i64 f0_2) := cell_later Bw3 Ya0_2_w2
  have ZAa0_w3 : w.heap.size < w3.heap.size := World.block_lt_of_cell? _ _ Ya0_0_w3
  have s0_w3 : Hid (kVoting.is true w3 (fun k => Ls0 ≤ k ∧ k < Ms0) [.slice bs0_0 f0_0.length ds0_0, .int .i64 f0_1, .int .i64 f0_2] (f0_0, f0_1, f0_2)) := Kd.below Ns0.out Bw3
  have HB3 : Hid (Below w.heap.size w w3) := HB2.out.trans (Bw3.mono HB2.out.size)
  clear Ya0_0_w2 Ya0_1_w2 Ya0_2_w2 Ns0 HB2 hb Bw3
  have PTs1 : w.heap.size ≤ Ls1 ∧ Ms1 ≤ w3.heap.size ∧ w.heap.size < Ls1 ∧ Ms0 ≤ Ls1 := by omega
  clear hLs1 hMs1
  go_wp2_with fail
  refine (specRepairCopies_k (f0_0, f0_1, f0_2) [.slice bs0_0 f0_0.length ds0_0, .int .i64 f0_1, .int .i64 f0_2] _ x1 _ _ _ _ _ s0_w3.out Z0.out Ns1.out Z1.out).mono ?_
  rintro e w4 ⟨DW0, TW0, rfl, rW0, sW0, kW0, _, hb⟩
  rw [← HY0.out] at rW0 kW0
  rw [← HY1.out]
  rw [← HY2.out]
  obtain ⟨bW0_0, dW0_0, _, rfl, _, _, _, _, _⟩ := kVoting_open rW0
  have KC0 : Hid (hVoting_cnt (y0_0, y0_1, y0_2) ≤ 2 ^ 26) := kW0
  obtain ⟨LW0, hLW0⟩ : ∃ L, L = w3.heap.size := ⟨_, rfl⟩
  obtain ⟨MW0, hMW0⟩ : ∃ M, M = w4.heap.size := ⟨_, rfl⟩
  have NW0 : Hid (kVoting.is true w4 (fun k => LW0 ≤ k ∧ k < MW0) [.slice bW0_0 y0_0.length dW0_0, .int .i64 y0_1, .int .i64 y0_2] (y0_0, y0_1, y0_2)) := Kd.tight _ rW0 (fun k hk hk' => ⟨by have hz := sW0 k hk'; omega, by omega⟩)
  clear rW0 sW0 kW0
  have Bw4 : Below w3.heap.size w3 w4 := hb
  have zzw4 := Bw4.size
  have Ya0_0_w4 : w4.cell? ⟨w.heap.size, 0, none⟩ = some (.slice a0_0 f0_0.length c0_0) := cell_later Bw4 Ya0_0_w3
  have Ya0_1_w4 : w4.cell? ⟨w.heap.size, 1, none⟩ = some (.int .i64 f0_1) := cell_later Bw4 Ya0_1_w3
  have Ya0_2_w4 : w4.cell? ⟨w.heap.size, 2, none⟩ = some (.int .i64 f0_2) := cell_later Bw4 Ya0_2_w3
  have ZAa0_w4 : w.heap.size < w4.heap.size := World.block_lt_of_cell? _ _ Ya0_0_w4
  have HB4 : Hid (Below w.heap.size w w4) := HB3.out.trans (Bw4.mono HB3.out.size)
  clear Ya0_0_w3 Ya0_1_w3 Ya0_2_w3 HB3 hb Bw4
  have PTW0 : w.heap.size ≤ LW0 ∧ MW0 ≤ w4.heap.size ∧ w.heap.size < LW0 ∧ Ms0 ≤ LW0 ∧ Ms1 ≤ LW0 := by omega
  clear hLW0 hMW0
  have PBW0 : w.heap.size ≤ w4.heap.size ∧ Ms0 ≤ w4.heap.size ∧ Ms1 ≤ w4.heap.size ∧ MW0 ≤ w4.heap.size := by omega
  go_wp2_with fail
  have hal : ∀ o0, Below w4.heap.size w4 (w4.alloc o0) := fun o0 => ((Below.refl _ _).alloc (Nat.le_refl _) o0)
  refine (toVoting_k (f0_0, f0_1, f0_2) [.slice a0_0 f0_0.length c0_0, .int .i64 f0_1, .int .i64 f0_2] (fun _ => True) _ (Kd.below H0.out (HB4.out.trans ((hal _).mono HB4.out.size))) Z0.out).mono ?_
  rintro e w5 ⟨DX0, rfl, ho, hb⟩
  obtain ⟨bX0_0, dX0_0, _, rfl, _, _, _, _, _⟩ := kVoting_open ho
  obtain ⟨LX0, hLX0⟩ : ∃ L, L = w4.heap.size + 1 := ⟨_, rfl⟩
  obtain ⟨MX0, hMX0⟩ : ∃ M, M = w5.heap.size := ⟨_, rfl⟩
  have NX0 : Hid (kVoting.is true w5 (fun k => LX0 ≤ k ∧ k < MX0) [.slice bX0_0 f0_0.length dX0_0, .int .i64 f0_1, .int .i64 f0_2] (f0_0, f0_1, f0_2)) := Kd.tight _ ho (fun k hk hk' => ⟨by have hz : _ ≤ k := hk'; simp only [World.size_alloc] at hz; omega, by omega⟩)
  clear ho
  have Bw5 : Below w4.heap.size w4 w5 := (hal _).trans (hb.mono (by simp))
  have zzw5 := Bw5.size
  have Ya0_0_w5 : w5.cell? ⟨w.heap.size, 0, none⟩ = some (.slice a0_0 f0_0.length c0_0) := cell_later Bw5 Ya0_0_w4
  have Ya0_1_w5 : w5.cell? ⟨w.heap.size, 1, none⟩ = some (.int .i64 f0_1) := cell_later Bw5 Ya0_1_w4
  have Ya0_2_w5 : w5.cell? ⟨w.heap.size, 2, none⟩ = some (.int .i64 f0_2) := cell_later Bw5 Ya0_2_w4
  have ZAa0_w5 : w.heap.size < w5.heap.size := World.block_lt_of_cell? _ _ Ya0_0_w5
  have YW0_0_w5 : w5.cell? ⟨w4.heap.size, 0, none⟩ = some (.slice bW0_0 y0_0.length dW0_0) := by rw [hb.cell (by simp)]; simp [go_sem]
  have YW0_1_w5 : w5.cell? ⟨w4.heap.size, 1, none⟩ = some (.int .i64 y0_1) := by rw [hb.cell (by simp)]; simp [go_sem]
  have YW0_2_w5 : w5.cell? ⟨w4.heap.size, 2, none⟩ = some (.int .i64 y0_2) := by rw [hb.cell (by simp)]; simp [go_sem]
  have ZAW0_w5 : w4.heap.size < w5.heap.size := World.block_lt_of_cell? _ _ YW0_0_w5
  have W0_w5 : Hid (kVoting.is true w5 (fun k => LW0 ≤ k ∧ k < MW0) [.slice bW0_0 y0_0.length dW0_0, .int .i64 y0_1, .int .i64 y0_2] (y0_0, y0_1, y0_2)) := Kd.below NW0.out Bw5
  have HB5 : Hid (Below w.heap.size w w5) := HB4.out.trans (Bw5.mono HB4.out.size)
  clear Ya0_0_w4 Ya0_1_w4 Ya0_2_w4 NW0 HB4 hal hb Bw5
  have PTX0 : w.heap.size ≤ LX0 ∧ MX0 ≤ w5.heap.size ∧ w.heap.size < LX0 ∧ Ms0 ≤ LX0 ∧ Ms1 ≤ LX0 ∧ MW0 ≤ LX0 ∧ w4.heap.size < LX0 := by omega
  clear hLX0 hMX0
  have PBX0 : w.heap.size ≤ w5.heap.size ∧ Ms0 ≤ w5.heap.size ∧ Ms1 ≤ w5.heap.size ∧ MW0 ≤ w5.heap.size ∧ MX0 ≤ w5.heap.size := by omega
  go_wp2_with fail
  have hal : ∀ o0, Below w5.heap.size w5 (w5.alloc o0) := fun o0 => ((Below.refl _ _).alloc (Nat.le_refl _) o0)
  refine (toIntS_k x1 a1 _ c1 (fun _ => True) _ (Kd.below H1.out (HB5.out.trans ((hal _).mono HB5.out.size))) Z1.out).mono ?_
  rintro e w6 ⟨bX1, rfl, ho, hlt, hb⟩
  clear hlt
  obtain ⟨LX1, hLX1⟩ : ∃ L, L = w5.heap.size + 1 := ⟨_, rfl⟩
  obtain ⟨MX1, hMX1⟩ : ∃ M, M = w6.heap.size := ⟨_, rfl⟩
  have NX1 : Hid ((kRow kInt).is true w6 (fun k => LX1 ≤ k ∧ k < MX1) [.slice bX1 n1 n1] x1) := Kd.tight _ ho (fun k hk hk' => ⟨by have hz : _ ≤ k := hk'; simp only [World.size_alloc] at hz; omega, by omega⟩)
  clear ho
  have Bw6 : Below w5.heap.size w5 w6 := (hal _).trans (hb.mono (by simp))
  have zzw6 := Bw6.size
  have Ya0_0_w6 : w6.cell? ⟨w.heap.size, 0, none⟩ = some (.slice a0_0 f0_0.length c0_0) := cell_later Bw6 Ya0_0_w5
  have Ya0_1_w6 : w6.cell? ⟨w.heap.size, 1, none⟩ = some (.int .i64 f0_1) := cell_later Bw6 Ya0_1_w5
  have Ya0_2_w6 : w6.cell? ⟨w.heap.size, 2, none⟩ = some (.int .i64 f0_2) := cell_later Bw6 Ya0_2_w5
  have ZAa0_w6 : w.heap.size < w6.heap.size := World.block_lt_of_cell? _ _ Ya0_0_w6
  have YW0_0_w6 : w6.cell? ⟨w4.heap.size, 0, none⟩ = some (.slice bW0_0 y0_0.length dW0_0) := cell_later Bw6 YW0_0_w5
  have YW0_1_w6 : w6.cell? ⟨w4.heap.size, 1, none⟩ = some (.int .i64 y0_1) := cell_later Bw6 YW0_1_w5
  have YW0_2_w6 : w6.cell? ⟨w4.heap.size, 2, none⟩ = some (.int .i64 y0_2) := cell_later Bw6 YW0_2_w5
  have ZAW0_w6 : w4.heap.size < w6.heap.size := World.block_lt_of_cell? _ _ YW0_0_w6
  have YX0_0_w6 : w6.cell? ⟨w5.heap.size, 0, none⟩ = some (.slice bX0_0 f0_0.length dX0_0) := by rw [hb.cell (by simp)]; simp [go_sem]
  have YX0_1_w6 : w6.cell? ⟨w5.heap.size, 1, none⟩ = some (.int .i64 f0_1) := by rw [hb.cell (by simp)]; simp [go_sem]
  have YX0_2_w6 : w6.cell? ⟨w5.heap.size, 2, none⟩ = some (.int .i64 f0_2) := by rw [hb.cell (by simp)]; simp [go_sem]
  have ZAX0_w6 : w5.heap.size < w6.heap.size := World.block_lt_of_cell? _ _ YX0_0_w6
  have W0_w6 : Hid (kVoting.is true w6 (fun k => LW0 ≤ k ∧ k < MW0) [.slice bW0_0 y0_0.length dW0_0, .int .i64 y0_1, .int .i64 y0_2] (y0_0, y0_1, y0_2)) := Kd.below W0_w5.out Bw6
  have X0_w6 : Hid (kVoting.is true w6 (fun k => LX0 ≤ k ∧ k < MX0) [.slice bX0_0 f0_0.length dX0_0, .int .i64 f0_1, .int .i64 f0_2] (f0_0, f0_1, f0_2)) := Kd.below NX0.out Bw6
  have HB6 : Hid (Below w.heap.size w w6) := HB5.out.trans (Bw6.mono HB5.out.size)
  clear Ya0_0_w5 Ya0_1_w5 Ya0_2_w5 YW0_0_w5 YW0_1_w5 YW0_2_w5 W0_w5 NX0 HB5 hal hb Bw6
  have PTX1 : w.heap.size ≤ LX1 ∧ MX1 ≤ w6.heap.size ∧ w.heap.size < LX1 ∧ Ms0 ≤ LX1 ∧ Ms1 ≤ LX1 ∧ MW0 ≤ LX1 ∧ w4.heap.size < LX1 ∧ MX0 ≤ LX1 ∧ w5.heap.size < LX1 := by omega
  clear hLX1 hMX1
  go_wp2_with fail
  refine (implRepairCopies_k (f0_0, f0_1, f0_2) [.slice bX0_0 f0_0.length dX0_0, .int .i64 f0_1, .int .i64 f0_2] _ x1 _ _ _ _ _ X0_w6.out Z0.out NX1.out Z1.out).mono ?_
  rintro e w7 ⟨DG0, TG0, rfl, rG0, sG0, kG0, _, hb⟩
  rw [← HY0.out] at rG0 kG0
  rw [← HY1.out]
  rw [← HY2.out]
  obtain ⟨bG0_0, dG0_0, _, rfl, _, _, _, _, _⟩ := kVoting_open rG0
  clear kG0
  obtain ⟨LG0, hLG0⟩ : ∃ L, L = w6.heap.size := ⟨_, rfl⟩
  obtain ⟨MG0, hMG0⟩ : ∃ M, M = w7.heap.size := ⟨_, rfl⟩
  have NG0 : Hid (kVoting.is true w7 (fun k => LG0 ≤ k ∧ k < MG0) [.slice bG0_0 y0_0.length dG0_0, .int .i64 y0_1, .int .i64 y0_2] (y0_0, y0_1, y0_2)) := Kd.tight _ rG0 (fun k hk hk' => ⟨by have hz := sG0 k hk'; omega, by omega⟩)
  clear rG0 sG0
  have Bw7 : Below w6.heap.size w6 w7 := hb
  have zzw7 := Bw7.size
  have Ya0_0_w7 : w7.cell? ⟨w.heap.size, 0, none⟩ = some (.slice a0_0 f0_0.length c0_0) := cell_later Bw7 Ya0_0_w6
  have Ya0_1_w7 : w7.cell? ⟨w.heap.size, 1, none⟩ = some (.int .i64 f0_1) := cell_later Bw7 Ya0_1_w6
  have Ya0_2_w7 : w7.cell? ⟨w.heap.size, 2, none⟩ = some (.int .i64 f0_2) := cell_later Bw7 Ya0_2_w6
  have ZAa0_w7 : w.heap.size < w7.heap.size := World.block_lt_of_cell? _ _ Ya0_0_w7
  have YW0_0_w7 : w7.cell? ⟨w4.heap.size, 0, none⟩ = some (.slice bW0_0 y0_0.length dW0_0) := cell_later Bw7 YW0_0_w6
  have YW0_1_w7 : w7.cell? ⟨w4.heap.size, 1, none⟩ = some (.int .i64 y0_1) := cell_later Bw7 YW0_1_w6
  have YW0_2_w7 : w7.cell? ⟨w4.heap.size, 2, none⟩ = some (.int .i64 y0_2) := cell_later Bw7 YW0_2_w6
  have ZAW0_w7 : w4.heap.size < w7.heap.size := World.block_lt_of_cell? _ _ YW0_0_w7
  have YX0_0_w7 : w7.cell? ⟨w5.heap.size, 0, none⟩ = some (.slice bX0_0 f0_0.length dX0_0) := cell_later Bw7 YX0_0_w6
  have YX0_1_w7 : w7.cell? ⟨w5.heap.size, 1, none⟩ = some (.int .i64 f0_1) := cell_later Bw7 YX0_1_w6
  have YX0_2_w7 : w7.cell? ⟨w5.heap.size, 2, none⟩ = some (.int .i64 f0_2) := cell_later Bw7 YX0_2_w6
  have ZAX0_w7 : w5.heap.size < w7.heap.size := World.block_lt_of_cell? _ _ YX0_0_w7
  have W0_w7 : Hid (kVoting.is true w7 (fun k => LW0 ≤ k ∧ k < MW0) [.slice bW0_0 y0_0.length dW0_0, .int .i64 y0_1, .int .i64 y0_2] (y0_0, y0_1, y0_2)) := Kd.below W0_w6.out Bw7
  have X0_w7 : Hid (kVoting.is true w7 (fun k => LX0 ≤ k ∧ k < MX0) [.slice bX0_0 f0_0.length dX0_0, .int .i64 f0_1, .int .i64 f0_2] (f0_0, f0_1, f0_2)) := Kd.below X0_w6.out Bw7
  have X1_w7 : Hid ((kRow kInt).is true w7 (fun k => LX1 ≤ k ∧ k < MX1) [.slice bX1 n1 n1] x1) := Kd.below NX1.out Bw7
  have HB7 : Hid (Below w.heap.size w w7) := HB6.out.trans (Bw7.mono HB6.out.size)
  clear Ya0_0_w6 Ya0_1_w6 Ya0_2_w6 YW0_0_w6 YW0_1_w6 YW0_2_w6 YX0_0_w6 YX0_1_w6 YX0_2_w6 W0_w6 X0_w6 NX1 HB6 hb Bw7
  have PTG0 : w.heap.size ≤ LG0 ∧ MG0 ≤ w7.heap.size ∧ w.heap.size < LG0 ∧ Ms0 ≤ LG0 ∧ Ms1 ≤ LG0 ∧ MW0 ≤ LG0 ∧ w4.heap.size < LG0 ∧ MX0 ≤ LG0 ∧ w5.heap.size < LG0 ∧ MX1 ≤ LG0 := by omega
  clear hLG0 hMG0
  have PBG0 : w.heap.size ≤ w7.heap.size ∧ Ms0 ≤ w7.heap.size ∧ Ms1 ≤ w7.heap.size ∧ MW0 ≤ w7.heap.size ∧ MX0 ≤ w7.heap.size ∧ MX1 ≤ w7.heap.size ∧ MG0 ≤ w7.heap.size := by omega
  go_wp2_with fail
  have hal : ∀ o0, Below w7.heap.size w7 (w7.alloc o0) := fun o0 => ((Below.refl _ _).alloc (Nat.le_refl _) o0)
  refine (eqVoting_k (y0_0, y0_1, y0_2) [.slice bG0_0 y0_0.length dG0_0, .int .i64 y0_1, .int .i64 y0_2] [.slice bW0_0 y0_0.length dW0_0, .int .i64 y0_1, .int .i64 y0_2] _ _ _ (Kd.read _ (Kd.below NG0.out (hal _))) (Kd.read _ (Kd.below W0_w7.out (hal _)))).mono ?_
  rintro e w8 ⟨rfl, hb⟩
  have Bw8 : Below w7.heap.size w7 w8 := (hal _).trans (hb.mono (by simp))
  have zzw8 := Bw8.size
  have Ya0_0_w8 : w8.cell? ⟨w.heap.size, 0, none⟩ = some (.slice a0_0 f0_0.length c0_0) := cell_later Bw8 Ya0_0_w7
  have Ya0_1_w8 : w8.cell? ⟨w.heap.size, 1, none⟩ = some (.int .i64 f0_1) := cell_later Bw8 Ya0_1_w7
  have Ya0_2_w8 : w8.cell? ⟨w.heap.size, 2, none⟩ = some (.int .i64 f0_2) := cell_later Bw8 Ya0_2_w7
  have ZAa0_w8 : w.heap.size < w8.heap.size := World.block_lt_of_cell? _ _ Ya0_0_w8
  have YW0_0_w8 : w8.cell? ⟨w4.heap.size, 0, none⟩ = some (.slice bW0_0 y0_0.length dW0_0) := cell_later Bw8 YW0_0_w7
  have YW0_1_w8 : w8.cell? ⟨w4.heap.size, 1, none⟩ = some (.int .i64 y0_1) := cell_later Bw8 YW0_1_w7
  have YW0_2_w8 : w8.cell? ⟨w4.heap.size, 2, none⟩ = some (.int .i64 y0_2) := cell_later Bw8 YW0_2_w7
  have ZAW0_w8 : w4.heap.size < w8.heap.size := World.block_lt_of_cell? _ _ YW0_0_w8
  have YX0_0_w8 : w8.cell? ⟨w5.heap.size, 0, none⟩ = some (.slice bX0_0 f0_0.length dX0_0) := cell_later Bw8 YX0_0_w7
  have YX0_1_w8 : w8.cell? ⟨w5.heap.size, 1, none⟩ = some (.int .i64 f0_1) := cell_later Bw8 YX0_1_w7
  have YX0_2_w8 : w8.cell? ⟨w5.heap.size, 2, none⟩ = some (.int .i64 f0_2) := cell_later Bw8 YX0_2_w7
  have ZAX0_w8 : w5.heap.size < w8.heap.size := World.block_lt_of_cell? _ _ YX0_0_w8
  have YG0_0_w8 : w8.cell? ⟨w7.heap.size, 0, none⟩ = some (.slice bG0_0 y0_0.length dG0_0) := by rw [hb.cell (by simp)]; simp [go_sem]
  have YG0_1_w8 : w8.cell? ⟨w7.heap.size, 1, none⟩ = some (.int .i64 y0_1) := by rw [hb.cell (by simp)]; simp [go_sem]
  have YG0_2_w8 : w8.cell? ⟨w7.heap.size, 2, none⟩ = some (.int .i64 y0_2) := by rw [hb.cell (by simp)]; simp [go_sem]
  have ZAG0_w8 : w7.heap.size < w8.heap.size := World.block_lt_of_cell? _ _ YG0_0_w8
  have W0_w8 : Hid (kVoting.is true w8 (fun k => LW0 ≤ k ∧ k < MW0) [.slice bW0_0 y0_0.length dW0_0, .int .i64 y0_1, .int .i64 y0_2] (y0_0, y0_1, y0_2)) := Kd.below W0_w7.out Bw8
  have X0_w8 : Hid (kVoting.is true w8 (fun k => LX0 ≤ k ∧ k < MX0) [.slice bX0_0 f0_0.length dX0_0, .int .i64 f0_1, .int .i64 f0_2] (f0_0, f0_1, f0_2)) := Kd.below X0_w7.out Bw8
  have X1_w8 : Hid ((kRow kInt).is true w8 (fun k => LX1 ≤ k ∧ k < MX1) [.slice bX1 n1 n1] x1) := Kd.below X1_w7.out Bw8
  have G0_w8 : Hid (kVoting.is true w8 (fun k => LG0 ≤ k ∧ k < MG0) [.slice bG0_0 y0_0.length dG0_0, .int .i64 y0_1, .int .i64 y0_2] (y0_0, y0_1, y0_2)) := Kd.below NG0.out Bw8
  have HB8 : Hid (Below w.heap.size w w8) := HB7.out.trans (Bw8.mono HB7.out.size)
  clear Ya0_0_w7 Ya0_1_w7 Ya0_2_w7 YW0_0_w7 YW0_1_w7 YW0_2_w7 YX0_0_w7 YX0_1_w7 YX0_2_w7 W0_w7 X0_w7 X1_w7 NG0 HB7 hal hb Bw8
  go_wp2_with fail
  go_region_held3 (fun w' => w'.cell? ⟨w5.heap.size, 0, none⟩ = some (.slice bX0_0 f0_0.length dX0_0) ∧ w'.cell? ⟨w5.heap.size, 1, none⟩ = some (.int .i64 f0_1) ∧ w'.cell? ⟨w5.heap.size, 2, none⟩ = some (.int .i64 f0_2) ∧ w'.cell? ⟨w.heap.size, 0, none⟩ = some (.slice a0_0 f0_0.length c0_0) ∧ w'.cell? ⟨w.heap.size, 1, none⟩ = some (.int .i64 f0_1) ∧ w'.cell? ⟨w.heap.size, 2, none⟩ = some (.int .i64 f0_2)) (first | exact ⟨YX0_0_w8, YX0_1_w8, YX0_2_w8, Ya0_0_w8, Ya0_1_w8, Ya0_2_w8⟩ | exact ⟨(hcB _ _ (Nat.lt_of_lt_of_le ZAX0_w8 zzA)).trans ((hcA _ _ ZAX0_w8).trans YX0_0_w8), (hcB _ _ (Nat.lt_of_lt_of_le ZAX0_w8 zzA)).trans ((hcA _ _ ZAX0_w8).trans YX0_1_w8), (hcB _ _ (Nat.lt_of_lt_of_le ZAX0_w8 zzA)).trans ((hcA _ _ ZAX0_w8).trans YX0_2_w8), (hcB _ _ (Nat.lt_of_lt_of_le ZAa0_w8 zzA)).trans ((hcA _ _ ZAa0_w8).trans Ya0_0_w8), (hcB _ _ (Nat.lt_of_lt_of_le ZAa0_w8 zzA)).trans ((hcA _ _ ZAa0_w8).trans Ya0_1_w8), (hcB _ _ (Nat.lt_of_lt_of_le ZAa0_w8 zzA)).trans ((hcA _ _ ZAa0_w8).trans Ya0_2_w8)⟩ | exact ⟨(hcA _ _ ZAX0_w8).trans YX0_0_w8, (hcA _ _ ZAX0_w8).trans YX0_1_w8, (hcA _ _ ZAX0_w8).trans YX0_2_w8, (hcA _ _ ZAa0_w8).trans Ya0_0_w8, (hcA _ _ ZAa0_w8).trans Ya0_1_w8, (hcA _ _ ZAa0_w8).trans Ya0_2_w8⟩)
    (first | (go_at_call 38; refine (toVoting_k (f0_0, f0_1, f0_2) [.slice a0_0 f0_0.length c0_0, .int .i64 f0_1, .int .i64 f0_2] (fun _ => True) _ (Kd.below H0.out (HB8.out.drew)) Z0.out).mono ?_; rintro e wA ⟨DA, rfl, hoA, hbA⟩; obtain ⟨_, _, _, rfl, _, _, _, _, _⟩ := kVoting_open hoA; obtain ⟨hcA, hfA⟩ := bcell hbA; have zzA := hbA.size) | (go_at_call 32; refine (eqVoting_k (f0_0, f0_1, f0_2) [.slice bX0_0 f0_0.length dX0_0, .int .i64 f0_1, .int .i64 f0_2] _ _ _ _ (Kd.read _ (Kd.below X0_w8.out ((Below.drew (Below.refl w8.heap.size w8)).trans (hbA.mono (Nat.le_refl w8.heap.size))))) (Kd.read _ hoA)).mono ?_; rintro e w9 ⟨rfl, hbB⟩; obtain ⟨hcB, hfB⟩ := bcell hbB))
  have hb : Below w8.heap.size w8 w9 := ((Below.drew (Below.refl w8.heap.size w8)).trans (hbA.mono (Nat.le_refl w8.heap.size))).trans (hbB.mono zzA)
  clear hbA hbB hcA hfA hcB hfB hoA zzA
  have Bw9 : Below w8.heap.size w8 w9 := hb
  have zzw9 := Bw9.size
  have Ya0_0_w9 : w9.cell? ⟨w.heap.size, 0, none⟩ = some (.slice a0_0 f0_0.length c0_0) := cell_later Bw9 Ya0_0_w8
  have Ya0_1_w9 : w9.cell? ⟨w.heap.size, 1, none⟩ = some (.int .i64 f0_1) := cell_later Bw9 Ya0_1_w8
  have Ya0_2_w9 : w9.cell? ⟨w.heap.size, 2, none⟩ = some (.int .i64 f0_2) := cell_later Bw9 Ya0_2_w8
  have ZAa0_w9 : w.heap.size < w9.heap.size := World.block_lt_of_cell? _ _ Ya0_0_w9
  have YW0_0_w9 : w9.cell? ⟨w4.heap.size, 0, none⟩ = some (.slice bW0_0 y0_0.length dW0_0) := cell_later Bw9 YW0_0_w8
  have YW0_1_w9 : w9.cell? ⟨w4.heap.size, 1, none⟩ = some (.int .i64 y0_1) := cell_later Bw9 YW0_1_w8
  have YW0_2_w9 : w9.cell? ⟨w4.heap.size, 2, none⟩ = some (.int .i64 y0_2) := cell_later Bw9 YW0_2_w8
  have ZAW0_w9 : w4.heap.size < w9.heap.size := World.block_lt_of_cell? _ _ YW0_0_w9
  have YX0_0_w9 : w9.cell? ⟨w5.heap.size, 0, none⟩ = some (.slice bX0_0 f0_0.length dX0_0) := cell_later Bw9 YX0_0_w8
  have YX0_1_w9 : w9.cell? ⟨w5.heap.size, 1, none⟩ = some (.int .i64 f0_1) := cell_later Bw9 YX0_1_w8
  have YX0_2_w9 : w9.cell? ⟨w5.heap.size, 2, none⟩ = some (.int .i64 f0_2) := cell_later Bw9 YX0_2_w8
  have ZAX0_w9 : w5.heap.size < w9.heap.size := World.block_lt_of_cell? _ _ YX0_0_w9
  have YG0_0_w9 : w9.cell? ⟨w7.heap.size, 0, none⟩ = some (.slice bG0_0 y0_0.length dG0_0) := cell_later Bw9 YG0_0_w8
  have YG0_1_w9 : w9.cell? ⟨w7.heap.size, 1, none⟩ = some (.int .i64 y0_1) := cell_later Bw9 YG0_1_w8
  have YG0_2_w9 : w9.cell? ⟨w7.heap.size, 2, none⟩ = some (.int .i64 y0_2) := cell_later Bw9 YG0_2_w8
  have ZAG0_w9 : w7.heap.size < w9.heap.size := World.block_lt_of_cell? _ _ YG0_0_w9
  have W0_w9 : Hid (kVoting.is true w9 (fun k => LW0 ≤ k ∧ k < MW0) [.slice bW0_0 y0_0.length dW0_0, .int .i64 y0_1, .int .i64 y0_2] (y0_0, y0_1, y0_2)) := Kd.below W0_w8.out Bw9
  have X0_w9 : Hid (kVoting.is true w9 (fun k => LX0 ≤ k ∧ k < MX0) [.slice bX0_0 f0_0.length dX0_0, .int .i64 f0_1, .int .i64 f0_2] (f0_0, f0_1, f0_2)) := Kd.below X0_w8.out Bw9
  have X1_w9 : Hid ((kRow kInt).is true w9 (fun k => LX1 ≤ k ∧ k < MX1) [.slice bX1 n1 n1] x1) := Kd.below X1_w8.out Bw9
  have G0_w9 : Hid (kVoting.is true w9 (fun k => LG0 ≤ k ∧ k < MG0) [.slice bG0_0 y0_0.length dG0_0, .int .i64 y0_1, .int .i64 y0_2] (y0_0, y0_1, y0_2)) := Kd.below G0_w8.out Bw9
  have HB9 : Hid (Below w.heap.size w w9) := HB8.out.trans (Bw9.mono HB8.out.size)
  clear Ya0_0_w8 Ya0_1_w8 Ya0_2_w8 YW0_0_w8 YW0_1_w8 YW0_2_w8 YX0_0_w8 YX0_1_w8 YX0_2_w8 YG0_0_w8 YG0_1_w8 YG0_2_w8 W0_w8 X0_w8 X1_w8 G0_w8 HB8 hb Bw9
  go_wp2_with fail
  refine (toIntS_k x1 a1 _ c1 (fun _ => True) _ (Kd.below H1.out HB9.out) Z1.out).mono ?_
  rintro e w10 ⟨bE1, rfl, ho, hlt, hb⟩
  clear hlt
  obtain ⟨LE1, hLE1⟩ : ∃ L, L = w9.heap.size := ⟨_, rfl⟩
  obtain ⟨ME1, hME1⟩ : ∃ M, M = w10.heap.size := ⟨_, rfl⟩
  have NE1 : Hid ((kRow kInt).is true w10 (fun k => LE1 ≤ k ∧ k < ME1) [.slice bE1 n1 n1] x1) := Kd.tight _ ho (fun k hk hk' => ⟨by have hz : _ ≤ k := hk'; omega, by omega⟩)
  clear ho
  have Bw10 : Below w9.heap.size w9 w10 := hb
  have zzw10 := Bw10.size
  have Ya0_0_w10 : w10.cell? ⟨w.heap.size, 0, none⟩ = some (.slice a0_0 f0_0.length c0_0) := cell_later Bw10 Ya0_0_w9
  have Ya0_1_w10 : w10.cell? ⟨w.heap.size, 1, none⟩ = some (.int .i64 f0_1) := cell_later Bw10 Ya0_1_w9
  have Ya0_2_w10 : w10.cell? ⟨w.heap.size, 2, none⟩ = some (.int .i64 f0_2) := cell_later Bw10 Ya0_2_w9
  have ZAa0_w10 : w.heap.size < w10.heap.size := World.block_lt_of_cell? _ _ Ya0_0_w10
  have YW0_0_w10 : w10.cell? ⟨w4.heap.size, 0, none⟩ = some (.slice bW0_0 y0_0.length dW0_0) := cell_later Bw10 YW0_0_w9
  have YW0_1_w10 : w10.cell? ⟨w4.heap.size, 1, none⟩ = some (.int .i64 y0_1) := cell_later Bw10 YW0_1_w9
  have YW0_2_w10 : w10.cell? ⟨w4.heap.size, 2, none⟩ = some (.int .i64 y0_2) := cell_later Bw10 YW0_2_w9
  have ZAW0_w10 : w4.heap.size < w10.heap.size := World.block_lt_of_cell? _ _ YW0_0_w10
  have YX0_0_w10 : w10.cell? ⟨w5.heap.size, 0, none⟩ = some (.slice bX0_0 f0_0.length dX0_0) := cell_later Bw10 YX0_0_w9
  have YX0_1_w10 : w10.cell? ⟨w5.heap.size, 1, none⟩ = some (.int .i64 f0_1) := cell_later Bw10 YX0_1_w9
  have YX0_2_w10 : w10.cell? ⟨w5.heap.size, 2, none⟩ = some (.int .i64 f0_2) := cell_later Bw10 YX0_2_w9
  have ZAX0_w10 : w5.heap.size < w10.heap.size := World.block_lt_of_cell? _ _ YX0_0_w10
  have YG0_0_w10 : w10.cell? ⟨w7.heap.size, 0, none⟩ = some (.slice bG0_0 y0_0.length dG0_0) := cell_later Bw10 YG0_0_w9
  have YG0_1_w10 : w10.cell? ⟨w7.heap.size, 1, none⟩ = some (.int .i64 y0_1) := cell_later Bw10 YG0_1_w9
  have YG0_2_w10 : w10.cell? ⟨w7.heap.size, 2, none⟩ = some (.int .i64 y0_2) := cell_later Bw10 YG0_2_w9
  have ZAG0_w10 : w7.heap.size < w10.heap.size := World.block_lt_of_cell? _ _ YG0_0_w10
  have W0_w10 : Hid (kVoting.is true w10 (fun k => LW0 ≤ k ∧ k < MW0) [.slice bW0_0 y0_0.length dW0_0, .int .i64 y0_1, .int .i64 y0_2] (y0_0, y0_1, y0_2)) := Kd.below W0_w9.out Bw10
  have X0_w10 : Hid (kVoting.is true w10 (fun k => LX0 ≤ k ∧ k < MX0) [.slice bX0_0 f0_0.length dX0_0, .int .i64 f0_1, .int .i64 f0_2] (f0_0, f0_1, f0_2)) := Kd.below X0_w9.out Bw10
  have X1_w10 : Hid ((kRow kInt).is true w10 (fun k => LX1 ≤ k ∧ k < MX1) [.slice bX1 n1 n1] x1) := Kd.below X1_w9.out Bw10
  have G0_w10 : Hid (kVoting.is true w10 (fun k => LG0 ≤ k ∧ k < MG0) [.slice bG0_0 y0_0.length dG0_0, .int .i64 y0_1, .int .i64 y0_2] (y0_0, y0_1, y0_2)) := Kd.below G0_w9.out Bw10
  have HB10 : Hid (Below w.heap.size w w10) := HB9.out.trans (Bw10.mono HB9.out.size)
  clear Ya0_0_w9 Ya0_1_w9 Ya0_2_w9 YW0_0_w9 YW0_1_w9 YW0_2_w9 YX0_0_w9 YX0_1_w9 YX0_2_w9 YG0_0_w9 YG0_1_w9 YG0_2_w9 W0_w9 X0_w9 X1_w9 G0_w9 HB9 hb Bw10
  have PTE1 : w.heap.size ≤ LE1 ∧ ME1 ≤ w10.heap.size ∧ w.heap.size < LE1 ∧ Ms0 ≤ LE1 ∧ Ms1 ≤ LE1 ∧ MW0 ≤ LE1 ∧ w4.heap.size < LE1 ∧ MX0 ≤ LE1 ∧ w5.heap.size < LE1 ∧ MX1 ≤ LE1 ∧ MG0 ≤ LE1 ∧ w7.heap.size < LE1 := by omega
  clear hLE1 hME1
  go_wp2_with fail
  refine (eqIntS_k x1 bX1 bE1 _ n1 n1 _ _ _ (Kd.read _ X1_w10.out) (Kd.read _ NE1.out)).mono ?_
  rintro e w11 ⟨rfl, hb⟩
  have Bw11 : Below w10.heap.size w10 w11 := hb
  have zzw11 := Bw11.size
  have Ya0_0_w11 : w11.cell? ⟨w.heap.size, 0, none⟩ = some (.slice a0_0 f0_0.length c0_0) := cell_later Bw11 Ya0_0_w10
  have Ya0_1_w11 : w11.cell? ⟨w.heap.size, 1, none⟩ = some (.int .i64 f0_1) := cell_later Bw11 Ya0_1_w10
  have Ya0_2_w11 : w11.cell? ⟨w.heap.size, 2, none⟩ = some (.int .i64 f0_2) := cell_later Bw11 Ya0_2_w10
  have ZAa0_w11 : w.heap.size < w11.heap.size := World.block_lt_of_cell? _ _ Ya0_0_w11
  have YW0_0_w11 : w11.cell? ⟨w4.heap.size, 0, none⟩ = some (.slice bW0_0 y0_0.length dW0_0) := cell_later Bw11 YW0_0_w10
  have YW0_1_w11 : w11.cell? ⟨w4.heap.size, 1, none⟩ = some (.int .i64 y0_1) := cell_later Bw11 YW0_1_w10
  have YW0_2_w11 : w11.cell? ⟨w4.heap.size, 2, none⟩ = some (.int .i64 y0_2) := cell_later Bw11 YW0_2_w10
  have ZAW0_w11 : w4.heap.size < w11.heap.size := World.block_lt_of_cell? _ _ YW0_0_w11
  have YX0_0_w11 : w11.cell? ⟨w5.heap.size, 0, none⟩ = some (.slice bX0_0 f0_0.length dX0_0) := cell_later Bw11 YX0_0_w10
  have YX0_1_w11 : w11.cell? ⟨w5.heap.size, 1, none⟩ = some (.int .i64 f0_1) := cell_later Bw11 YX0_1_w10
  have YX0_2_w11 : w11.cell? ⟨w5.heap.size, 2, none⟩ = some (.int .i64 f0_2) := cell_later Bw11 YX0_2_w10
  have ZAX0_w11 : w5.heap.size < w11.heap.size := World.block_lt_of_cell? _ _ YX0_0_w11
  have YG0_0_w11 : w11.cell? ⟨w7.heap.size, 0, none⟩ = some (.slice bG0_0 y0_0.length dG0_0) := cell_later Bw11 YG0_0_w10
  have YG0_1_w11 : w11.cell? ⟨w7.heap.size, 1, none⟩ = some (.int .i64 y0_1) := cell_later Bw11 YG0_1_w10
  have YG0_2_w11 : w11.cell? ⟨w7.heap.size, 2, none⟩ = some (.int .i64 y0_2) := cell_later Bw11 YG0_2_w10
  have ZAG0_w11 : w7.heap.size < w11.heap.size := World.block_lt_of_cell? _ _ YG0_0_w11
  have W0_w11 : Hid (kVoting.is true w11 (fun k => LW0 ≤ k ∧ k < MW0) [.slice bW0_0 y0_0.length dW0_0, .int .i64 y0_1, .int .i64 y0_2] (y0_0, y0_1, y0_2)) := Kd.below W0_w10.out Bw11
  have X0_w11 : Hid (kVoting.is true w11 (fun k => LX0 ≤ k ∧ k < MX0) [.slice bX0_0 f0_0.length dX0_0, .int .i64 f0_1, .int .i64 f0_2] (f0_0, f0_1, f0_2)) := Kd.below X0_w10.out Bw11
  have X1_w11 : Hid ((kRow kInt).is true w11 (fun k => LX1 ≤ k ∧ k < MX1) [.slice bX1 n1 n1] x1) := Kd.below X1_w10.out Bw11
  have G0_w11 : Hid (kVoting.is true w11 (fun k => LG0 ≤ k ∧ k < MG0) [.slice bG0_0 y0_0.length dG0_0, .int .i64 y0_1, .int .i64 y0_2] (y0_0, y0_1, y0_2)) := Kd.below G0_w10.out Bw11
  have HB11 : Hid (Below w.heap.size w w11) := HB10.out.trans (Bw11.mono HB10.out.size)
  clear Ya0_0_w10 Ya0_1_w10 Ya0_2_w10 YW0_0_w10 YW0_1_w10 YW0_2_w10 YX0_0_w10 YX0_1_w10 YX0_2_w10 YG0_0_w10 YG0_1_w10 YG0_2_w10 W0_w10 X0_w10 X1_w10 G0_w10 HB10 hb Bw11
  have CB0 : Hid (hVoting_cnt (f0_0, f0_1, f0_2) ≤ 2 ^ 26) := cnt_Voting Z0.out
  obtain ⟨kc0, hkc0⟩ : ∃ k, k = hVoting_cnt (f0_0, f0_1, f0_2) := ⟨_, rfl⟩
  have kb0 : kc0 ≤ 2 ^ 26 := by have := CB0.out; omega
  have HKC0 : Hid (kc0 = hVoting_cnt (f0_0, f0_1, f0_2)) := hkc0
  clear hkc0
  go_wp2_with fail
  refine (markVoting_k (f0_0, f0_1, f0_2) [.slice bX0_0 f0_0.length dX0_0, .int .i64 f0_1, .int .i64 f0_2] _ _ _ (by omega) (by have := HKC0.out; omega) X0_w11.out).mono ?_
  rw [← HKC0.out]
  rintro e w12 ⟨rfl, hb, hr⟩
  clear hr
  have Bw12 : KeptO (fun k => LX0 ≤ k ∧ k < MX0) w11 w12 := hb
  have zzw12 := Bw12.size
  have Ya0_0_w12 : w12.cell? ⟨w.heap.size, 0, none⟩ = some (.slice a0_0 f0_0.length c0_0) := cell_keptO Bw12 Ya0_0_w11 (fun h => by omega)
  have Ya0_1_w12 : w12.cell? ⟨w.heap.size, 1, none⟩ = some (.int .i64 f0_1) := cell_keptO Bw12 Ya0_1_w11 (fun h => by omega)
  have Ya0_2_w12 : w12.cell? ⟨w.heap.size, 2, none⟩ = some (.int .i64 f0_2) := cell_keptO Bw12 Ya0_2_w11 (fun h => by omega)
  have ZAa0_w12 : w.heap.size < w12.heap.size := World.block_lt_of_cell? _ _ Ya0_0_w12
  have YW0_0_w12 : w12.cell? ⟨w4.heap.size, 0, none⟩ = some (.slice bW0_0 y0_0.length dW0_0) := cell_keptO Bw12 YW0_0_w11 (fun h => by omega)
  have YW0_1_w12 : w12.cell? ⟨w4.heap.size, 1, none⟩ = some (.int .i64 y0_1) := cell_keptO Bw12 YW0_1_w11 (fun h => by omega)
  have YW0_2_w12 : w12.cell? ⟨w4.heap.size, 2, none⟩ = some (.int .i64 y0_2) := cell_keptO Bw12 YW0_2_w11 (fun h => by omega)
  have ZAW0_w12 : w4.heap.size < w12.heap.size := World.block_lt_of_cell? _ _ YW0_0_w12
  have YG0_0_w12 : w12.cell? ⟨w7.heap.size, 0, none⟩ = some (.slice bG0_0 y0_0.length dG0_0) := cell_keptO Bw12 YG0_0_w11 (fun h => by omega)
  have YG0_1_w12 : w12.cell? ⟨w7.heap.size, 1, none⟩ = some (.int .i64 y0_1) := cell_keptO Bw12 YG0_1_w11 (fun h => by omega)
  have YG0_2_w12 : w12.cell? ⟨w7.heap.size, 2, none⟩ = some (.int .i64 y0_2) := cell_keptO Bw12 YG0_2_w11 (fun h => by omega)
  have ZAG0_w12 : w7.heap.size < w12.heap.size := World.block_lt_of_cell? _ _ YG0_0_w12
  have W0_w12 : Hid (kVoting.is true w12 (fun k => LW0 ≤ k ∧ k < MW0) [.slice bW0_0 y0_0.length dW0_0, .int .i64 y0_1, .int .i64 y0_2] (y0_0, y0_1, y0_2)) := Kd.kept W0_w11.out Bw12 (fun k _ h1 h2 => by omega)
  have X1_w12 : Hid ((kRow kInt).is true w12 (fun k => LX1 ≤ k ∧ k < MX1) [.slice bX1 n1 n1] x1) := Kd.kept X1_w11.out Bw12 (fun k _ h1 h2 => by omega)
  have G0_w12 : Hid (kVoting.is true w12 (fun k => LG0 ≤ k ∧ k < MG0) [.slice bG0_0 y0_0.length dG0_0, .int .i64 y0_1, .int .i64 y0_2] (y0_0, y0_1, y0_2)) := Kd.kept G0_w11.out Bw12 (fun k _ h1 h2 => by omega)
  have HB12 : Hid (Below w.heap.size w w12) := HB11.out.trans ((Bw12.below (B := w.heap.size) (HB11.out.size) (fun k hk h => by omega)))
  clear Ya0_0_w11 Ya0_1_w11 Ya0_2_w11 YW0_0_w11 YW0_1_w11 YW0_2_w11 YX0_0_w11 YX0_1_w11 YX0_2_w11 YG0_0_w11 YG0_1_w11 YG0_2_w11 W0_w11 X1_w11 G0_w11 HB11 hb Bw12
  have CB1 : Hid (sums kInt.cnt x1 ≤ 2 ^ 26) := cnt_IntS Z1.out
  obtain ⟨kc1, hkc1⟩ : ∃ k, k = sums kInt.cnt x1 := ⟨_, rfl⟩
  have kb1 : kc1 ≤ 2 ^ 26 := by have := CB1.out; omega
  have HKC1 : Hid (kc1 = sums kInt.cnt x1) := hkc1
  clear hkc1
  go_wp2_with fail
  refine (markIntS_k x1 _ _ _ _ _ _ (by omega) (by have := HKC1.out; omega) X1_w12.out).mono ?_
  rw [← HKC1.out]
  rintro e w13 ⟨rfl, hb, hr⟩
  clear hr
  have Bw13 : KeptO (fun k => LX1 ≤ k ∧ k < MX1) w12 w13 := hb
  have zzw13 := Bw13.size
  have Ya0_0_w13 : w13.cell? ⟨w.heap.size, 0, none⟩ = some (.slice a0_0 f0_0.length c0_0) := cell_keptO Bw13 Ya0_0_w12 (fun h => by omega)
  have Ya0_1_w13 : w13.cell? ⟨w.heap.size, 1, none⟩ = some (.int .i64 f0_1) := cell_keptO Bw13 Ya0_1_w12 (fun h => by omega)
  have Ya0_2_w13 : w13.cell? ⟨w.heap.size, 2, none⟩ = some (.int .i64 f0_2) := cell_keptO Bw13 Ya0_2_w12 (fun h => by omega)
  have ZAa0_w13 : w.heap.size < w13.heap.size := World.block_lt_of_cell? _ _ Ya0_0_w13
  have YW0_0_w13 : w13.cell? ⟨w4.heap.size, 0, none⟩ = some (.slice bW0_0 y0_0.length dW0_0) := cell_keptO Bw13 YW0_0_w12 (fun h => by omega)
  have YW0_1_w13 : w13.cell? ⟨w4.heap.size, 1, none⟩ = some (.int .i64 y0_1) := cell_keptO Bw13 YW0_1_w12 (fun h => by omega)
  have YW0_2_w13 : w13.cell? ⟨w4.heap.size, 2, none⟩ = some (.int .i64 y0_2) := cell_keptO Bw13 YW0_2_w12 (fun h => by omega)
  have ZAW0_w13 : w4.heap.size < w13.heap.size := World.block_lt_of_cell? _ _ YW0_0_w13
  have YG0_0_w13 : w13.cell? ⟨w7.heap.size, 0, none⟩ = some (.slice bG0_0 y0_0.length dG0_0) := cell_keptO Bw13 YG0_0_w12 (fun h => by omega)
  have YG0_1_w13 : w13.cell? ⟨w7.heap.size, 1, none⟩ = some (.int .i64 y0_1) := cell_keptO Bw13 YG0_1_w12 (fun h => by omega)
  have YG0_2_w13 : w13.cell? ⟨w7.heap.size, 2, none⟩ = some (.int .i64 y0_2) := cell_keptO Bw13 YG0_2_w12 (fun h => by omega)
  have ZAG0_w13 : w7.heap.size < w13.heap.size := World.block_lt_of_cell? _ _ YG0_0_w13
  have W0_w13 : Hid (kVoting.is true w13 (fun k => LW0 ≤ k ∧ k < MW0) [.slice bW0_0 y0_0.length dW0_0, .int .i64 y0_1, .int .i64 y0_2] (y0_0, y0_1, y0_2)) := Kd.kept W0_w12.out Bw13 (fun k _ h1 h2 => by omega)
  have G0_w13 : Hid (kVoting.is true w13 (fun k => LG0 ≤ k ∧ k < MG0) [.slice bG0_0 y0_0.length dG0_0, .int .i64 y0_1, .int .i64 y0_2] (y0_0, y0_1, y0_2)) := Kd.kept G0_w12.out Bw13 (fun k _ h1 h2 => by omega)
  have HB13 : Hid (Below w.heap.size w w13) := HB12.out.trans ((Bw13.below (B := w.heap.size) (HB12.out.size) (fun k hk h => by omega)))
  clear Ya0_0_w12 Ya0_1_w12 Ya0_2_w12 YW0_0_w12 YW0_1_w12 YW0_2_w12 YG0_0_w12 YG0_1_w12 YG0_2_w12 W0_w12 G0_w12 HB12 hb Bw13
  go_wp2_with fail
  refine (eqVoting_k (y0_0, y0_1, y0_2) [.slice bG0_0 y0_0.length dG0_0, .int .i64 y0_1, .int .i64 y0_2] [.slice bW0_0 y0_0.length dW0_0, .int .i64 y0_1, .int .i64 y0_2] _ _ _ (Kd.read _ G0_w13.out) (Kd.read _ W0_w13.out)).mono ?_
  rintro e w14 ⟨rfl, hb⟩
  have Bw14 : Below w13.heap.size w13 w14 := hb
  have zzw14 := Bw14.size
  have Ya0_0_w14 : w14.cell? ⟨w.heap.size, 0, none⟩ = some (.slice a0_0 f0_0.length c0_0) := cell_later Bw14 Ya0_0_w13
  have Ya0_1_w14 : w14.cell? ⟨w.heap.size, 1, none⟩ = some (.int .i64 f0_1) := cell_later Bw14 Ya0_1_w13
  have Ya0_2_w14 : w14.cell? ⟨w.heap.size, 2, none⟩ = some (.int .i64 f0_2) := cell_later Bw14 Ya0_2_w13
  have ZAa0_w14 : w.heap.size < w14.heap.size := World.block_lt_of_cell? _ _ Ya0_0_w14
  have YW0_0_w14 : w14.cell? ⟨w4.heap.size, 0, none⟩ = some (.slice bW0_0 y0_0.length dW0_0) := cell_later Bw14 YW0_0_w13
  have YW0_1_w14 : w14.cell? ⟨w4.heap.size, 1, none⟩ = some (.int .i64 y0_1) := cell_later Bw14 YW0_1_w13
  have YW0_2_w14 : w14.cell? ⟨w4.heap.size, 2, none⟩ = some (.int .i64 y0_2) := cell_later Bw14 YW0_2_w13
  have ZAW0_w14 : w4.heap.size < w14.heap.size := World.block_lt_of_cell? _ _ YW0_0_w14
  have YG0_0_w14 : w14.cell? ⟨w7.heap.size, 0, none⟩ = some (.slice bG0_0 y0_0.length dG0_0) := cell_later Bw14 YG0_0_w13
  have YG0_1_w14 : w14.cell? ⟨w7.heap.size, 1, none⟩ = some (.int .i64 y0_1) := cell_later Bw14 YG0_1_w13
  have YG0_2_w14 : w14.cell? ⟨w7.heap.size, 2, none⟩ = some (.int .i64 y0_2) := cell_later Bw14 YG0_2_w13
  have ZAG0_w14 : w7.heap.size < w14.heap.size := World.block_lt_of_cell? _ _ YG0_0_w14
  have W0_w14 : Hid (kVoting.is true w14 (fun k => LW0 ≤ k ∧ k < MW0) [.slice bW0_0 y0_0.length dW0_0, .int .i64 y0_1, .int .i64 y0_2] (y0_0, y0_1, y0_2)) := Kd.below W0_w13.out Bw14
  have G0_w14 : Hid (kVoting.is true w14 (fun k => LG0 ≤ k ∧ k < MG0) [.slice bG0_0 y0_0.length dG0_0, .int .i64 y0_1, .int .i64 y0_2] (y0_0, y0_1, y0_2)) := Kd.below G0_w13.out Bw14
  have HB14 : Hid (Below w.heap.size w w14) := HB13.out.trans (Bw14.mono HB13.out.size)
  clear Ya0_0_w13 Ya0_1_w13 Ya0_2_w13 YW0_0_w13 YW0_1_w13 YW0_2_w13 YG0_0_w13 YG0_1_w13 YG0_2_w13 W0_w13 G0_w13 HB13 hb Bw14
  obtain ⟨kg0, hkg0⟩ : ∃ k, k = hVoting_cnt (y0_0, y0_1, y0_2) := ⟨_, rfl⟩
  have kgb0 : kg0 ≤ 2 ^ 26 := by have := KC0.out; omega
  have HKG0 : Hid (kg0 = hVoting_cnt (y0_0, y0_1, y0_2)) := hkg0
  clear hkg0
  go_wp2_with fail
  refine (markVoting_k (y0_0, y0_1, y0_2) [.slice bG0_0 y0_0.length dG0_0, .int .i64 y0_1, .int .i64 y0_2] _ _ _ (by omega) (by have := HKG0.out; omega) G0_w14.out).mono ?_
  rw [← HKG0.out]
  rintro e w15 ⟨rfl, hb, hr⟩
  have NG0' : Hid (kVoting.is true w15 (fun k => LG0 ≤ k ∧ k < MG0) [.slice bG0_0 y0_0.length dG0_0, .int .i64 y0_1, .int .i64 y0_2] (hVoting_mrk (y0_0, y0_1, y0_2) 1)) := hr
  clear hr
  have Bw15 : KeptO (fun k => LG0 ≤ k ∧ k < MG0) w14 w15 := hb
  have zzw15 := Bw15.size
  have Ya0_0_w15 : w15.cell? ⟨w.heap.size, 0, none⟩ = some (.slice a0_0 f0_0.length c0_0) := cell_keptO Bw15 Ya0_0_w14 (fun h => by omega)
  have Ya0_1_w15 : w15.cell? ⟨w.heap.size, 1, none⟩ = some (.int .i64 f0_1) := cell_keptO Bw15 Ya0_1_w14 (fun h => by omega)
  have Ya0_2_w15 : w15.cell? ⟨w.heap.size, 2, none⟩ = some (.int .i64 f0_2) := cell_keptO Bw15 Ya0_2_w14 (fun h => by omega)
  have ZAa0_w15 : w.heap.size < w15.heap.size := World.block_lt_of_cell? _ _ Ya0_0_w15
  have YW0_0_w15 : w15.cell? ⟨w4.heap.size, 0, none⟩ = some (.slice bW0_0 y0_0.length dW0_0) := cell_keptO Bw15 YW0_0_w14 (fun h => by omega)
  have YW0_1_w15 : w15.cell? ⟨w4.heap.size, 1, none⟩ = some (.int .i64 y0_1) := cell_keptO Bw15 YW0_1_w14 (fun h => by omega)
  have YW0_2_w15 : w15.cell? ⟨w4.heap.size, 2, none⟩ = some (.int .i64 y0_2) := cell_keptO Bw15 YW0_2_w14 (fun h => by omega)
  have ZAW0_w15 : w4.heap.size < w15.heap.size := World.block_lt_of_cell? _ _ YW0_0_w15
  have YG0_0_w15 : w15.cell? ⟨w7.heap.size, 0, none⟩ = some (.slice bG0_0 y0_0.length dG0_0) := cell_keptO Bw15 YG0_0_w14 (fun h => by omega)
  have YG0_1_w15 : w15.cell? ⟨w7.heap.size, 1, none⟩ = some (.int .i64 y0_1) := cell_keptO Bw15 YG0_1_w14 (fun h => by omega)
  have YG0_2_w15 : w15.cell? ⟨w7.heap.size, 2, none⟩ = some (.int .i64 y0_2) := cell_keptO Bw15 YG0_2_w14 (fun h => by omega)
  have ZAG0_w15 : w7.heap.size < w15.heap.size := World.block_lt_of_cell? _ _ YG0_0_w15
  have W0_w15 : Hid (kVoting.is true w15 (fun k => LW0 ≤ k ∧ k < MW0) [.slice bW0_0 y0_0.length dW0_0, .int .i64 y0_1, .int .i64 y0_2] (y0_0, y0_1, y0_2)) := Kd.kept W0_w14.out Bw15 (fun k _ h1 h2 => by omega)
  have HB15 : Hid (Below w.heap.size w w15) := HB14.out.trans ((Bw15.below (B := w.heap.size) (HB14.out.size) (fun k hk h => by omega)))
  clear Ya0_0_w14 Ya0_1_w14 Ya0_2_w14 YW0_0_w14 YW0_1_w14 YW0_2_w14 YG0_0_w14 YG0_1_w14 YG0_2_w14 W0_w14 HB14 hb Bw15
  go_wp2_with fail
  refine (heldVoting_k (y0_0, y0_1, y0_2) [.slice bG0_0 y0_0.length dG0_0, .int .i64 y0_1, .int .i64 y0_2] _ _ _ (by omega) (by have := HKG0.out; omega) (Kd.read _ NG0'.out)).mono ?_
  rw [← HKG0.out]
  rintro e w16 ⟨rfl, hb⟩
  have Bw16 : Below w15.heap.size w15 w16 := hb
  have zzw16 := Bw16.size
  have Ya0_0_w16 : w16.cell? ⟨w.heap.size, 0, none⟩ = some (.slice a0_0 f0_0.length c0_0) := cell_later Bw16 Ya0_0_w15
  have Ya0_1_w16 : w16.cell? ⟨w.heap.size, 1, none⟩ = some (.int .i64 f0_1) := cell_later Bw16 Ya0_1_w15
  have Ya0_2_w16 : w16.cell? ⟨w.heap.size, 2, none⟩ = some (.int .i64 f0_2) := cell_later Bw16 Ya0_2_w15
  have ZAa0_w16 : w.heap.size < w16.heap.size := World.block_lt_of_cell? _ _ Ya0_0_w16
  have YW0_0_w16 : w16.cell? ⟨w4.heap.size, 0, none⟩ = some (.slice bW0_0 y0_0.length dW0_0) := cell_later Bw16 YW0_0_w15
  have YW0_1_w16 : w16.cell? ⟨w4.heap.size, 1, none⟩ = some (.int .i64 y0_1) := cell_later Bw16 YW0_1_w15
  have YW0_2_w16 : w16.cell? ⟨w4.heap.size, 2, none⟩ = some (.int .i64 y0_2) := cell_later Bw16 YW0_2_w15
  have ZAW0_w16 : w4.heap.size < w16.heap.size := World.block_lt_of_cell? _ _ YW0_0_w16
  have YG0_0_w16 : w16.cell? ⟨w7.heap.size, 0, none⟩ = some (.slice bG0_0 y0_0.length dG0_0) := cell_later Bw16 YG0_0_w15
  have YG0_1_w16 : w16.cell? ⟨w7.heap.size, 1, none⟩ = some (.int .i64 y0_1) := cell_later Bw16 YG0_1_w15
  have YG0_2_w16 : w16.cell? ⟨w7.heap.size, 2, none⟩ = some (.int .i64 y0_2) := cell_later Bw16 YG0_2_w15
  have ZAG0_w16 : w7.heap.size < w16.heap.size := World.block_lt_of_cell? _ _ YG0_0_w16
  have W0_w16 : Hid (kVoting.is true w16 (fun k => LW0 ≤ k ∧ k < MW0) [.slice bW0_0 y0_0.length dW0_0, .int .i64 y0_1, .int .i64 y0_2] (y0_0, y0_1, y0_2)) := Kd.below W0_w15.out Bw16
  have G0_w16 : Hid (kVoting.is true w16 (fun k => LG0 ≤ k ∧ k < MG0) [.slice bG0_0 y0_0.length dG0_0, .int .i64 y0_1, .int .i64 y0_2] (hVoting_mrk (y0_0, y0_1, y0_2) 1)) := Kd.below NG0'.out Bw16
  have HB16 : Hid (Below w.heap.size w w16) := HB15.out.trans (Bw16.mono HB15.out.size)
  clear Ya0_0_w15 Ya0_1_w15 Ya0_2_w15 YW0_0_w15 YW0_1_w15 YW0_2_w15 YG0_0_w15 YG0_1_w15 YG0_2_w15 W0_w15 NG0' HB15 hb Bw16
  go_wp2_with fail
  refine (toVoting_k (f0_0, f0_1, f0_2) [.slice a0_0 f0_0.length c0_0, .int .i64 f0_1, .int .i64 f0_2] (fun _ => True) _ (Kd.below H0.out HB16.out) Z0.out).mono ?_
  rintro e w17 ⟨Dt0, rfl, ho, hb⟩
  obtain ⟨bt0_0, dt0_0, _, rfl, _, _, _, _, _⟩ := kVoting_open ho
  obtain ⟨Lt0, hLt0⟩ : ∃ L, L = w16.heap.size := ⟨_, rfl⟩
  obtain ⟨Mt0, hMt0⟩ : ∃ M, M = w17.heap.size := ⟨_, rfl⟩
  have Nt0 : Hid (kVoting.is true w17 (fun k => Lt0 ≤ k ∧ k < Mt0) [.slice bt0_0 f0_0.length dt0_0, .int .i64 f0_1, .int .i64 f0_2] (f0_0, f0_1, f0_2)) := Kd.tight _ ho (fun k hk hk' => ⟨by have hz : _ ≤ k := hk'; omega, by omega⟩)
  clear ho
  have Bw17 : Below w16.heap.size w16 w17 := hb
  have zzw17 := Bw17.size
  have Ya0_0_w17 : w17.cell? ⟨w.heap.size, 0, none⟩ = some (.slice a0_0 f0_0.length c0_0) := cell_later Bw17 Ya0_0_w16
  have Ya0_1_w17 : w17.cell? ⟨w.heap.size, 1, none⟩ = some (.int .i64 f0_1) := cell_later Bw17 Ya0_1_w16
  have Ya0_2_w17 : w17.cell? ⟨w.heap.size, 2, none⟩ = some (.int .i64 f0_2) := cell_later Bw17 Ya0_2_w16
  have ZAa0_w17 : w.heap.size < w17.heap.size := World.block_lt_of_cell? _ _ Ya0_0_w17
  have YW0_0_w17 : w17.cell? ⟨w4.heap.size, 0, none⟩ = some (.slice bW0_0 y0_0.length dW0_0) := cell_later Bw17 YW0_0_w16
  have YW0_1_w17 : w17.cell? ⟨w4.heap.size, 1, none⟩ = some (.int .i64 y0_1) := cell_later Bw17 YW0_1_w16
  have YW0_2_w17 : w17.cell? ⟨w4.heap.size, 2, none⟩ = some (.int .i64 y0_2) := cell_later Bw17 YW0_2_w16
  have ZAW0_w17 : w4.heap.size < w17.heap.size := World.block_lt_of_cell? _ _ YW0_0_w17
  have YG0_0_w17 : w17.cell? ⟨w7.heap.size, 0, none⟩ = some (.slice bG0_0 y0_0.length dG0_0) := cell_later Bw17 YG0_0_w16
  have YG0_1_w17 : w17.cell? ⟨w7.heap.size, 1, none⟩ = some (.int .i64 y0_1) := cell_later Bw17 YG0_1_w16
  have YG0_2_w17 : w17.cell? ⟨w7.heap.size, 2, none⟩ = some (.int .i64 y0_2) := cell_later Bw17 YG0_2_w16
  have ZAG0_w17 : w7.heap.size < w17.heap.size := World.block_lt_of_cell? _ _ YG0_0_w17
  have W0_w17 : Hid (kVoting.is true w17 (fun k => LW0 ≤ k ∧ k < MW0) [.slice bW0_0 y0_0.length dW0_0, .int .i64 y0_1, .int .i64 y0_2] (y0_0, y0_1, y0_2)) := Kd.below W0_w16.out Bw17
  have G0_w17 : Hid (kVoting.is true w17 (fun k => LG0 ≤ k ∧ k < MG0) [.slice bG0_0 y0_0.length dG0_0, .int .i64 y0_1, .int .i64 y0_2] (hVoting_mrk (y0_0, y0_1, y0_2) 1)) := Kd.below G0_w16.out Bw17
  have HB17 : Hid (Below w.heap.size w w17) := HB16.out.trans (Bw17.mono HB16.out.size)
  clear Ya0_0_w16 Ya0_1_w16 Ya0_2_w16 YW0_0_w16 YW0_1_w16 YW0_2_w16 YG0_0_w16 YG0_1_w16 YG0_2_w16 W0_w16 G0_w16 HB16 hb Bw17
  have PTt0 : w.heap.size ≤ Lt0 ∧ Mt0 ≤ w17.heap.size ∧ w.heap.size < Lt0 ∧ Ms0 ≤ Lt0 ∧ Ms1 ≤ Lt0 ∧ MW0 ≤ Lt0 ∧ w4.heap.size < Lt0 ∧ MX0 ≤ Lt0 ∧ w5.heap.size < Lt0 ∧ MX1 ≤ Lt0 ∧ MG0 ≤ Lt0 ∧ w7.heap.size < Lt0 ∧ ME1 ≤ Lt0 := by omega
  clear hLt0 hMt0
  go_wp2_with fail
  refine (toIntS_k x1 a1 _ c1 (fun _ => True) _ (Kd.below H1.out HB17.out) Z1.out).mono ?_
  rintro e w18 ⟨bt1, rfl, ho, hlt, hb⟩
  clear hlt
  obtain ⟨Lt1, hLt1⟩ : ∃ L, L = w17.heap.size := ⟨_, rfl⟩
  obtain ⟨Mt1, hMt1⟩ : ∃ M, M = w18.heap.size := ⟨_, rfl⟩
  have Nt1 : Hid ((kRow kInt).is true w18 (fun k => Lt1 ≤ k ∧ k < Mt1) [.slice bt1 n1 n1] x1) := Kd.tight _ ho (fun k hk hk' => ⟨by have hz : _ ≤ k := hk'; omega, by omega⟩)
  clear ho
  have Bw18 : Below w17.heap.size w17 w18 := hb
  have zzw18 := Bw18.size
  have Ya0_0_w18 : w18.cell? ⟨w.heap.size, 0, none⟩ = some (.slice a0_0 f0_0.length c0_0) := cell_later Bw18 Ya0_0_w17
  have Ya0_1_w18 : w18.cell? ⟨w.heap.size, 1, none⟩ = some (.int .i64 f0_1) := cell_later Bw18 Ya0_1_w17
  have Ya0_2_w18 : w18.cell? ⟨w.heap.size, 2, none⟩ = some (.int .i64 f0_2) := cell_later Bw18 Ya0_2_w17
  have ZAa0_w18 : w.heap.size < w18.heap.size := World.block_lt_of_cell? _ _ Ya0_0_w18
  have YW0_0_w18 : w18.cell? ⟨w4.heap.size, 0, none⟩ = some (.slice bW0_0 y0_0.length dW0_0) := cell_later Bw18 YW0_0_w17
  have YW0_1_w18 : w18.cell? ⟨w4.heap.size, 1, none⟩ = some (.int .i64 y0_1) := cell_later Bw18 YW0_1_w17
  have YW0_2_w18 : w18.cell? ⟨w4.heap.size, 2, none⟩ = some (.int .i64 y0_2) := cell_later Bw18 YW0_2_w17
  have ZAW0_w18 : w4.heap.size < w18.heap.size := World.block_lt_of_cell? _ _ YW0_0_w18
  have YG0_0_w18 : w18.cell? ⟨w7.heap.size, 0, none⟩ = some (.slice bG0_0 y0_0.length dG0_0) := cell_later Bw18 YG0_0_w17
  have YG0_1_w18 : w18.cell? ⟨w7.heap.size, 1, none⟩ = some (.int .i64 y0_1) := cell_later Bw18 YG0_1_w17
  have YG0_2_w18 : w18.cell? ⟨w7.heap.size, 2, none⟩ = some (.int .i64 y0_2) := cell_later Bw18 YG0_2_w17
  have ZAG0_w18 : w7.heap.size < w18.heap.size := World.block_lt_of_cell? _ _ YG0_0_w18
  have W0_w18 : Hid (kVoting.is true w18 (fun k => LW0 ≤ k ∧ k < MW0) [.slice bW0_0 y0_0.length dW0_0, .int .i64 y0_1, .int .i64 y0_2] (y0_0, y0_1, y0_2)) := Kd.below W0_w17.out Bw18
  have G0_w18 : Hid (kVoting.is true w18 (fun k => LG0 ≤ k ∧ k < MG0) [.slice bG0_0 y0_0.length dG0_0, .int .i64 y0_1, .int .i64 y0_2] (hVoting_mrk (y0_0, y0_1, y0_2) 1)) := Kd.below G0_w17.out Bw18
  have t0_w18 : Hid (kVoting.is true w18 (fun k => Lt0 ≤ k ∧ k < Mt0) [.slice bt0_0 f0_0.length dt0_0, .int .i64 f0_1, .int .i64 f0_2] (f0_0, f0_1, f0_2)) := Kd.below Nt0.out Bw18
  have HB18 : Hid (Below w.heap.size w w18) := HB17.out.trans (Bw18.mono HB17.out.size)
  clear Ya0_0_w17 Ya0_1_w17 Ya0_2_w17 YW0_0_w17 YW0_1_w17 YW0_2_w17 YG0_0_w17 YG0_1_w17 YG0_2_w17 W0_w17 G0_w17 Nt0 HB17 hb Bw18
  have PTt1 : w.heap.size ≤ Lt1 ∧ Mt1 ≤ w18.heap.size ∧ w.heap.size < Lt1 ∧ Ms0 ≤ Lt1 ∧ Ms1 ≤ Lt1 ∧ MW0 ≤ Lt1 ∧ w4.heap.size < Lt1 ∧ MX0 ≤ Lt1 ∧ w5.heap.size < Lt1 ∧ MX1 ≤ Lt1 ∧ MG0 ≤ Lt1 ∧ w7.heap.size < Lt1 ∧ ME1 ≤ Lt1 ∧ Mt0 ≤ Lt1 := by omega
  clear hLt1 hMt1
  go_wp2_with fail
  refine (implRepairCopies_k (f0_0, f0_1, f0_2) [.slice bt0_0 f0_0.length dt0_0, .int .i64 f0_1, .int .i64 f0_2] _ x1 _ _ _ _ _ t0_w18.out Z0.out Nt1.out Z1.out).mono ?_
  rintro e w19 ⟨DH0, TH0, rfl, rH0, sH0, kH0, _, hb⟩
  rw [← HY0.out] at rH0 kH0
  rw [← HY1.out]
  rw [← HY2.out]
  obtain ⟨bH0_0, dH0_0, _, rfl, _, _, _, _, _⟩ := kVoting_open rH0
  clear kH0
  obtain ⟨LH0, hLH0⟩ : ∃ L, L = w18.heap.size := ⟨_, rfl⟩
  obtain ⟨MH0, hMH0⟩ : ∃ M, M = w19.heap.size := ⟨_, rfl⟩
  have NH0 : Hid (kVoting.is true w19 (fun k => LH0 ≤ k ∧ k < MH0) [.slice bH0_0 y0_0.length dH0_0, .int .i64 y0_1, .int .i64 y0_2] (y0_0, y0_1, y0_2)) := Kd.tight _ rH0 (fun k hk hk' => ⟨by have hz := sH0 k hk'; omega, by omega⟩)
  clear rH0 sH0
  have Bw19 : Below w18.heap.size w18 w19 := hb
  have zzw19 := Bw19.size
  have Ya0_0_w19 : w19.cell? ⟨w.heap.size, 0, none⟩ = some (.slice a0_0 f0_0.length c0_0) := cell_later Bw19 Ya0_0_w18
  have Ya0_1_w19 : w19.cell? ⟨w.heap.size, 1, none⟩ = some (.int .i64 f0_1) := cell_later Bw19 Ya0_1_w18
  have Ya0_2_w19 : w19.cell? ⟨w.heap.size, 2, none⟩ = some (.int .i64 f0_2) := cell_later Bw19 Ya0_2_w18
  have ZAa0_w19 : w.heap.size < w19.heap.size := World.block_lt_of_cell? _ _ Ya0_0_w19
  have YW0_0_w19 : w19.cell? ⟨w4.heap.size, 0, none⟩ = some (.slice bW0_0 y0_0.length dW0_0) := cell_later Bw19 YW0_0_w18
  have YW0_1_w19 : w19.cell? ⟨w4.heap.size, 1, none⟩ = some (.int .i64 y0_1) := cell_later Bw19 YW0_1_w18
  have YW0_2_w19 : w19.cell? ⟨w4.heap.size, 2, none⟩ = some (.int .i64 y0_2) := cell_later Bw19 YW0_2_w18
  have ZAW0_w19 : w4.heap.size < w19.heap.size := World.block_lt_of_cell? _ _ YW0_0_w19
  have YG0_0_w19 : w19.cell? ⟨w7.heap.size, 0, none⟩ = some (.slice bG0_0 y0_0.length dG0_0) := cell_later Bw19 YG0_0_w18
  have YG0_1_w19 : w19.cell? ⟨w7.heap.size, 1, none⟩ = some (.int .i64 y0_1) := cell_later Bw19 YG0_1_w18
  have YG0_2_w19 : w19.cell? ⟨w7.heap.size, 2, none⟩ = some (.int .i64 y0_2) := cell_later Bw19 YG0_2_w18
  have ZAG0_w19 : w7.heap.size < w19.heap.size := World.block_lt_of_cell? _ _ YG0_0_w19
  have W0_w19 : Hid (kVoting.is true w19 (fun k => LW0 ≤ k ∧ k < MW0) [.slice bW0_0 y0_0.length dW0_0, .int .i64 y0_1, .int .i64 y0_2] (y0_0, y0_1, y0_2)) := Kd.below W0_w18.out Bw19
  have G0_w19 : Hid (kVoting.is true w19 (fun k => LG0 ≤ k ∧ k < MG0) [.slice bG0_0 y0_0.length dG0_0, .int .i64 y0_1, .int .i64 y0_2] (hVoting_mrk (y0_0, y0_1, y0_2) 1)) := Kd.below G0_w18.out Bw19
  have HB19 : Hid (Below w.heap.size w w19) := HB18.out.trans (Bw19.mono HB18.out.size)
  clear Ya0_0_w18 Ya0_1_w18 Ya0_2_w18 YW0_0_w18 YW0_1_w18 YW0_2_w18 YG0_0_w18 YG0_1_w18 YG0_2_w18 W0_w18 G0_w18 HB18 hb Bw19
  have PTH0 : w.heap.size ≤ LH0 ∧ MH0 ≤ w19.heap.size ∧ w.heap.size < LH0 ∧ Ms0 ≤ LH0 ∧ Ms1 ≤ LH0 ∧ MW0 ≤ LH0 ∧ w4.heap.size < LH0 ∧ MX0 ≤ LH0 ∧ w5.heap.size < LH0 ∧ MX1 ≤ LH0 ∧ MG0 ≤ LH0 ∧ w7.heap.size < LH0 ∧ ME1 ≤ LH0 ∧ Mt0 ≤ LH0 ∧ Mt1 ≤ LH0 := by omega
  clear hLH0 hMH0
  have PBH0 : w.heap.size ≤ w19.heap.size ∧ Ms0 ≤ w19.heap.size ∧ Ms1 ≤ w19.heap.size ∧ MW0 ≤ w19.heap.size ∧ MX0 ≤ w19.heap.size ∧ MX1 ≤ w19.heap.size ∧ MG0 ≤ w19.heap.size ∧ ME1 ≤ w19.heap.size ∧ Mt0 ≤ w19.heap.size ∧ Mt1 ≤ w19.heap.size ∧ MH0 ≤ w19.heap.size := by omega
  go_wp2_with fail
  have hal : ∀ o0, Below w19.heap.size w19 (w19.alloc o0) := fun o0 => ((Below.refl _ _).alloc (Nat.le_refl _) o0)
  refine (eqVoting_k (y0_0, y0_1, y0_2) [.slice bH0_0 y0_0.length dH0_0, .int .i64 y0_1, .int .i64 y0_2] [.slice bW0_0 y0_0.length dW0_0, .int .i64 y0_1, .int .i64 y0_2] _ _ _ (Kd.read _ (Kd.below NH0.out (hal _))) (Kd.read _ (Kd.below W0_w19.out (hal _)))).mono ?_
  rintro e w20 ⟨rfl, hb⟩
  have Bw20 : Below w19.heap.size w19 w20 := (hal _).trans (hb.mono (by simp))
  have zzw20 := Bw20.size
  have Ya0_0_w20 : w20.cell? ⟨w.heap.size, 0, none⟩ = some (.slice a0_0 f0_0.length c0_0) := cell_later Bw20 Ya0_0_w19
  have Ya0_1_w20 : w20.cell? ⟨w.heap.size, 1, none⟩ = some (.int .i64 f0_1) := cell_later Bw20 Ya0_1_w19
  have Ya0_2_w20 : w20.cell? ⟨w.heap.size, 2, none⟩ = some (.int .i64 f0_2) := cell_later Bw20 Ya0_2_w19
  have ZAa0_w20 : w.heap.size < w20.heap.size := World.block_lt_of_cell? _ _ Ya0_0_w20
  have YW0_0_w20 : w20.cell? ⟨w4.heap.size, 0, none⟩ = some (.slice bW0_0 y0_0.length dW0_0) := cell_later Bw20 YW0_0_w19
  have YW0_1_w20 : w20.cell? ⟨w4.heap.size, 1, none⟩ = some (.int .i64 y0_1) := cell_later Bw20 YW0_1_w19
  have YW0_2_w20 : w20.cell? ⟨w4.heap.size, 2, none⟩ = some (.int .i64 y0_2) := cell_later Bw20 YW0_2_w19
  have ZAW0_w20 : w4.heap.size < w20.heap.size := World.block_lt_of_cell? _ _ YW0_0_w20
  have YG0_0_w20 : w20.cell? ⟨w7.heap.size, 0, none⟩ = some (.slice bG0_0 y0_0.length dG0_0) := cell_later Bw20 YG0_0_w19
  have YG0_1_w20 : w20.cell? ⟨w7.heap.size, 1, none⟩ = some (.int .i64 y0_1) := cell_later Bw20 YG0_1_w19
  have YG0_2_w20 : w20.cell? ⟨w7.heap.size, 2, none⟩ = some (.int .i64 y0_2) := cell_later Bw20 YG0_2_w19
  have ZAG0_w20 : w7.heap.size < w20.heap.size := World.block_lt_of_cell? _ _ YG0_0_w20
  have YH0_0_w20 : w20.cell? ⟨w19.heap.size, 0, none⟩ = some (.slice bH0_0 y0_0.length dH0_0) := by rw [hb.cell (by simp)]; simp [go_sem]
  have YH0_1_w20 : w20.cell? ⟨w19.heap.size, 1, none⟩ = some (.int .i64 y0_1) := by rw [hb.cell (by simp)]; simp [go_sem]
  have YH0_2_w20 : w20.cell? ⟨w19.heap.size, 2, none⟩ = some (.int .i64 y0_2) := by rw [hb.cell (by simp)]; simp [go_sem]
  have ZAH0_w20 : w19.heap.size < w20.heap.size := World.block_lt_of_cell? _ _ YH0_0_w20
  have W0_w20 : Hid (kVoting.is true w20 (fun k => LW0 ≤ k ∧ k < MW0) [.slice bW0_0 y0_0.length dW0_0, .int .i64 y0_1, .int .i64 y0_2] (y0_0, y0_1, y0_2)) := Kd.below W0_w19.out Bw20
  have G0_w20 : Hid (kVoting.is true w20 (fun k => LG0 ≤ k ∧ k < MG0) [.slice bG0_0 y0_0.length dG0_0, .int .i64 y0_1, .int .i64 y0_2] (hVoting_mrk (y0_0, y0_1, y0_2) 1)) := Kd.below G0_w19.out Bw20
  have H0_w20 : Hid (kVoting.is true w20 (fun k => LH0 ≤ k ∧ k < MH0) [.slice bH0_0 y0_0.length dH0_0, .int .i64 y0_1, .int .i64 y0_2] (y0_0, y0_1, y0_2)) := Kd.below NH0.out Bw20
  have HB20 : Hid (Below w.heap.size w w20) := HB19.out.trans (Bw20.mono HB19.out.size)
  clear Ya0_0_w19 Ya0_1_w19 Ya0_2_w19 YW0_0_w19 YW0_1_w19 YW0_2_w19 YG0_0_w19 YG0_1_w19 YG0_2_w19 W0_w19 G0_w19 NH0 HB19 hal hb Bw20
  go_wp2_with fail
  refine (heldVoting_k (y0_0, y0_1, y0_2) [.slice bG0_0 y0_0.length dG0_0, .int .i64 y0_1, .int .i64 y0_2] _ _ _ (by omega) (by have := HKG0.out; omega) (Kd.read _ G0_w20.out)).mono ?_
  rw [← HKG0.out]
  rintro e w21 ⟨rfl, hb⟩
  have Bw21 : Below w20.heap.size w20 w21 := hb
  have zzw21 := Bw21.size
  have Ya0_0_w21 : w21.cell? ⟨w.heap.size, 0, none⟩ = some (.slice a0_0 f0_0.length c0_0) := cell_later Bw21 Ya0_0_w20
  have Ya0_1_w21 : w21.cell? ⟨w.heap.size, 1, none⟩ = some (.int .i64 f0_1) := cell_later Bw21 Ya0_1_w20
  have Ya0_2_w21 : w21.cell? ⟨w.heap.size, 2, none⟩ = some (.int .i64 f0_2) := cell_later Bw21 Ya0_2_w20
  have ZAa0_w21 : w.heap.size < w21.heap.size := World.block_lt_of_cell? _ _ Ya0_0_w21
  have YW0_0_w21 : w21.cell? ⟨w4.heap.size, 0, none⟩ = some (.slice bW0_0 y0_0.length dW0_0) := cell_later Bw21 YW0_0_w20
  have YW0_1_w21 : w21.cell? ⟨w4.heap.size, 1, none⟩ = some (.int .i64 y0_1) := cell_later Bw21 YW0_1_w20
  have YW0_2_w21 : w21.cell? ⟨w4.heap.size, 2, none⟩ = some (.int .i64 y0_2) := cell_later Bw21 YW0_2_w20
  have ZAW0_w21 : w4.heap.size < w21.heap.size := World.block_lt_of_cell? _ _ YW0_0_w21
  have YG0_0_w21 : w21.cell? ⟨w7.heap.size, 0, none⟩ = some (.slice bG0_0 y0_0.length dG0_0) := cell_later Bw21 YG0_0_w20
  have YG0_1_w21 : w21.cell? ⟨w7.heap.size, 1, none⟩ = some (.int .i64 y0_1) := cell_later Bw21 YG0_1_w20
  have YG0_2_w21 : w21.cell? ⟨w7.heap.size, 2, none⟩ = some (.int .i64 y0_2) := cell_later Bw21 YG0_2_w20
  have ZAG0_w21 : w7.heap.size < w21.heap.size := World.block_lt_of_cell? _ _ YG0_0_w21
  have YH0_0_w21 : w21.cell? ⟨w19.heap.size, 0, none⟩ = some (.slice bH0_0 y0_0.length dH0_0) := cell_later Bw21 YH0_0_w20
  have YH0_1_w21 : w21.cell? ⟨w19.heap.size, 1, none⟩ = some (.int .i64 y0_1) := cell_later Bw21 YH0_1_w20
  have YH0_2_w21 : w21.cell? ⟨w19.heap.size, 2, none⟩ = some (.int .i64 y0_2) := cell_later Bw21 YH0_2_w20
  have ZAH0_w21 : w19.heap.size < w21.heap.size := World.block_lt_of_cell? _ _ YH0_0_w21
  have W0_w21 : Hid (kVoting.is true w21 (fun k => LW0 ≤ k ∧ k < MW0) [.slice bW0_0 y0_0.length dW0_0, .int .i64 y0_1, .int .i64 y0_2] (y0_0, y0_1, y0_2)) := Kd.below W0_w20.out Bw21
  have G0_w21 : Hid (kVoting.is true w21 (fun k => LG0 ≤ k ∧ k < MG0) [.slice bG0_0 y0_0.length dG0_0, .int .i64 y0_1, .int .i64 y0_2] (hVoting_mrk (y0_0, y0_1, y0_2) 1)) := Kd.below G0_w20.out Bw21
  have H0_w21 : Hid (kVoting.is true w21 (fun k => LH0 ≤ k ∧ k < MH0) [.slice bH0_0 y0_0.length dH0_0, .int .i64 y0_1, .int .i64 y0_2] (y0_0, y0_1, y0_2)) := Kd.below H0_w20.out Bw21
  have HB21 : Hid (Below w.heap.size w w21) := HB20.out.trans (Bw21.mono HB20.out.size)
  clear Ya0_0_w20 Ya0_1_w20 Ya0_2_w20 YW0_0_w20 YW0_1_w20 YW0_2_w20 YG0_0_w20 YG0_1_w20 YG0_2_w20 YH0_0_w20 YH0_1_w20 YH0_2_w20 W0_w20 G0_w20 H0_w20 HB20 hb Bw21
  go_wp2
  go_ret
  exact ⟨rfl, HB21.out⟩

end Go.Proofs.Ytbkdkiodkcpbeaa
