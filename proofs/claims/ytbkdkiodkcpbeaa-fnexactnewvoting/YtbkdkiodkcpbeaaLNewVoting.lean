/- The law of NewVoting, walked: over what the program and the specification answer. No condition. -/
import Derived.Test.YtbkdkiodkcpbeaaQuNv
import Derived.Test.YtbkdkiodkcpbeaaKSint
namespace Go.Proofs.Ytbkdkiodkcpbeaa
open Go.RowKit
set_option linter.unusedVariables false

set_option maxRecDepth 100000 in
set_option maxHeartbeats 4000000 in
theorem lawNewVoting_k (x0 : List Int) (a0 : Option Addr) (n0 c0 : Nat) (x1 : Int) (x2 : Int) (w : World) (h0 : (kRow kInt).is false w (fun _ => True) [.slice a0 n0 c0] x0) (h1 : IntOk x1) (h2 : IntOk x2) :
    Calls Try.prog 5 #[.slice a0 n0 c0, .int .i64 x1, .int .i64 x2] w fun e w' => e = .returned (.bool true) ∧ Below w.heap.size w w' := by
  have H0 : Hid ((kRow kInt).is false w (fun _ => True) [.slice a0 n0 c0] x0) := h0
  clear h0
  have RL0 := row_len H0.out
  by_cases c0' : n0 ≤ 1048576
  case neg =>
    have hk' : (1048576 : Int) < (n0 : Int) := by omega
    clear RL0
    show Calls Try.prog 5 #[.slice a0 n0 c0, .int .i64 x1, .int .i64 x2] w _
    go_enter Try.func5, Try.ntmps5
    go_wp2_with fail
    go_ret
    exact ⟨rfl, by go_grown⟩
  have cl0 : ¬ (1048576 : Int) < (n0 : Int) := by omega
  have Z0 : Hid ((kRow kInt).sz x0 ≤ 2 ^ 20) := by show x0.length + sums (fun _ => 0) x0 ≤ _; rw [sums_zero]; omega
  clear RL0
  show Calls Try.prog 5 #[.slice a0 n0 c0, .int .i64 x1, .int .i64 x2] w _
  go_enter Try.func5, Try.ntmps5
  obtain ⟨y0, hy0⟩ : ∃ y, y = (fNewVoting x0 x1 x2).1 := ⟨_, rfl⟩
  have HY0 : Hid (y0 = (fNewVoting x0 x1 x2).1) := hy0
  clear hy0
  obtain ⟨y1, hy1⟩ : ∃ y, y = (fNewVoting x0 x1 x2).2 := ⟨_, rfl⟩
  have HY1 : Hid (y1 = (fNewVoting x0 x1 x2).2) := hy1
  clear hy1
  obtain ⟨y0_0, y0_1, y0_2⟩ := y0
  go_wp2_with fail
  refine (toIntS_k x0 a0 _ c0 (fun _ => True) _ (Kd.below H0.out (Below.refl _ _)) Z0.out).mono ?_
  rintro e w1 ⟨bs0, rfl, ho, hlt, hb⟩
  clear hlt
  obtain ⟨Ls0, hLs0⟩ : ∃ L, L = w.heap.size := ⟨_, rfl⟩
  obtain ⟨Ms0, hMs0⟩ : ∃ M, M = w1.heap.size := ⟨_, rfl⟩
  have Ns0 : Hid ((kRow kInt).is true w1 (fun k => Ls0 ≤ k ∧ k < Ms0) [.slice bs0 n0 n0] x0) := Kd.tight _ ho (fun k hk hk' => ⟨by have hz : _ ≤ k := hk'; omega, by omega⟩)
  clear ho
  have Bw1 : Below w.heap.size w w1 := hb
  have zzw1 := Bw1.size
  have HB1 : Hid (Below w.heap.size w w1) := Bw1
  clear hb Bw1
  have PTs0 : w.heap.size ≤ Ls0 ∧ Ms0 ≤ w1.heap.size := by omega
  clear hLs0 hMs0
  go_wp2_with fail
  refine (specNewVoting_k x0 _ _ _ _ x1 x2 _ (Kd.read _ Ns0.out) Z0.out h1 h2).mono ?_
  rintro e w2 ⟨DW0, TW0, rfl, rW0, sW0, kW0, hb⟩
  rw [← HY0.out] at rW0 kW0
  rw [← HY1.out]
  obtain ⟨bW0_0, dW0_0, _, rfl, _, _, _, _, _⟩ := kVoting_open rW0
  have KC0 : Hid (hVoting_cnt (y0_0, y0_1, y0_2) ≤ 2 ^ 26) := kW0
  obtain ⟨LW0, hLW0⟩ : ∃ L, L = w1.heap.size := ⟨_, rfl⟩
  obtain ⟨MW0, hMW0⟩ : ∃ M, M = w2.heap.size := ⟨_, rfl⟩
  have NW0 : Hid (kVoting.is true w2 (fun k => LW0 ≤ k ∧ k < MW0) [.slice bW0_0 y0_0.length dW0_0, .int .i64 y0_1, .int .i64 y0_2] (y0_0, y0_1, y0_2)) := Kd.tight _ rW0 (fun k hk hk' => ⟨by have hz := sW0 k hk'; omega, by omega⟩)
  clear rW0 sW0 kW0
  have Bw2 : Below w1.heap.size w1 w2 := hb
  have zzw2 := Bw2.size
  have HB2 : Hid (Below w.heap.size w w2) := HB1.out.trans (Bw2.mono HB1.out.size)
  clear HB1 hb Bw2
  have PTW0 : w.heap.size ≤ LW0 ∧ MW0 ≤ w2.heap.size ∧ Ms0 ≤ LW0 := by omega
  clear hLW0 hMW0
  have PBW0 : w.heap.size ≤ w2.heap.size ∧ Ms0 ≤ w2.heap.size ∧ MW0 ≤ w2.heap.size := by omega
  go_wp2_with fail
  have hal : ∀ o0, Below w2.heap.size w2 (w2.alloc o0) := fun o0 => ((Below.refl _ _).alloc (Nat.le_refl _) o0)
  refine (toIntS_k x0 a0 _ c0 (fun _ => True) _ (Kd.below H0.out (HB2.out.trans ((hal _).mono HB2.out.size))) Z0.out).mono ?_
  rintro e w3 ⟨bX0, rfl, ho, hlt, hb⟩
  clear hlt
  obtain ⟨LX0, hLX0⟩ : ∃ L, L = w2.heap.size + 1 := ⟨_, rfl⟩
  obtain ⟨MX0, hMX0⟩ : ∃ M, M = w3.heap.size := ⟨_, rfl⟩
  have NX0 : Hid ((kRow kInt).is true w3 (fun k => LX0 ≤ k ∧ k < MX0) [.slice bX0 n0 n0] x0) := Kd.tight _ ho (fun k hk hk' => ⟨by have hz : _ ≤ k := hk'; simp only [World.size_alloc] at hz; omega, by omega⟩)
  clear ho
  have Bw3 : Below w2.heap.size w2 w3 := (hal _).trans (hb.mono (by simp))
  have zzw3 := Bw3.size
  have YW0_0_w3 : w3.cell? ⟨w2.heap.size, 0, none⟩ = some (.slice bW0_0 y0_0.length dW0_0) := by rw [hb.cell (by simp)]; simp [go_sem]
  have YW0_1_w3 : w3.cell? ⟨w2.heap.size, 1, none⟩ = some (.int .i64 y0_1) := by rw [hb.cell (by simp)]; simp [go_sem]
  have YW0_2_w3 : w3.cell? ⟨w2.heap.size, 2, none⟩ = some (.int .i64 y0_2) := by rw [hb.cell (by simp)]; simp [go_sem]
  have ZAW0_w3 : w2.heap.size < w3.heap.size := World.block_lt_of_cell? _ _ YW0_0_w3
  have W0_w3 : Hid (kVoting.is true w3 (fun k => LW0 ≤ k ∧ k < MW0) [.slice bW0_0 y0_0.length dW0_0, .int .i64 y0_1, .int .i64 y0_2] (y0_0, y0_1, y0_2)) := Kd.below NW0.out Bw3
  have HB3 : Hid (Below w.heap.size w w3) := HB2.out.trans (Bw3.mono HB2.out.size)
  clear NW0 HB2 hal hb Bw3
  have PTX0 : w.heap.size ≤ LX0 ∧ MX0 ≤ w3.heap.size ∧ Ms0 ≤ LX0 ∧ MW0 ≤ LX0 ∧ w2.heap.size < LX0 := by omega
  clear hLX0 hMX0
  go_wp2_with fail
  refine (implNewVoting_k x0 _ _ _ _ x1 x2 _ (Kd.read _ NX0.out) Z0.out h1 h2).mono ?_
  rintro e w4 ⟨DG0, TG0, rfl, rG0, sG0, kG0, hb⟩
  rw [← HY0.out] at rG0 kG0
  rw [← HY1.out]
  obtain ⟨bG0_0, dG0_0, _, rfl, _, _, _, _, _⟩ := kVoting_open rG0
  clear kG0
  obtain ⟨LG0, hLG0⟩ : ∃ L, L = w3.heap.size := ⟨_, rfl⟩
  obtain ⟨MG0, hMG0⟩ : ∃ M, M = w4.heap.size := ⟨_, rfl⟩
  have NG0 : Hid (kVoting.is true w4 (fun k => LG0 ≤ k ∧ k < MG0) [.slice bG0_0 y0_0.length dG0_0, .int .i64 y0_1, .int .i64 y0_2] (y0_0, y0_1, y0_2)) := Kd.tight _ rG0 (fun k hk hk' => ⟨by have hz := sG0 k hk'; omega, by omega⟩)
  clear rG0 sG0
  have Bw4 : Below w3.heap.size w3 w4 := hb
  have zzw4 := Bw4.size
  have YW0_0_w4 : w4.cell? ⟨w2.heap.size, 0, none⟩ = some (.slice bW0_0 y0_0.length dW0_0) := cell_later Bw4 YW0_0_w3
  have YW0_1_w4 : w4.cell? ⟨w2.heap.size, 1, none⟩ = some (.int .i64 y0_1) := cell_later Bw4 YW0_1_w3
  have YW0_2_w4 : w4.cell? ⟨w2.heap.size, 2, none⟩ = some (.int .i64 y0_2) := cell_later Bw4 YW0_2_w3
  have ZAW0_w4 : w2.heap.size < w4.heap.size := World.block_lt_of_cell? _ _ YW0_0_w4
  have W0_w4 : Hid (kVoting.is true w4 (fun k => LW0 ≤ k ∧ k < MW0) [.slice bW0_0 y0_0.length dW0_0, .int .i64 y0_1, .int .i64 y0_2] (y0_0, y0_1, y0_2)) := Kd.below W0_w3.out Bw4
  have X0_w4 : Hid ((kRow kInt).is true w4 (fun k => LX0 ≤ k ∧ k < MX0) [.slice bX0 n0 n0] x0) := Kd.below NX0.out Bw4
  have HB4 : Hid (Below w.heap.size w w4) := HB3.out.trans (Bw4.mono HB3.out.size)
  clear YW0_0_w3 YW0_1_w3 YW0_2_w3 W0_w3 NX0 HB3 hb Bw4
  have PTG0 : w.heap.size ≤ LG0 ∧ MG0 ≤ w4.heap.size ∧ Ms0 ≤ LG0 ∧ MW0 ≤ LG0 ∧ w2.heap.size < LG0 ∧ MX0 ≤ LG0 := by omega
  clear hLG0 hMG0
  have PBG0 : w.heap.size ≤ w4.heap.size ∧ Ms0 ≤ w4.heap.size ∧ MW0 ≤ w4.heap.size ∧ MX0 ≤ w4.heap.size ∧ MG0 ≤ w4.heap.size := by omega
  go_wp2_with fail
  have hal : ∀ o0, Below w4.heap.size w4 (w4.alloc o0) := fun o0 => ((Below.refl _ _).alloc (Nat.le_refl _) o0)
  refine (eqVoting_k (y0_0, y0_1, y0_2) [.slice bG0_0 y0_0.length dG0_0, .int .i64 y0_1, .int .i64 y0_2] [.slice bW0_0 y0_0.length dW0_0, .int .i64 y0_1, .int .i64 y0_2] _ _ _ (Kd.read _ (Kd.below NG0.out (hal _))) (Kd.read _ (Kd.below W0_w4.out (hal _)))).mono ?_
  rintro e w5 ⟨rfl, hb⟩
  have Bw5 : Below w4.heap.size w4 w5 := (hal _).trans (hb.mono (by simp))
  have zzw5 := Bw5.size
  have YW0_0_w5 : w5.cell? ⟨w2.heap.size, 0, none⟩ = some (.slice bW0_0 y0_0.length dW0_0) := cell_later Bw5 YW0_0_w4
  have YW0_1_w5 : w5.cell? ⟨w2.heap.size, 1, none⟩ = some (.int .i64 y0_1) := cell_later Bw5 YW0_1_w4
  have YW0_2_w5 : w5.cell? ⟨w2.heap.size, 2, none⟩ = some (.int .i64 y0_2) := cell_later Bw5 YW0_2_w4
  have ZAW0_w5 : w2.heap.size < w5.heap.size := World.block_lt_of_cell? _ _ YW0_0_w5
  have YG0_0_w5 : w5.cell? ⟨w4.heap.size, 0, none⟩ = some (.slice bG0_0 y0_0.length dG0_0) := by rw [hb.cell (by simp)]; simp [go_sem]
  have YG0_1_w5 : w5.cell? ⟨w4.heap.size, 1, none⟩ = some (.int .i64 y0_1) := by rw [hb.cell (by simp)]; simp [go_sem]
  have YG0_2_w5 : w5.cell? ⟨w4.heap.size, 2, none⟩ = some (.int .i64 y0_2) := by rw [hb.cell (by simp)]; simp [go_sem]
  have ZAG0_w5 : w4.heap.size < w5.heap.size := World.block_lt_of_cell? _ _ YG0_0_w5
  have W0_w5 : Hid (kVoting.is true w5 (fun k => LW0 ≤ k ∧ k < MW0) [.slice bW0_0 y0_0.length dW0_0, .int .i64 y0_1, .int .i64 y0_2] (y0_0, y0_1, y0_2)) := Kd.below W0_w4.out Bw5
  have X0_w5 : Hid ((kRow kInt).is true w5 (fun k => LX0 ≤ k ∧ k < MX0) [.slice bX0 n0 n0] x0) := Kd.below X0_w4.out Bw5
  have G0_w5 : Hid (kVoting.is true w5 (fun k => LG0 ≤ k ∧ k < MG0) [.slice bG0_0 y0_0.length dG0_0, .int .i64 y0_1, .int .i64 y0_2] (y0_0, y0_1, y0_2)) := Kd.below NG0.out Bw5
  have HB5 : Hid (Below w.heap.size w w5) := HB4.out.trans (Bw5.mono HB4.out.size)
  clear YW0_0_w4 YW0_1_w4 YW0_2_w4 W0_w4 X0_w4 NG0 HB4 hal hb Bw5
  go_wp2_with fail
  refine (toIntS_k x0 a0 _ c0 (fun _ => True) _ (Kd.below H0.out HB5.out) Z0.out).mono ?_
  rintro e w6 ⟨bE0, rfl, ho, hlt, hb⟩
  clear hlt
  obtain ⟨LE0, hLE0⟩ : ∃ L, L = w5.heap.size := ⟨_, rfl⟩
  obtain ⟨ME0, hME0⟩ : ∃ M, M = w6.heap.size := ⟨_, rfl⟩
  have NE0 : Hid ((kRow kInt).is true w6 (fun k => LE0 ≤ k ∧ k < ME0) [.slice bE0 n0 n0] x0) := Kd.tight _ ho (fun k hk hk' => ⟨by have hz : _ ≤ k := hk'; omega, by omega⟩)
  clear ho
  have Bw6 : Below w5.heap.size w5 w6 := hb
  have zzw6 := Bw6.size
  have YW0_0_w6 : w6.cell? ⟨w2.heap.size, 0, none⟩ = some (.slice bW0_0 y0_0.length dW0_0) := cell_later Bw6 YW0_0_w5
  have YW0_1_w6 : w6.cell? ⟨w2.heap.size, 1, none⟩ = some (.int .i64 y0_1) := cell_later Bw6 YW0_1_w5
  have YW0_2_w6 : w6.cell? ⟨w2.heap.size, 2, none⟩ = some (.int .i64 y0_2) := cell_later Bw6 YW0_2_w5
  have ZAW0_w6 : w2.heap.size < w6.heap.size := World.block_lt_of_cell? _ _ YW0_0_w6
  have YG0_0_w6 : w6.cell? ⟨w4.heap.size, 0, none⟩ = some (.slice bG0_0 y0_0.length dG0_0) := cell_later Bw6 YG0_0_w5
  have YG0_1_w6 : w6.cell? ⟨w4.heap.size, 1, none⟩ = some (.int .i64 y0_1) := cell_later Bw6 YG0_1_w5
  have YG0_2_w6 : w6.cell? ⟨w4.heap.size, 2, none⟩ = some (.int .i64 y0_2) := cell_later Bw6 YG0_2_w5
  have ZAG0_w6 : w4.heap.size < w6.heap.size := World.block_lt_of_cell? _ _ YG0_0_w6
  have W0_w6 : Hid (kVoting.is true w6 (fun k => LW0 ≤ k ∧ k < MW0) [.slice bW0_0 y0_0.length dW0_0, .int .i64 y0_1, .int .i64 y0_2] (y0_0, y0_1, y0_2)) := Kd.below W0_w5.out Bw6
  have X0_w6 : Hid ((kRow kInt).is true w6 (fun k => LX0 ≤ k ∧ k < MX0) [.slice bX0 n0 n0] x0) := Kd.below X0_w5.out Bw6
  have G0_w6 : Hid (kVoting.is true w6 (fun k => LG0 ≤ k ∧ k < MG0) [.slice bG0_0 y0_0.length dG0_0, .int .i64 y0_1, .int .i64 y0_2] (y0_0, y0_1, y0_2)) := Kd.below G0_w5.out Bw6
  have HB6 : Hid (Below w.heap.size w w6) := HB5.out.trans (Bw6.mono HB5.out.size)
  clear YW0_0_w5 YW0_1_w5 YW0_2_w5 YG0_0_w5 YG0_1_w5 YG0_2_w5 W0_w5 X0_w5 G0_w5 HB5 hb Bw6
  have PTE0 : w.heap.size ≤ LE0 ∧ ME0 ≤ w6.heap.size ∧ Ms0 ≤ LE0 ∧ MW0 ≤ LE0 ∧ w2.heap.size < LE0 ∧ MX0 ≤ LE0 ∧ MG0 ≤ LE0 ∧ w4.heap.size < LE0 := by omega
  clear hLE0 hME0
  go_wp2_with fail
  refine (eqIntS_k x0 bX0 bE0 _ n0 n0 _ _ _ (Kd.read _ X0_w6.out) (Kd.read _ NE0.out)).mono ?_
  rintro e w7 ⟨rfl, hb⟩
  have Bw7 : Below w6.heap.size w6 w7 := hb
  have zzw7 := Bw7.size
  have YW0_0_w7 : w7.cell? ⟨w2.heap.size, 0, none⟩ = some (.slice bW0_0 y0_0.length dW0_0) := cell_later Bw7 YW0_0_w6
  have YW0_1_w7 : w7.cell? ⟨w2.heap.size, 1, none⟩ = some (.int .i64 y0_1) := cell_later Bw7 YW0_1_w6
  have YW0_2_w7 : w7.cell? ⟨w2.heap.size, 2, none⟩ = some (.int .i64 y0_2) := cell_later Bw7 YW0_2_w6
  have ZAW0_w7 : w2.heap.size < w7.heap.size := World.block_lt_of_cell? _ _ YW0_0_w7
  have YG0_0_w7 : w7.cell? ⟨w4.heap.size, 0, none⟩ = some (.slice bG0_0 y0_0.length dG0_0) := cell_later Bw7 YG0_0_w6
  have YG0_1_w7 : w7.cell? ⟨w4.heap.size, 1, none⟩ = some (.int .i64 y0_1) := cell_later Bw7 YG0_1_w6
  have YG0_2_w7 : w7.cell? ⟨w4.heap.size, 2, none⟩ = some (.int .i64 y0_2) := cell_later Bw7 YG0_2_w6
  have ZAG0_w7 : w4.heap.size < w7.heap.size := World.block_lt_of_cell? _ _ YG0_0_w7
  have W0_w7 : Hid (kVoting.is true w7 (fun k => LW0 ≤ k ∧ k < MW0) [.slice bW0_0 y0_0.length dW0_0, .int .i64 y0_1, .int .i64 y0_2] (y0_0, y0_1, y0_2)) := Kd.below W0_w6.out Bw7
  have X0_w7 : Hid ((kRow kInt).is true w7 (fun k => LX0 ≤ k ∧ k < MX0) [.slice bX0 n0 n0] x0) := Kd.below X0_w6.out Bw7
  have G0_w7 : Hid (kVoting.is true w7 (fun k => LG0 ≤ k ∧ k < MG0) [.slice bG0_0 y0_0.length dG0_0, .int .i64 y0_1, .int .i64 y0_2] (y0_0, y0_1, y0_2)) := Kd.below G0_w6.out Bw7
  have HB7 : Hid (Below w.heap.size w w7) := HB6.out.trans (Bw7.mono HB6.out.size)
  clear YW0_0_w6 YW0_1_w6 YW0_2_w6 YG0_0_w6 YG0_1_w6 YG0_2_w6 W0_w6 X0_w6 G0_w6 HB6 hb Bw7
  have CB0 : Hid (sums kInt.cnt x0 ≤ 2 ^ 26) := cnt_IntS Z0.out
  obtain ⟨kc0, hkc0⟩ : ∃ k, k = sums kInt.cnt x0 := ⟨_, rfl⟩
  have kb0 : kc0 ≤ 2 ^ 26 := by have := CB0.out; omega
  have HKC0 : Hid (kc0 = sums kInt.cnt x0) := hkc0
  clear hkc0
  go_wp2_with fail
  refine (markIntS_k x0 _ _ _ _ _ _ (by omega) (by have := HKC0.out; omega) X0_w7.out).mono ?_
  rw [← HKC0.out]
  rintro e w8 ⟨rfl, hb, hr⟩
  clear hr
  have Bw8 : KeptO (fun k => LX0 ≤ k ∧ k < MX0) w7 w8 := hb
  have zzw8 := Bw8.size
  have YW0_0_w8 : w8.cell? ⟨w2.heap.size, 0, none⟩ = some (.slice bW0_0 y0_0.length dW0_0) := cell_keptO Bw8 YW0_0_w7 (fun h => by omega)
  have YW0_1_w8 : w8.cell? ⟨w2.heap.size, 1, none⟩ = some (.int .i64 y0_1) := cell_keptO Bw8 YW0_1_w7 (fun h => by omega)
  have YW0_2_w8 : w8.cell? ⟨w2.heap.size, 2, none⟩ = some (.int .i64 y0_2) := cell_keptO Bw8 YW0_2_w7 (fun h => by omega)
  have ZAW0_w8 : w2.heap.size < w8.heap.size := World.block_lt_of_cell? _ _ YW0_0_w8
  have YG0_0_w8 : w8.cell? ⟨w4.heap.size, 0, none⟩ = some (.slice bG0_0 y0_0.length dG0_0) := cell_keptO Bw8 YG0_0_w7 (fun h => by omega)
  have YG0_1_w8 : w8.cell? ⟨w4.heap.size, 1, none⟩ = some (.int .i64 y0_1) := cell_keptO Bw8 YG0_1_w7 (fun h => by omega)
  have YG0_2_w8 : w8.cell? ⟨w4.heap.size, 2, none⟩ = some (.int .i64 y0_2) := cell_keptO Bw8 YG0_2_w7 (fun h => by omega)
  have ZAG0_w8 : w4.heap.size < w8.heap.size := World.block_lt_of_cell? _ _ YG0_0_w8
  have W0_w8 : Hid (kVoting.is true w8 (fun k => LW0 ≤ k ∧ k < MW0) [.slice bW0_0 y0_0.length dW0_0, .int .i64 y0_1, .int .i64 y0_2] (y0_0, y0_1, y0_2)) := Kd.kept W0_w7.out Bw8 (fun k _ h1 h2 => by omega)
  have G0_w8 : Hid (kVoting.is true w8 (fun k => LG0 ≤ k ∧ k < MG0) [.slice bG0_0 y0_0.length dG0_0, .int .i64 y0_1, .int .i64 y0_2] (y0_0, y0_1, y0_2)) := Kd.kept G0_w7.out Bw8 (fun k _ h1 h2 => by omega)
  have HB8 : Hid (Below w.heap.size w w8) := HB7.out.trans ((Bw8.below (B := w.heap.size) (HB7.out.size) (fun k hk h => by omega)))
  clear YW0_0_w7 YW0_1_w7 YW0_2_w7 YG0_0_w7 YG0_1_w7 YG0_2_w7 W0_w7 G0_w7 HB7 hb Bw8
  go_wp2_with fail
  refine (eqVoting_k (y0_0, y0_1, y0_2) [.slice bG0_0 y0_0.length dG0_0, .int .i64 y0_1, .int .i64 y0_2] [.slice bW0_0 y0_0.length dW0_0, .int .i64 y0_1, .int .i64 y0_2] _ _ _ (Kd.read _ G0_w8.out) (Kd.read _ W0_w8.out)).mono ?_
  rintro e w9 ⟨rfl, hb⟩
  have Bw9 : Below w8.heap.size w8 w9 := hb
  have zzw9 := Bw9.size
  have YW0_0_w9 : w9.cell? ⟨w2.heap.size, 0, none⟩ = some (.slice bW0_0 y0_0.length dW0_0) := cell_later Bw9 YW0_0_w8
  have YW0_1_w9 : w9.cell? ⟨w2.heap.size, 1, none⟩ = some (.int .i64 y0_1) := cell_later Bw9 YW0_1_w8
  have YW0_2_w9 : w9.cell? ⟨w2.heap.size, 2, none⟩ = some (.int .i64 y0_2) := cell_later Bw9 YW0_2_w8
  have ZAW0_w9 : w2.heap.size < w9.heap.size := World.block_lt_of_cell? _ _ YW0_0_w9
  have YG0_0_w9 : w9.cell? ⟨w4.heap.size, 0, none⟩ = some (.slice bG0_0 y0_0.length dG0_0) := cell_later Bw9 YG0_0_w8
  have YG0_1_w9 : w9.cell? ⟨w4.heap.size, 1, none⟩ = some (.int .i64 y0_1) := cell_later Bw9 YG0_1_w8
  have YG0_2_w9 : w9.cell? ⟨w4.heap.size, 2, none⟩ = some (.int .i64 y0_2) := cell_later Bw9 YG0_2_w8
  have ZAG0_w9 : w4.heap.size < w9.heap.size := World.block_lt_of_cell? _ _ YG0_0_w9
  have W0_w9 : Hid (kVoting.is true w9 (fun k => LW0 ≤ k ∧ k < MW0) [.slice bW0_0 y0_0.length dW0_0, .int .i64 y0_1, .int .i64 y0_2] (y0_0, y0_1, y0_2)) := Kd.below W0_w8.out Bw9
  have G0_w9 : Hid (kVoting.is true w9 (fun k => LG0 ≤ k ∧ k < MG0) [.slice bG0_0 y0_0.length dG0_0, .int .i64 y0_1, .int .i64 y0_2] (y0_0, y0_1, y0_2)) := Kd.below G0_w8.out Bw9
  have HB9 : Hid (Below w.heap.size w w9) := HB8.out.trans (Bw9.mono HB8.out.size)
  clear YW0_0_w8 YW0_1_w8 YW0_2_w8 YG0_0_w8 YG0_1_w8 YG0_2_w8 W0_w8 G0_w8 HB8 hb Bw9
  obtain ⟨kg0, hkg0⟩ : ∃ k, k = hVoting_cnt (y0_0, y0_1, y0_2) := ⟨_, rfl⟩
  have kgb0 : kg0 ≤ 2 ^ 26 := by have := KC0.out; omega
  have HKG0 : Hid (kg0 = hVoting_cnt (y0_0, y0_1, y0_2)) := hkg0
  clear hkg0
  go_wp2_with fail
  refine (markVoting_k (y0_0, y0_1, y0_2) [.slice bG0_0 y0_0.length dG0_0, .int .i64 y0_1, .int .i64 y0_2] _ _ _ (by omega) (by have := HKG0.out; omega) G0_w9.out).mono ?_
  rw [← HKG0.out]
  rintro e w10 ⟨rfl, hb, hr⟩
  have NG0' : Hid (kVoting.is true w10 (fun k => LG0 ≤ k ∧ k < MG0) [.slice bG0_0 y0_0.length dG0_0, .int .i64 y0_1, .int .i64 y0_2] (hVoting_mrk (y0_0, y0_1, y0_2) 1)) := hr
  clear hr
  have Bw10 : KeptO (fun k => LG0 ≤ k ∧ k < MG0) w9 w10 := hb
  have zzw10 := Bw10.size
  have YW0_0_w10 : w10.cell? ⟨w2.heap.size, 0, none⟩ = some (.slice bW0_0 y0_0.length dW0_0) := cell_keptO Bw10 YW0_0_w9 (fun h => by omega)
  have YW0_1_w10 : w10.cell? ⟨w2.heap.size, 1, none⟩ = some (.int .i64 y0_1) := cell_keptO Bw10 YW0_1_w9 (fun h => by omega)
  have YW0_2_w10 : w10.cell? ⟨w2.heap.size, 2, none⟩ = some (.int .i64 y0_2) := cell_keptO Bw10 YW0_2_w9 (fun h => by omega)
  have ZAW0_w10 : w2.heap.size < w10.heap.size := World.block_lt_of_cell? _ _ YW0_0_w10
  have YG0_0_w10 : w10.cell? ⟨w4.heap.size, 0, none⟩ = some (.slice bG0_0 y0_0.length dG0_0) := cell_keptO Bw10 YG0_0_w9 (fun h => by omega)
  have YG0_1_w10 : w10.cell? ⟨w4.heap.size, 1, none⟩ = some (.int .i64 y0_1) := cell_keptO Bw10 YG0_1_w9 (fun h => by omega)
  have YG0_2_w10 : w10.cell? ⟨w4.heap.size, 2, none⟩ = some (.int .i64 y0_2) := cell_keptO Bw10 YG0_2_w9 (fun h => by omega)
  have ZAG0_w10 : w4.heap.size < w10.heap.size := World.block_lt_of_cell? _ _ YG0_0_w10
  have W0_w10 : Hid (kVoting.is true w10 (fun k => LW0 ≤ k ∧ k < MW0) [.slice bW0_0 y0_0.length dW0_0, .int .i64 y0_1, .int .i64 y0_2] (y0_0, y0_1, y0_2)) := Kd.kept W0_w9.out Bw10 (fun k _ h1 h2 => by omega)
  have HB10 : Hid (Below w.heap.size w w10) := HB9.out.trans ((Bw10.below (B := w.heap.size) (HB9.out.size) (fun k hk h => by omega)))
  clear YW0_0_w9 YW0_1_w9 YW0_2_w9 YG0_0_w9 YG0_1_w9 YG0_2_w9 W0_w9 HB9 hb Bw10
  go_wp2_with fail
  refine (heldVoting_k (y0_0, y0_1, y0_2) [.slice bG0_0 y0_0.length dG0_0, .int .i64 y0_1, .int .i64 y0_2] _ _ _ (by omega) (by have := HKG0.out; omega) (Kd.read _ NG0'.out)).mono ?_
  rw [← HKG0.out]
  rintro e w11 ⟨rfl, hb⟩
  have Bw11 : Below w10.heap.size w10 w11 := hb
  have zzw11 := Bw11.size
  have YW0_0_w11 : w11.cell? ⟨w2.heap.size, 0, none⟩ = some (.slice bW0_0 y0_0.length dW0_0) := cell_later Bw11 YW0_0_w10
  have YW0_1_w11 : w11.cell? ⟨w2.heap.size, 1, none⟩ = some (.int .i64 y0_1) := cell_later Bw11 YW0_1_w10
  have YW0_2_w11 : w11.cell? ⟨w2.heap.size, 2, none⟩ = some (.int .i64 y0_2) := cell_later Bw11 YW0_2_w10
  have ZAW0_w11 : w2.heap.size < w11.heap.size := World.block_lt_of_cell? _ _ YW0_0_w11
  have YG0_0_w11 : w11.cell? ⟨w4.heap.size, 0, none⟩ = some (.slice bG0_0 y0_0.length dG0_0) := cell_later Bw11 YG0_0_w10
  have YG0_1_w11 : w11.cell? ⟨w4.heap.size, 1, none⟩ = some (.int .i64 y0_1) := cell_later Bw11 YG0_1_w10
  have YG0_2_w11 : w11.cell? ⟨w4.heap.size, 2, none⟩ = some (.int .i64 y0_2) := cell_later Bw11 YG0_2_w10
  have ZAG0_w11 : w4.heap.size < w11.heap.size := World.block_lt_of_cell? _ _ YG0_0_w11
  have W0_w11 : Hid (kVoting.is true w11 (fun k => LW0 ≤ k ∧ k < MW0) [.slice bW0_0 y0_0.length dW0_0, .int .i64 y0_1, .int .i64 y0_2] (y0_0, y0_1, y0_2)) := Kd.below W0_w10.out Bw11
  have G0_w11 : Hid (kVoting.is true w11 (fun k => LG0 ≤ k ∧ k < MG0) [.slice bG0_0 y0_0.length dG0_0, .int .i64 y0_1, .int .i64 y0_2] (hVoting_mrk (y0_0, y0_1, y0_2) 1)) := Kd.below NG0'.out Bw11
  have HB11 : Hid (Below w.heap.size w w11) := HB10.out.trans (Bw11.mono HB10.out.size)
  clear YW0_0_w10 YW0_1_w10 YW0_2_w10 YG0_0_w10 YG0_1_w10 YG0_2_w10 W0_w10 NG0' HB10 hb Bw11
  go_wp2_with fail
  refine (toIntS_k x0 a0 _ c0 (fun _ => True) _ (Kd.below H0.out HB11.out) Z0.out).mono ?_
  rintro e w12 ⟨bt0, rfl, ho, hlt, hb⟩
  clear hlt
  obtain ⟨Lt0, hLt0⟩ : ∃ L, L = w11.heap.size := ⟨_, rfl⟩
  obtain ⟨Mt0, hMt0⟩ : ∃ M, M = w12.heap.size := ⟨_, rfl⟩
  have Nt0 : Hid ((kRow kInt).is true w12 (fun k => Lt0 ≤ k ∧ k < Mt0) [.slice bt0 n0 n0] x0) := Kd.tight _ ho (fun k hk hk' => ⟨by have hz : _ ≤ k := hk'; omega, by omega⟩)
  clear ho
  have Bw12 : Below w11.heap.size w11 w12 := hb
  have zzw12 := Bw12.size
  have YW0_0_w12 : w12.cell? ⟨w2.heap.size, 0, none⟩ = some (.slice bW0_0 y0_0.length dW0_0) := cell_later Bw12 YW0_0_w11
  have YW0_1_w12 : w12.cell? ⟨w2.heap.size, 1, none⟩ = some (.int .i64 y0_1) := cell_later Bw12 YW0_1_w11
  have YW0_2_w12 : w12.cell? ⟨w2.heap.size, 2, none⟩ = some (.int .i64 y0_2) := cell_later Bw12 YW0_2_w11
  have ZAW0_w12 : w2.heap.size < w12.heap.size := World.block_lt_of_cell? _ _ YW0_0_w12
  have YG0_0_w12 : w12.cell? ⟨w4.heap.size, 0, none⟩ = some (.slice bG0_0 y0_0.length dG0_0) := cell_later Bw12 YG0_0_w11
  have YG0_1_w12 : w12.cell? ⟨w4.heap.size, 1, none⟩ = some (.int .i64 y0_1) := cell_later Bw12 YG0_1_w11
  have YG0_2_w12 : w12.cell? ⟨w4.heap.size, 2, none⟩ = some (.int .i64 y0_2) := cell_later Bw12 YG0_2_w11
  have ZAG0_w12 : w4.heap.size < w12.heap.size := World.block_lt_of_cell? _ _ YG0_0_w12
  have W0_w12 : Hid (kVoting.is true w12 (fun k => LW0 ≤ k ∧ k < MW0) [.slice bW0_0 y0_0.length dW0_0, .int .i64 y0_1, .int .i64 y0_2] (y0_0, y0_1, y0_2)) := Kd.below W0_w11.out Bw12
  have G0_w12 : Hid (kVoting.is true w12 (fun k => LG0 ≤ k ∧ k < MG0) [.slice bG0_0 y0_0.length dG0_0, .int .i64 y0_1, .int .i64 y0_2] (hVoting_mrk (y0_0, y0_1, y0_2) 1)) := Kd.below G0_w11.out Bw12
  have HB12 : Hid (Below w.heap.size w w12) := HB11.out.trans (Bw12.mono HB11.out.size)
  clear YW0_0_w11 YW0_1_w11 YW0_2_w11 YG0_0_w11 YG0_1_w11 YG0_2_w11 W0_w11 G0_w11 HB11 hb Bw12
  have PTt0 : w.heap.size ≤ Lt0 ∧ Mt0 ≤ w12.heap.size ∧ Ms0 ≤ Lt0 ∧ MW0 ≤ Lt0 ∧ w2.heap.size < Lt0 ∧ MX0 ≤ Lt0 ∧ MG0 ≤ Lt0 ∧ w4.heap.size < Lt0 ∧ ME0 ≤ Lt0 := by omega
  clear hLt0 hMt0
  go_wp2_with fail
  refine (implNewVoting_k x0 _ _ _ _ x1 x2 _ (Kd.read _ Nt0.out) Z0.out h1 h2).mono ?_
  rintro e w13 ⟨DH0, TH0, rfl, rH0, sH0, kH0, hb⟩
  rw [← HY0.out] at rH0 kH0
  rw [← HY1.out]
  obtain ⟨bH0_0, dH0_0, _, rfl, _, _, _, _, _⟩ := kVoting_open rH0
  clear kH0
  obtain ⟨LH0, hLH0⟩ : ∃ L, L = w12.heap.size := ⟨_, rfl⟩
  obtain ⟨MH0, hMH0⟩ : ∃ M, M = w13.heap.size := ⟨_, rfl⟩
  have NH0 : Hid (kVoting.is true w13 (fun k => LH0 ≤ k ∧ k < MH0) [.slice bH0_0 y0_0.length dH0_0, .int .i64 y0_1, .int .i64 y0_2] (y0_0, y0_1, y0_2)) := Kd.tight _ rH0 (fun k hk hk' => ⟨by have hz := sH0 k hk'; omega, by omega⟩)
  clear rH0 sH0
  have Bw13 : Below w12.heap.size w12 w13 := hb
  have zzw13 := Bw13.size
  have YW0_0_w13 : w13.cell? ⟨w2.heap.size, 0, none⟩ = some (.slice bW0_0 y0_0.length dW0_0) := cell_later Bw13 YW0_0_w12
  have YW0_1_w13 : w13.cell? ⟨w2.heap.size, 1, none⟩ = some (.int .i64 y0_1) := cell_later Bw13 YW0_1_w12
  have YW0_2_w13 : w13.cell? ⟨w2.heap.size, 2, none⟩ = some (.int .i64 y0_2) := cell_later Bw13 YW0_2_w12
  have ZAW0_w13 : w2.heap.size < w13.heap.size := World.block_lt_of_cell? _ _ YW0_0_w13
  have YG0_0_w13 : w13.cell? ⟨w4.heap.size, 0, none⟩ = some (.slice bG0_0 y0_0.length dG0_0) := cell_later Bw13 YG0_0_w12
  have YG0_1_w13 : w13.cell? ⟨w4.heap.size, 1, none⟩ = some (.int .i64 y0_1) := cell_later Bw13 YG0_1_w12
  have YG0_2_w13 : w13.cell? ⟨w4.heap.size, 2, none⟩ = some (.int .i64 y0_2) := cell_later Bw13 YG0_2_w12
  have ZAG0_w13 : w4.heap.size < w13.heap.size := World.block_lt_of_cell? _ _ YG0_0_w13
  have W0_w13 : Hid (kVoting.is true w13 (fun k => LW0 ≤ k ∧ k < MW0) [.slice bW0_0 y0_0.length dW0_0, .int .i64 y0_1, .int .i64 y0_2] (y0_0, y0_1, y0_2)) := Kd.below W0_w12.out Bw13
  have G0_w13 : Hid (kVoting.is true w13 (fun k => LG0 ≤ k ∧ k < MG0) [.slice bG0_0 y0_0.length dG0_0, .int .i64 y0_1, .int .i64 y0_2] (hVoting_mrk (y0_0, y0_1, y0_2) 1)) := Kd.below G0_w12.out Bw13
  have HB13 : Hid (Below w.heap.size w w13) := HB12.out.trans (Bw13.mono HB12.out.size)
  clear YW0_0_w12 YW0_1_w12 YW0_2_w12 YG0_0_w12 YG0_1_w12 YG0_2_w12 W0_w12 G0_w12 HB12 hb Bw13
  have PTH0 : w.heap.size ≤ LH0 ∧ MH0 ≤ w13.heap.size ∧ Ms0 ≤ LH0 ∧ MW0 ≤ LH0 ∧ w2.heap.size < LH0 ∧ MX0 ≤ LH0 ∧ MG0 ≤ LH0 ∧ w4.heap.size < LH0 ∧ ME0 ≤ LH0 ∧ Mt0 ≤ LH0 := by omega
  clear hLH0 hMH0
  have PBH0 : w.heap.size ≤ w13.heap.size ∧ Ms0 ≤ w13.heap.size ∧ MW0 ≤ w13.heap.size ∧ MX0 ≤ w13.heap.size ∧ MG0 ≤ w13.heap.size ∧ ME0 ≤ w13.heap.size ∧ Mt0 ≤ w13.heap.size ∧ MH0 ≤ w13.heap.size := by omega
  go_wp2_with fail
  have hal : ∀ o0, Below w13.heap.size w13 (w13.alloc o0) := fun o0 => ((Below.refl _ _).alloc (Nat.le_refl _) o0)
  refine (eqVoting_k (y0_0, y0_1, y0_2) [.slice bH0_0 y0_0.length dH0_0, .int .i64 y0_1, .int .i64 y0_2] [.slice bW0_0 y0_0.length dW0_0, .int .i64 y0_1, .int .i64 y0_2] _ _ _ (Kd.read _ (Kd.below NH0.out (hal _))) (Kd.read _ (Kd.below W0_w13.out (hal _)))).mono ?_
  rintro e w14 ⟨rfl, hb⟩
  have Bw14 : Below w13.heap.size w13 w14 := (hal _).trans (hb.mono (by simp))
  have zzw14 := Bw14.size
  have YW0_0_w14 : w14.cell? ⟨w2.heap.size, 0, none⟩ = some (.slice bW0_0 y0_0.length dW0_0) := cell_later Bw14 YW0_0_w13
  have YW0_1_w14 : w14.cell? ⟨w2.heap.size, 1, none⟩ = some (.int .i64 y0_1) := cell_later Bw14 YW0_1_w13
  have YW0_2_w14 : w14.cell? ⟨w2.heap.size, 2, none⟩ = some (.int .i64 y0_2) := cell_later Bw14 YW0_2_w13
  have ZAW0_w14 : w2.heap.size < w14.heap.size := World.block_lt_of_cell? _ _ YW0_0_w14
  have YG0_0_w14 : w14.cell? ⟨w4.heap.size, 0, none⟩ = some (.slice bG0_0 y0_0.length dG0_0) := cell_later Bw14 YG0_0_w13
  have YG0_1_w14 : w14.cell? ⟨w4.heap.size, 1, none⟩ = some (.int .i64 y0_1) := cell_later Bw14 YG0_1_w13
  have YG0_2_w14 : w14.cell? ⟨w4.heap.size, 2, none⟩ = some (.int .i64 y0_2) := cell_later Bw14 YG0_2_w13
  have ZAG0_w14 : w4.heap.size < w14.heap.size := World.block_lt_of_cell? _ _ YG0_0_w14
  have YH0_0_w14 : w14.cell? ⟨w13.heap.size, 0, none⟩ = some (.slice bH0_0 y0_0.length dH0_0) := by rw [hb.cell (by simp)]; simp [go_sem]
  have YH0_1_w14 : w14.cell? ⟨w13.heap.size, 1, none⟩ = some (.int .i64 y0_1) := by rw [hb.cell (by simp)]; simp [go_sem]
  have YH0_2_w14 : w14.cell? ⟨w13.heap.size, 2, none⟩ = some (.int .i64 y0_2) := by rw [hb.cell (by simp)]; simp [go_sem]
  have ZAH0_w14 : w13.heap.size < w14.heap.size := World.block_lt_of_cell? _ _ YH0_0_w14
  have W0_w14 : Hid (kVoting.is true w14 (fun k => LW0 ≤ k ∧ k < MW0) [.slice bW0_0 y0_0.length dW0_0, .int .i64 y0_1, .int .i64 y0_2] (y0_0, y0_1, y0_2)) := Kd.below W0_w13.out Bw14
  have G0_w14 : Hid (kVoting.is true w14 (fun k => LG0 ≤ k ∧ k < MG0) [.slice bG0_0 y0_0.length dG0_0, .int .i64 y0_1, .int .i64 y0_2] (hVoting_mrk (y0_0, y0_1, y0_2) 1)) := Kd.below G0_w13.out Bw14
  have H0_w14 : Hid (kVoting.is true w14 (fun k => LH0 ≤ k ∧ k < MH0) [.slice bH0_0 y0_0.length dH0_0, .int .i64 y0_1, .int .i64 y0_2] (y0_0, y0_1, y0_2)) := Kd.below NH0.out Bw14
  have HB14 : Hid (Below w.heap.size w w14) := HB13.out.trans (Bw14.mono HB13.out.size)
  clear YW0_0_w13 YW0_1_w13 YW0_2_w13 YG0_0_w13 YG0_1_w13 YG0_2_w13 W0_w13 G0_w13 NH0 HB13 hal hb Bw14
  go_wp2_with fail
  refine (heldVoting_k (y0_0, y0_1, y0_2) [.slice bG0_0 y0_0.length dG0_0, .int .i64 y0_1, .int .i64 y0_2] _ _ _ (by omega) (by have := HKG0.out; omega) (Kd.read _ G0_w14.out)).mono ?_
  rw [← HKG0.out]
  rintro e w15 ⟨rfl, hb⟩
  have Bw15 : Below w14.heap.size w14 w15 := hb
  have zzw15 := Bw15.size
  have YW0_0_w15 : w15.cell? ⟨w2.heap.size, 0, none⟩ = some (.slice bW0_0 y0_0.length dW0_0) := cell_later Bw15 YW0_0_w14
  have YW0_1_w15 : w15.cell? ⟨w2.heap.size, 1, none⟩ = some (.int .i64 y0_1) := cell_later Bw15 YW0_1_w14
  have YW0_2_w15 : w15.cell? ⟨w2.heap.size, 2, none⟩ = some (.int .i64 y0_2) := cell_later Bw15 YW0_2_w14
  have ZAW0_w15 : w2.heap.size < w15.heap.size := World.block_lt_of_cell? _ _ YW0_0_w15
  have YG0_0_w15 : w15.cell? ⟨w4.heap.size, 0, none⟩ = some (.slice bG0_0 y0_0.length dG0_0) := cell_later Bw15 YG0_0_w14
  have YG0_1_w15 : w15.cell? ⟨w4.heap.size, 1, none⟩ = some (.int .i64 y0_1) := cell_later Bw15 YG0_1_w14
  have YG0_2_w15 : w15.cell? ⟨w4.heap.size, 2, none⟩ = some (.int .i64 y0_2) := cell_later Bw15 YG0_2_w14
  have ZAG0_w15 : w4.heap.size < w15.heap.size := World.block_lt_of_cell? _ _ YG0_0_w15
  have YH0_0_w15 : w15.cell? ⟨w13.heap.size, 0, none⟩ = some (.slice bH0_0 y0_0.length dH0_0) := cell_later Bw15 YH0_0_w14
  have YH0_1_w15 : w15.cell? ⟨w13.heap.size, 1, none⟩ = some (.int .i64 y0_1) := cell_later Bw15 YH0_1_w14
  have YH0_2_w15 : w15.cell? ⟨w13.heap.size, 2, none⟩ = some (.int .i64 y0_2) := cell_later Bw15 YH0_2_w14
  have ZAH0_w15 : w13.heap.size < w15.heap.size := World.block_lt_of_cell? _ _ YH0_0_w15
  have W0_w15 : Hid (kVoting.is true w15 (fun k => LW0 ≤ k ∧ k < MW0) [.slice bW0_0 y0_0.length dW0_0, .int .i64 y0_1, .int .i64 y0_2] (y0_0, y0_1, y0_2)) := Kd.below W0_w14.out Bw15
  have G0_w15 : Hid (kVoting.is true w15 (fun k => LG0 ≤ k ∧ k < MG0) [.slice bG0_0 y0_0.length dG0_0, .int .i64 y0_1, .int .i64 y0_2] (hVoting_mrk (y0_0, y0_1, y0_2) 1)) := Kd.below G0_w14.out Bw15
  have H0_w15 : Hid (kVoting.is true w15 (fun k => LH0 ≤ k ∧ k < MH0) [.slice bH0_0 y0_0.length dH0_0, .int .i64 y0_1, .int .i64 y0_2] (y0_0, y0_1, y0_2)) := Kd.below H0_w14.out Bw15
  have HB15 : Hid (Below w.heap.size w w15) := HB14.out.trans (Bw15.mono HB14.out.size)
  clear YW0_0_w14 YW0_1_w14 YW0_2_w14 YG0_0_w14 YG0_1_w14 YG0_2_w14 YH0_0_w14 YH0_1_w14 YH0_2_w14 W0_w14 G0_w14 H0_w14 HB14 hb Bw15
  go_wp2
  go_ret
  exact ⟨rfl, HB15.out⟩

end Go.Proofs.Ytbkdkiodkcpbeaa
