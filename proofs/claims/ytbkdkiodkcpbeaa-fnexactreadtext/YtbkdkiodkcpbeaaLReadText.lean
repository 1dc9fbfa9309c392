/- The law of ReadText, walked: over what the program and the specification answer. No condition. -/
import Derived.Test.YtbkdkiodkcpbeaaQuH
import Derived.Test.YtbkdkiodkcpbeaaKSint
namespace Go.Proofs.Ytbkdkiodkcpbeaa
open Go.RowKit
set_option linter.unusedVariables false

set_option maxRecDepth 100000 in
set_option maxHeartbeats 4000000 in
theorem lawReadText_k (x0 : DVoting) (C0 : List Value) (x1 : List Int) (a1 : Option Addr) (n1 c1 : Nat) (w : World) (h0 : kVoting.is false w (fun _ => True) C0 x0) (h1 : (kRow kInt).is false w (fun _ => True) [.slice a1 n1 c1] x1) :
    Calls Try.prog 9 #[.agg C0.toArray, .slice a1 n1 c1] w fun e w' => e = .returned (.bool true) ∧ Below w.heap.size w w' := by
  obtain ⟨f0_0, f0_1, f0_2⟩ := x0
  obtain ⟨a0_0, c0_0, _, rfl, _, _, _, _, _⟩ := kVoting_open h0
  have H0 : Hid (kVoting.is false w (fun _ => True) [.slice a0_0 f0_0.length c0_0, .int .i64 f0_1, .int .i64 f0_2] (f0_0, f0_1, f0_2)) := h0
  clear h0
  have H1 : Hid ((kRow kInt).is false w (fun _ => True) [.slice a1 n1 c1] x1) := h1
  clear h1
  have RL1 := row_len H1.out
  by_cases c1' : n1 ≤ 1048576
  case neg =>
    have hk' : (1048576 : Int) < (n1 : Int) := by omega
    clear RL1
    show Calls Try.prog 9 #[.agg #[.slice a0_0 f0_0.length c0_0, .int .i64 f0_1, .int .i64 f0_2], .slice a1 n1 c1] w _
    go_enter Try.func9, Try.ntmps9
    go_wp2_with fail
    go_ret
    exact ⟨rfl, by go_grown⟩
  have cl1 : ¬ (1048576 : Int) < (n1 : Int) := by omega
  have Z1 : Hid ((kRow kInt).sz x1 ≤ 2 ^ 20) := by show x1.length + sums (fun _ => 0) x1 ≤ _; rw [sums_zero]; omega
  clear RL1
  show Calls Try.prog 9 #[.agg #[.slice a0_0 f0_0.length c0_0, .int .i64 f0_1, .int .i64 f0_2], .slice a1 n1 c1] w _
  go_enter Try.func9, Try.ntmps9
  go_wp2_with fail
  have hal : ∀ o0, Below w.heap.size w (w.alloc o0) := fun o0 => ((Below.refl _ _).alloc (Nat.le_refl _) o0)
  refine (szVoting_k (f0_0, f0_1, f0_2) [.slice a0_0 f0_0.length c0_0, .int .i64 f0_1, .int .i64 f0_2] (fun _ => True) _ _ (by omega) (by omega) (Kd.below H0.out (hal _))).mono ?_
  rintro e w1 ⟨q0, rfl, hq0, hb⟩
  have Bw1 : Below w.heap.size w w1 := (hal _).trans (hb.mono (by simp))
  have zzw1 := Bw1.size
  have Ya0_0_w1 : w1.cell? ⟨w.heap.size, 0, none⟩ = some (.slice a0_0 f0_0.length c0_0) := by rw [hb.cell (by simp)]; simp [go_sem]
  have Ya0_1_w1 : w1.cell? ⟨w.heap.size, 1, none⟩ = some (.int .i64 f0_1) := by rw [hb.cell (by simp)]; simp [go_sem]
  have Ya0_2_w1 : w1.cell? ⟨w.heap.size, 2, none⟩ = some (.int .i64 f0_2) := by rw [hb.cell (by simp)]; simp [go_sem]
  have ZAa0_w1 : w.heap.size < w1.heap.size := World.block_lt_of_cell? _ _ Ya0_0_w1
  have HB1 : Hid (Below w.heap.size w w1) := Bw1
  clear hal hb Bw1
  rcases hq0 with rfl | ⟨p0, e0⟩
  · go_wp2
    go_ret
    exact ⟨rfl, HB1.out⟩
  have Z0 : Hid (kVoting.sz (f0_0, f0_1, f0_2) ≤ 2 ^ 20) := by show _ ≤ _; omega
  have u0' : q0 ≤ 2 ^ 20 := by omega
  have v0' : ¬ q0 < 0 := by omega
  clear e0
  obtain ⟨y0, hy0⟩ : ∃ y, y = (fReadText (f0_0, f0_1, f0_2) x1).1 := ⟨_, rfl⟩
  have HY0 : Hid (y0 = (fReadText (f0_0, f0_1, f0_2) x1).1) := hy0
  clear hy0
  obtain ⟨y1, hy1⟩ : ∃ y, y = (fReadText (f0_0, f0_1, f0_2) x1).2.1 := ⟨_, rfl⟩
  have HY1 : Hid (y1 = (fReadText (f0_0, f0_1, f0_2) x1).2.1) := hy1
  clear hy1
  obtain ⟨y2, hy2⟩ : ∃ y, y = (fReadText (f0_0, f0_1, f0_2) x1).2.2 := ⟨_, rfl⟩
  have HY2 : Hid (y2 = (fReadText (f0_0, f0_1, f0_2) x1).2.2) := hy2
  clear hy2
  go_wp2_with fail
  refine (toVoting_k (f0_0, f0_1, f0_2) [.slice a0_0 f0_0.length c0_0, .int .i64 f0_1, .int .i64 f0_2] (fun _ => True) _ (Kd.below H0.out HB1.out) Z0.out).mono ?_
  rintro e w2 ⟨Ds0, rfl, ho, hb⟩
  obtain ⟨bs0_0, ds0_0, _, rfl, _, _, _, _, _⟩ := kVoting_open ho
  obtain ⟨Ls0, hLs0⟩ : ∃ L, L = w1.heap.size := ⟨_, rfl⟩
  obtain ⟨Ms0, hMs0⟩ : ∃ M, M = w2.heap.size := ⟨_, rfl⟩
  have Ns0 : Hid (kVoting.is true w2 (fun k => Ls0 ≤ k ∧ k < Ms0) [.slice bs0_0 f0_0.length ds0_0, .int .i64 f0_1, .int .i64 f0_2] (f0_0, f0_1, f0_2)) := Kd.tight _ ho (fun k hk hk' => ⟨by have hz : _ ≤ k := hk'; omega, by omega⟩)
  clear ho
  have Bw2 : Below w1.heap.size w1 w2 := hb
  have zzw2 := Bw2.size
  have Ya0_0_w2 : w2.cell? ⟨w.heap.size, 0, none⟩ = some (.slice a0_0 f0_0.length c0_0) := cell_later Bw2 Ya0_0_w1
  have Ya0_1_w2 : w2.cell? ⟨w.heap.size, 1, none⟩ = some (.int .i64 f0_1) := cell_later Bw2 Ya0_1_w1
  have Ya0_2_w2 : w2.cell? ⟨w.heap.size, 2, none⟩ = some (.int .i64 f0_2) := cell_later Bw2 Ya0_2_w1
  have ZAa0_w2 : w.heap.size < w2.heap.size := World.block_lt_of_cell? _ _ Ya0_0_w2
  have HB2 : Hid (Below w.heap.size w w2) := HB1.out.trans (Bw2.mono HB1.out.size)
  clear Ya0_0_w1 Ya0_1_w1 Ya0_2_w1 HB1 hb Bw2
  have PTs0 : w.heap.size ≤ Ls0 ∧ Ms0 ≤ w2.heap.size ∧ w.heap.size < Ls0 := by omega
  clear hLs0 hMs0
  go_wp2_with fail
  refine (toIntS_k x1 a1 _ c1 (fun _ => True) _ (Kd.below H1.out HB2.out) Z1.out).mono ?_
  rintro e w3 ⟨bs1, rfl, ho, hlt, hb⟩
  clear hlt
  obtain ⟨Ls1, hLs1⟩ : ∃ L, L = w2.heap.size := ⟨_, rfl⟩
  obtain ⟨Ms1, hMs1⟩ : ∃ M, M = w3.heap.size := ⟨_, rfl⟩
  have Ns1 : Hid ((kRow kInt).is true w3 (fun k => Ls1 ≤ k ∧ k < Ms1) [.slice bs1 n1 n1] x1) := Kd.tight _ ho (fun k hk hk' => ⟨by have hz : _ ≤ k := hk'; omega, by omega⟩)
  clear ho
  have Bw3 : Below w2.heap.size w2 w3 := hb
  have zzw3 := Bw3.size
  have Ya0_0_w3 : w3.cell? ⟨w.heap.size, 0, none⟩ = some (.slice a0_0 f0_0.length c0_0) := cell_later Bw3 Ya0_0_w2
  have Ya0_1_w3 : w3.cell? ⟨w.heap.size, 1, none⟩ = some (.int .i64 f0_1) := cell_later Bw3 Ya0_1_w2
  have Ya0_2_w3 : w3.cell? ⟨w.heap.size, 2, none⟩ = some (.int .i64 f0_2) := cell_later Bw3 Ya0_2_w2
  have ZAa0_w3 : w.heap.size < w3.heap.size := World.block_lt_of_cell? _ _ Ya0_0_w3
  have s0_w3 : Hid (kVoting.is true w3 (fun k => Ls0 ≤ k ∧ k < Ms0) [.slice bs0_0 f0_0.length ds0_0, .int .i64 f0_1, .int .i64 f0_2] (f0_0, f0_1, f0_2)) := Kd.below Ns0.out Bw3
  have HB3 : Hid (Below w.heap.size w w3) := HB2.out.trans (Bw3.mono HB2.out.size)
  clear Ya0_0_w2 Ya0_1_w2 Ya0_2_w2 Ns0 HB2 hb Bw3
  have PTs1 : w.heap.size ≤ Ls1 ∧ Ms1 ≤ w3.heap.size ∧ w.heap.size < Ls1 ∧ Ms0 ≤ Ls1 := by omega
  clear hLs1 hMs1
  go_wp2_with fail
  refine (specReadText_k (f0_0, f0_1, f0_2) [.slice bs0_0 f0_0.length ds0_0, .int .i64 f0_1, .int .i64 f0_2] _ x1 _ _ _ _ _ s0_w3.out Z0.out Ns1.out Z1.out).mono ?_
  rintro e w4 ⟨rfl, _, _, hb⟩
  rw [← HY0.out]
  rw [← HY1.out]
  rw [← HY2.out]
  have Bw4 : Below w3.heap.size w3 w4 := hb
  have zzw4 := Bw4.size
  have Ya0_0_w4 : w4.cell? ⟨w.heap.size, 0, none⟩ = some (.slice a0_0 f0_0.length c0_0) := cell_later Bw4 Ya0_0_w3
  have Ya0_1_w4 : w4.cell? ⟨w.heap.size, 1, none⟩ = some (.int .i64 f0_1) := cell_later Bw4 Ya0_1_w3
  have Ya0_2_w4 : w4.cell? ⟨w.heap.size, 2, none⟩ = some (.int .i64 f0_2) := cell_later Bw4 Ya0_2_w3
  have ZAa0_w4 : w.heap.size < w4.heap.size := World.block_lt_of_cell? _ _ Ya0_0_w4
  have HB4 : Hid (Below w.heap.size w w4) := HB3.out.trans (Bw4.mono HB3.out.size)
  clear Ya0_0_w3 Ya0_1_w3 Ya0_2_w3 HB3 hb Bw4
  go_wp2_with fail
  refine (toVoting_k (f0_0, f0_1, f0_2) [.slice a0_0 f0_0.length c0_0, .int .i64 f0_1, .int .i64 f0_2] (fun _ => True) _ (Kd.below H0.out HB4.out) Z0.out).mono ?_
  rintro e w5 ⟨DX0, rfl, ho, hb⟩
  obtain ⟨bX0_0, dX0_0, _, rfl, _, _, _, _, _⟩ := kVoting_open ho
  obtain ⟨LX0, hLX0⟩ : ∃ L, L = w4.heap.size := ⟨_, rfl⟩
  obtain ⟨MX0, hMX0⟩ : ∃ M, M = w5.heap.size := ⟨_, rfl⟩
  have NX0 : Hid (kVoting.is true w5 (fun k => LX0 ≤ k ∧ k < MX0) [.slice bX0_0 f0_0.length dX0_0, .int .i64 f0_1, .int .i64 f0_2] (f0_0, f0_1, f0_2)) := Kd.tight _ ho (fun k hk hk' => ⟨by have hz : _ ≤ k := hk'; omega, by omega⟩)
  clear ho
  have Bw5 : Below w4.heap.size w4 w5 := hb
  have zzw5 := Bw5.size
  have Ya0_0_w5 : w5.cell? ⟨w.heap.size, 0, none⟩ = some (.slice a0_0 f0_0.length c0_0) := cell_later Bw5 Ya0_0_w4
  have Ya0_1_w5 : w5.cell? ⟨w.heap.size, 1, none⟩ = some (.int .i64 f0_1) := cell_later Bw5 Ya0_1_w4
  have Ya0_2_w5 : w5.cell? ⟨w.heap.size, 2, none⟩ = some (.int .i64 f0_2) := cell_later Bw5 Ya0_2_w4
  have ZAa0_w5 : w.heap.size < w5.heap.size := World.block_lt_of_cell? _ _ Ya0_0_w5
  have HB5 : Hid (Below w.heap.size w w5) := HB4.out.trans (Bw5.mono HB4.out.size)
  clear Ya0_0_w4 Ya0_1_w4 Ya0_2_w4 HB4 hb Bw5
  have PTX0 : w.heap.size ≤ LX0 ∧ MX0 ≤ w5.heap.size ∧ w.heap.size < LX0 ∧ Ms0 ≤ LX0 ∧ Ms1 ≤ LX0 := by omega
  clear hLX0 hMX0
  have PBX0 : w.heap.size ≤ w5.heap.size ∧ Ms0 ≤ w5.heap.size ∧ Ms1 ≤ w5.heap.size ∧ MX0 ≤ w5.heap.size := by omega
  go_wp2_with fail
  have hal : ∀ o0, Below w5.heap.size w5 (w5.alloc o0) := fun o0 => ((Below.refl _ _).alloc (Nat.le_refl _) o0)
  refine (toIntS_k x1 a1 _ c1 (fun _ => True) _ (Kd.below H1.out (HB5.out.trans ((hal _).mono HB5.out.size))) Z1.out).mono ?_
  rintro e w6 ⟨bX1, rfl, ho, hlt, hb⟩
  clear hlt
  obtain ⟨LX1, hLX1⟩ : ∃ L, L = w5.heap.size + 1 := ⟨_, rfl⟩
  obtain ⟨MX1, hMX1⟩ : ∃ M, M = w6.heap.size := ⟨_, rfl⟩
  have NX1 : Hid ((kRow kInt).is true w6 (fun k => LX1 ≤ k ∧ k < MX1) [.slice bX1 n1 n1] x1) := Kd.tight _ ho (fun k hk hk' => ⟨by have hz : _ ≤ k := hk'; simp only [World.size_alloc] at hz; omega, by omega⟩)
  clear ho
  have Bw6 : Below w5.heap.size w5 w6 := (hal _).trans (hb.mono (by simp))
  have zzw6 := Bw6.size
  have Ya0_0_w6 : w6.cell? ⟨w.heap.size, 0, none⟩ = some (.slice a0_0 f0_0.length c0_0) := cell_later Bw6 Ya0_0_w5
  have Ya0_1_w6 : w6.cell? ⟨w.heap.size, 1, none⟩ = some (.int .i64 f0_1) := cell_later Bw6 Ya0_1_w5
  have Ya0_2_w6 : w6.cell? ⟨w.heap.size, 2, none⟩ = some (.int .i64 f0_2) := cell_later Bw6 Ya0_2_w5
  have ZAa0_w6 : w.heap.size < w6.heap.size := World.block_lt_of_cell? _ _ Ya0_0_w6
  have YX0_0_w6 : w6.cell? ⟨w5.heap.size, 0, none⟩ = some (.slice bX0_0 f0_0.length dX0_0) := by rw [hb.cell (by simp)]; simp [go_sem]
  have YX0_1_w6 : w6.cell? ⟨w5.heap.size, 1, none⟩ = some (.int .i64 f0_1) := by rw [hb.cell (by simp)]; simp [go_sem]
  have YX0_2_w6 : w6.cell? ⟨w5.heap.size, 2, none⟩ = some (.int .i64 f0_2) := by rw [hb.cell (by simp)]; simp [go_sem]
  have ZAX0_w6 : w5.heap.size < w6.heap.size := World.block_lt_of_cell? _ _ YX0_0_w6
  have X0_w6 : Hid (kVoting.is true w6 (fun k => LX0 ≤ k ∧ k < MX0) [.slice bX0_0 f0_0.length dX0_0, .int .i64 f0_1, .int .i64 f0_2] (f0_0, f0_1, f0_2)) := Kd.below NX0.out Bw6
  have HB6 : Hid (Below w.heap.size w w6) := HB5.out.trans (Bw6.mono HB5.out.size)
  clear Ya0_0_w5 Ya0_1_w5 Ya0_2_w5 NX0 HB5 hal hb Bw6
  have PTX1 : w.heap.size ≤ LX1 ∧ MX1 ≤ w6.heap.size ∧ w.heap.size < LX1 ∧ Ms0 ≤ LX1 ∧ Ms1 ≤ LX1 ∧ MX0 ≤ LX1 ∧ w5.heap.size < LX1 := by omega
  clear hLX1 hMX1
  go_wp2_with fail
  refine (implReadText_k (f0_0, f0_1, f0_2) [.slice bX0_0 f0_0.length dX0_0, .int .i64 f0_1, .int .i64 f0_2] _ x1 _ _ _ _ _ X0_w6.out Z0.out NX1.out Z1.out).mono ?_
  rintro e w7 ⟨rfl, _, _, hb⟩
  rw [← HY0.out]
  rw [← HY1.out]
  rw [← HY2.out]
  have Bw7 : Below w6.heap.size w6 w7 := hb
  have zzw7 := Bw7.size
  have Ya0_0_w7 : w7.cell? ⟨w.heap.size, 0, none⟩ = some (.slice a0_0 f0_0.length c0_0) := cell_later Bw7 Ya0_0_w6
  have Ya0_1_w7 : w7.cell? ⟨w.heap.size, 1, none⟩ = some (.int .i64 f0_1) := cell_later Bw7 Ya0_1_w6
  have Ya0_2_w7 : w7.cell? ⟨w.heap.size, 2, none⟩ = some (.int .i64 f0_2) := cell_later Bw7 Ya0_2_w6
  have ZAa0_w7 : w.heap.size < w7.heap.size := World.block_lt_of_cell? _ _ Ya0_0_w7
  have YX0_0_w7 : w7.cell? ⟨w5.heap.size, 0, none⟩ = some (.slice bX0_0 f0_0.length dX0_0) := cell_later Bw7 YX0_0_w6
  have YX0_1_w7 : w7.cell? ⟨w5.heap.size, 1, none⟩ = some (.int .i64 f0_1) := cell_later Bw7 YX0_1_w6
  have YX0_2_w7 : w7.cell? ⟨w5.heap.size, 2, none⟩ = some (.int .i64 f0_2) := cell_later Bw7 YX0_2_w6
  have ZAX0_w7 : w5.heap.size < w7.heap.size := World.block_lt_of_cell? _ _ YX0_0_w7
  have X0_w7 : Hid (kVoting.is true w7 (fun k => LX0 ≤ k ∧ k < MX0) [.slice bX0_0 f0_0.length dX0_0, .int .i64 f0_1, .int .i64 f0_2] (f0_0, f0_1, f0_2)) := Kd.below X0_w6.out Bw7
  have X1_w7 : Hid ((kRow kInt).is true w7 (fun k => LX1 ≤ k ∧ k < MX1) [.slice bX1 n1 n1] x1) := Kd.below NX1.out Bw7
  have HB7 : Hid (Below w.heap.size w w7) := HB6.out.trans (Bw7.mono HB6.out.size)
  clear Ya0_0_w6 Ya0_1_w6 Ya0_2_w6 YX0_0_w6 YX0_1_w6 YX0_2_w6 X0_w6 NX1 HB6 hb Bw7
  go_wp2_with fail
  go_region_held3 (fun w' => w'.cell? ⟨w5.heap.size, 0, none⟩ = some (.slice bX0_0 f0_0.length dX0_0) ∧ w'.cell? ⟨w5.heap.size, 1, none⟩ = some (.int .i64 f0_1) ∧ w'.cell? ⟨w5.heap.size, 2, none⟩ = some (.int .i64 f0_2) ∧ w'.cell? ⟨w.heap.size, 0, none⟩ = some (.slice a0_0 f0_0.length c0_0) ∧ w'.cell? ⟨w.heap.size, 1, none⟩ = some (.int .i64 f0_1) ∧ w'.cell? ⟨w.heap.size, 2, none⟩ = some (.int .i64 f0_2)) (first | exact ⟨YX0_0_w7, YX0_1_w7, YX0_2_w7, Ya0_0_w7, Ya0_1_w7, Ya0_2_w7⟩ | exact ⟨(hcB _ _ (Nat.lt_of_lt_of_le ZAX0_w7 zzA)).trans ((hcA _ _ ZAX0_w7).trans YX0_0_w7), (hcB _ _ (Nat.lt_of_lt_of_le ZAX0_w7 zzA)).trans ((hcA _ _ ZAX0_w7).trans YX0_1_w7), (hcB _ _ (Nat.lt_of_lt_of_le ZAX0_w7 zzA)).trans ((hcA _ _ ZAX0_w7).trans YX0_2_w7), (hcB _ _ (Nat.lt_of_lt_of_le ZAa0_w7 zzA)).trans ((hcA _ _ ZAa0_w7).trans Ya0_0_w7), (hcB _ _ (Nat.lt_of_lt_of_le ZAa0_w7 zzA)).trans ((hcA _ _ ZAa0_w7).trans Ya0_1_w7), (hcB _ _ (Nat.lt_of_lt_of_le ZAa0_w7 zzA)).trans ((hcA _ _ ZAa0_w7).trans Ya0_2_w7)⟩ | exact ⟨(hcA _ _ ZAX0_w7).trans YX0_0_w7, (hcA _ _ ZAX0_w7).trans YX0_1_w7, (hcA _ _ ZAX0_w7).trans YX0_2_w7, (hcA _ _ ZAa0_w7).trans Ya0_0_w7, (hcA _ _ ZAa0_w7).trans Ya0_1_w7, (hcA _ _ ZAa0_w7).trans Ya0_2_w7⟩)
    (first | (go_at_call 38; refine (toVoting_k (f0_0, f0_1, f0_2) [.slice a0_0 f0_0.length c0_0, .int .i64 f0_1, .int .i64 f0_2] (fun _ => True) _ (Kd.below H0.out (HB7.out.drew)) Z0.out).mono ?_; rintro e wA ⟨DA, rfl, hoA, hbA⟩; obtain ⟨_, _, _, rfl, _, _, _, _, _⟩ := kVoting_open hoA; obtain ⟨hcA, hfA⟩ := bcell hbA; have zzA := hbA.size) | (go_at_call 32; refine (eqVoting_k (f0_0, f0_1, f0_2) [.slice bX0_0 f0_0.length dX0_0, .int .i64 f0_1, .int .i64 f0_2] _ _ _ _ (Kd.read _ (Kd.below X0_w7.out ((Below.drew (Below.refl w7.heap.size w7)).trans (hbA.mono (Nat.le_refl w7.heap.size))))) (Kd.read _ hoA)).mono ?_; rintro e w8 ⟨rfl, hbB⟩; obtain ⟨hcB, hfB⟩ := bcell hbB))
  have hb : Below w7.heap.size w7 w8 := ((Below.drew (Below.refl w7.heap.size w7)).trans (hbA.mono (Nat.le_refl w7.heap.size))).trans (hbB.mono zzA)
  clear hbA hbB hcA hfA hcB hfB hoA zzA
  have Bw8 : Below w7.heap.size w7 w8 := hb
  have zzw8 := Bw8.size
  have Ya0_0_w8 : w8.cell? ⟨w.heap.size, 0, none⟩ = some (.slice a0_0 f0_0.length c0_0) := cell_later Bw8 Ya0_0_w7
  have Ya0_1_w8 : w8.cell? ⟨w.heap.size, 1, none⟩ = some (.int .i64 f0_1) := cell_later Bw8 Ya0_1_w7
  have Ya0_2_w8 : w8.cell? ⟨w.heap.size, 2, none⟩ = some (.int .i64 f0_2) := cell_later Bw8 Ya0_2_w7
  have ZAa0_w8 : w.heap.size < w8.heap.size := World.block_lt_of_cell? _ _ Ya0_0_w8
  have YX0_0_w8 : w8.cell? ⟨w5.heap.size, 0, none⟩ = some (.slice bX0_0 f0_0.length dX0_0) := cell_later Bw8 YX0_0_w7
  have YX0_1_w8 : w8.cell? ⟨w5.heap.size, 1, none⟩ = some (.int .i64 f0_1) := cell_later Bw8 YX0_1_w7
  have YX0_2_w8 : w8.cell? ⟨w5.heap.size, 2, none⟩ = some (.int .i64 f0_2) := cell_later Bw8 YX0_2_w7
  have ZAX0_w8 : w5.heap.size < w8.heap.size := World.block_lt_of_cell? _ _ YX0_0_w8
  have X0_w8 : Hid (kVoting.is true w8 (fun k => LX0 ≤ k ∧ k < MX0) [.slice bX0_0 f0_0.length dX0_0, .int .i64 f0_1, .int .i64 f0_2] (f0_0, f0_1, f0_2)) := Kd.below X0_w7.out Bw8
  have X1_w8 : Hid ((kRow kInt).is true w8 (fun k => LX1 ≤ k ∧ k < MX1) [.slice bX1 n1 n1] x1) := Kd.below X1_w7.out Bw8
  have HB8 : Hid (Below w.heap.size w w8) := HB7.out.trans (Bw8.mono HB7.out.size)
  clear Ya0_0_w7 Ya0_1_w7 Ya0_2_w7 YX0_0_w7 YX0_1_w7 YX0_2_w7 X0_w7 X1_w7 HB7 hb Bw8
  go_wp2_with fail
  refine (toIntS_k x1 a1 _ c1 (fun _ => True) _ (Kd.below H1.out HB8.out) Z1.out).mono ?_
  rintro e w9 ⟨bE1, rfl, ho, hlt, hb⟩
  clear hlt
  obtain ⟨LE1, hLE1⟩ : ∃ L, L = w8.heap.size := ⟨_, rfl⟩
  obtain ⟨ME1, hME1⟩ : ∃ M, M = w9.heap.size := ⟨_, rfl⟩
  have NE1 : Hid ((kRow kInt).is true w9 (fun k => LE1 ≤ k ∧ k < ME1) [.slice bE1 n1 n1] x1) := Kd.tight _ ho (fun k hk hk' => ⟨by have hz : _ ≤ k := hk'; omega, by omega⟩)
  clear ho
  have Bw9 : Below w8.heap.size w8 w9 := hb
  have zzw9 := Bw9.size
  have Ya0_0_w9 : w9.cell? ⟨w.heap.size, 0, none⟩ = some (.slice a0_0 f0_0.length c0_0) := cell_later Bw9 Ya0_0_w8
  have Ya0_1_w9 : w9.cell? ⟨w.heap.size, 1, none⟩ = some (.int .i64 f0_1) := cell_later Bw9 Ya0_1_w8
  have Ya0_2_w9 : w9.cell? ⟨w.heap.size, 2, none⟩ = some (.int .i64 f0_2) := cell_later Bw9 Ya0_2_w8
  have ZAa0_w9 : w.heap.size < w9.heap.size := World.block_lt_of_cell? _ _ Ya0_0_w9
  have YX0_0_w9 : w9.cell? ⟨w5.heap.size, 0, none⟩ = some (.slice bX0_0 f0_0.length dX0_0) := cell_later Bw9 YX0_0_w8
  have YX0_1_w9 : w9.cell? ⟨w5.heap.size, 1, none⟩ = some (.int .i64 f0_1) := cell_later Bw9 YX0_1_w8
  have YX0_2_w9 : w9.cell? ⟨w5.heap.size, 2, none⟩ = some (.int .i64 f0_2) := cell_later Bw9 YX0_2_w8
  have ZAX0_w9 : w5.heap.size < w9.heap.size := World.block_lt_of_cell? _ _ YX0_0_w9
  have X0_w9 : Hid (kVoting.is true w9 (fun k => LX0 ≤ k ∧ k < MX0) [.slice bX0_0 f0_0.length dX0_0, .int .i64 f0_1, .int .i64 f0_2] (f0_0, f0_1, f0_2)) := Kd.below X0_w8.out Bw9
  have X1_w9 : Hid ((kRow kInt).is true w9 (fun k => LX1 ≤ k ∧ k < MX1) [.slice bX1 n1 n1] x1) := Kd.below X1_w8.out Bw9
  have HB9 : Hid (Below w.heap.size w w9) := HB8.out.trans (Bw9.mono HB8.out.size)
  clear Ya0_0_w8 Ya0_1_w8 Ya0_2_w8 YX0_0_w8 YX0_1_w8 YX0_2_w8 X0_w8 X1_w8 HB8 hb Bw9
  have PTE1 : w.heap.size ≤ LE1 ∧ ME1 ≤ w9.heap.size ∧ w.heap.size < LE1 ∧ Ms0 ≤ LE1 ∧ Ms1 ≤ LE1 ∧ MX0 ≤ LE1 ∧ w5.heap.size < LE1 ∧ MX1 ≤ LE1 := by omega
  clear hLE1 hME1
  go_wp2_with fail
  refine (eqIntS_k x1 bX1 bE1 _ n1 n1 _ _ _ (Kd.read _ X1_w9.out) (Kd.read _ NE1.out)).mono ?_
  rintro e w10 ⟨rfl, hb⟩
  have Bw10 : Below w9.heap.size w9 w10 := hb
  have zzw10 := Bw10.size
  have Ya0_0_w10 : w10.cell? ⟨w.heap.size, 0, none⟩ = some (.slice a0_0 f0_0.length c0_0) := cell_later Bw10 Ya0_0_w9
  have Ya0_1_w10 : w10.cell? ⟨w.heap.size, 1, none⟩ = some (.int .i64 f0_1) := cell_later Bw10 Ya0_1_w9
  have Ya0_2_w10 : w10.cell? ⟨w.heap.size, 2, none⟩ = some (.int .i64 f0_2) := cell_later Bw10 Ya0_2_w9
  have ZAa0_w10 : w.heap.size < w10.heap.size := World.block_lt_of_cell? _ _ Ya0_0_w10
  have YX0_0_w10 : w10.cell? ⟨w5.heap.size, 0, none⟩ = some (.slice bX0_0 f0_0.length dX0_0) := cell_later Bw10 YX0_0_w9
  have YX0_1_w10 : w10.cell? ⟨w5.heap.size, 1, none⟩ = some (.int .i64 f0_1) := cell_later Bw10 YX0_1_w9
  have YX0_2_w10 : w10.cell? ⟨w5.heap.size, 2, none⟩ = some (.int .i64 f0_2) := cell_later Bw10 YX0_2_w9
  have ZAX0_w10 : w5.heap.size < w10.heap.size := World.block_lt_of_cell? _ _ YX0_0_w10
  have X0_w10 : Hid (kVoting.is true w10 (fun k => LX0 ≤ k ∧ k < MX0) [.slice bX0_0 f0_0.length dX0_0, .int .i64 f0_1, .int .i64 f0_2] (f0_0, f0_1, f0_2)) := Kd.below X0_w9.out Bw10
  have X1_w10 : Hid ((kRow kInt).is true w10 (fun k => LX1 ≤ k ∧ k < MX1) [.slice bX1 n1 n1] x1) := Kd.below X1_w9.out Bw10
  have HB10 : Hid (Below w.heap.size w w10) := HB9.out.trans (Bw10.mono HB9.out.size)
  clear Ya0_0_w9 Ya0_1_w9 Ya0_2_w9 YX0_0_w9 YX0_1_w9 YX0_2_w9 X0_w9 X1_w9 HB9 hb Bw10
  go_wp2
  go_ret
  exact ⟨rfl, HB10.out⟩

end Go.Proofs.Ytbkdkiodkcpbeaa
