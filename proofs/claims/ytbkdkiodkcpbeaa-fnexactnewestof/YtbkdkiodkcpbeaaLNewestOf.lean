/- The law of NewestOf, walked: over what the program and the specification answer. No condition. -/
import Derived.Test.YtbkdkiodkcpbeaaQuO
import Derived.Test.YtbkdkiodkcpbeaaKSint
namespace Go.Proofs.Ytbkdkiodkcpbeaa
open Go.RowKit
set_option linter.unusedVariables false

set_option maxRecDepth 100000 in
set_option maxHeartbeats 4000000 in
theorem lawNewestOf_k (x0 : DVoting) (C0 : List Value) (w : World) (h0 : kVoting.is false w (fun _ => True) C0 x0) :
    Calls Try.prog 12 #[.agg C0.toArray] w fun e w' => e = .returned (.bool true) ∧ Below w.heap.size w w' := by
  obtain ⟨f0_0, f0_1, f0_2⟩ := x0
  obtain ⟨a0_0, c0_0, _, rfl, _, _, _, _, _⟩ := kVoting_open h0
  have H0 : Hid (kVoting.is false w (fun _ => True) [.slice a0_0 f0_0.length c0_0, .int .i64 f0_1, .int .i64 f0_2] (f0_0, f0_1, f0_2)) := h0
  clear h0
  show Calls Try.prog 12 #[.agg #[.slice a0_0 f0_0.length c0_0, .int .i64 f0_1, .int .i64 f0_2]] w _
  go_enter Try.func12, Try.ntmps12
  go_wp2_with fail
  have hal : ∀ o0, Below w.heap.size w (w.alloc o0) := fun o0 => ((Below.refl _ _).alloc (Nat.le_refl _) o0)
  refine (szVoting_k (f0_0, f0_1, f0_2) [.slice a0_0 f0_0.length c0_0, .int .i64 f0_1, .int .i64 f0_2] (fun _ => True) _ _ (by omega) (by omega) (Kd.below H0.out (hal _))).mono ?_
  rintro e w1 ⟨q0, rfl, hq0, hb⟩
  have Bw1 : Below w.heap.size w w1 := (hal _).trans (hb.mono (by simp))
  have zzw1 := Bw1.size
  have Ya0_0_w1 : w1.cell? ⟨w.heap.size, 0, none⟩ = some (.slice a0_0 f0_0.length c0_0) := by rw [hb.cell (by simp)]; simp [go_sem]
  have Ya0_1_w1 : w1.cell? ⟨w.heap.size, 1, none⟩ = some (.int .i64 f0_1) := by rw [hb.cell (by simp)]; simp [go_sem]
  have Ya0_2_w1 : w1.cell? ⟨w.heap.size, 2, none⟩ = some (.int .i64 f0_2) := by rw [hb.cell (by simp)]; simp [go_sem]
  have ZAa0_w1 : w.heap.size < w1.heap.size := World.block_lt_of_cell? _ _ Ya0_0_w1
  have HB1 : Hid (Below w.heap.size w w1) := Bw1
  clear hal hb Bw1
  rcases hq0 with rfl | ⟨p0, e0⟩
  · go_wp2
    go_ret
    exact ⟨rfl, HB1.out⟩
  have Z0 : Hid (kVoting.sz (f0_0, f0_1, f0_2) ≤ 2 ^ 20) := by show _ ≤ _; omega
  have u0' : q0 ≤ 2 ^ 20 := by omega
  have v0' : ¬ q0 < 0 := by omega
  clear e0
  obtain ⟨y0, hy0⟩ : ∃ y, y = (fNewestOf (f0_0, f0_1, f0_2)).1 := ⟨_, rfl⟩
  have HY0 : Hid (y0 = (fNewestOf (f0_0, f0_1, f0_2)).1) := hy0
  clear hy0
  obtain ⟨y1, hy1⟩ : ∃ y, y = (fNewestOf (f0_0, f0_1, f0_2)).2.1 := ⟨_, rfl⟩
  have HY1 : Hid (y1 = (fNewestOf (f0_0, f0_1, f0_2)).2.1) := hy1
  clear hy1
  obtain ⟨y2, hy2⟩ : ∃ y, y = (fNewestOf (f0_0, f0_1, f0_2)).2.2 := ⟨_, rfl⟩
  have HY2 : Hid (y2 = (fNewestOf (f0_0, f0_1, f0_2)).2.2) := hy2
  clear hy2
  go_wp2_with fail
  refine (toVoting_k (f0_0, f0_1, f0_2) [.slice a0_0 f0_0.length c0_0, .int .i64 f0_1, .int .i64 f0_2] (fun _ => True) _ (Kd.below H0.out HB1.out) Z0.out).mono ?_
  rintro e w2 ⟨Ds0, rfl, ho, hb⟩
  obtain ⟨bs0_0, ds0_0, _, rfl, _, _, _, _, _⟩ := kVoting_open ho
  obtain ⟨Ls0, hLs0⟩ : ∃ L, L = w1.heap.size := ⟨_, rfl⟩
  obtain ⟨Ms0, hMs0⟩ : ∃ M, M = w2.heap.size := ⟨_, rfl⟩
  have Ns0 : Hid (kVoting.is true w2 (fun k => Ls0 ≤ k ∧ k < Ms0) [.slice bs0_0 f0_0.length ds0_0, .int .i64 f0_1, .int .i64 f0_2] (f0_0, f0_1, f0_2)) := Kd.tight _ ho (fun k hk hk' => ⟨by have hz : _ ≤ k := hk'; omega, by omega⟩)
  clear ho
  have Bw2 : Below w1.heap.size w1 w2 := hb
  have zzw2 := Bw2.size
  have Ya0_0_w2 : w2.cell? ⟨w.heap.size, 0, none⟩ = some (.slice a0_0 f0_0.length c0_0) := cell_later Bw2 Ya0_0_w1
  have Ya0_1_w2 : w2.cell? ⟨w.heap.size, 1, none⟩ = some (.int .i64 f0_1) := cell_later Bw2 Ya0_1_w1
  have Ya0_2_w2 : w2.cell? ⟨w.heap.size, 2, none⟩ = some (.int .i64 f0_2) := cell_later Bw2 Ya0_2_w1
  have ZAa0_w2 : w.heap.size < w2.heap.size := World.block_lt_of_cell? _ _ Ya0_0_w2
  have HB2 : Hid (Below w.heap.size w w2) := HB1.out.trans (Bw2.mono HB1.out.size)
  clear Ya0_0_w1 Ya0_1_w1 Ya0_2_w1 HB1 hb Bw2
  have PTs0 : w.heap.size ≤ Ls0 ∧ Ms0 ≤ w2.heap.size ∧ w.heap.size < Ls0 := by omega
  clear hLs0 hMs0
  go_wp2_with fail
  refine (specNewestOf_k (f0_0, f0_1, f0_2) [.slice bs0_0 f0_0.length ds0_0, .int .i64 f0_1, .int .i64 f0_2] _ _ Ns0.out Z0.out).mono ?_
  rintro e w3 ⟨rfl, _, _, hb⟩
  rw [← HY0.out]
  rw [← HY1.out]
  rw [← HY2.out]
  have Bw3 : Below w2.heap.size w2 w3 := hb
  have zzw3 := Bw3.size
  have Ya0_0_w3 : w3.cell? ⟨w.heap.size, 0, none⟩ = some (.slice a0_0 f0_0.length c0_0) := cell_later Bw3 Ya0_0_w2
  have Ya0_1_w3 : w3.cell? ⟨w.heap.size, 1, none⟩ = some (.int .i64 f0_1) := cell_later Bw3 Ya0_1_w2
  have Ya0_2_w3 : w3.cell? ⟨w.heap.size, 2, none⟩ = some (.int .i64 f0_2) := cell_later Bw3 Ya0_2_w2
  have ZAa0_w3 : w.heap.size < w3.heap.size := World.block_lt_of_cell? _ _ Ya0_0_w3
  have HB3 : Hid (Below w.heap.size w w3) := HB2.out.trans (Bw3.mono HB2.out.size)
  clear Ya0_0_w2 Ya0_1_w2 Ya0_2_w2 HB2 hb Bw3
  go_wp2_with fail
  refine (toVoting_k (f0_0, f0_1, f0_2) [.slice a0_0 f0_0.length c0_0, .int .i64 f0_1, .int .i64 f0_2] (fun _ => True) _ (Kd.below H0.out HB3.out) Z0.out).mono ?_
  rintro e w4 ⟨DX0, rfl, ho, hb⟩
  obtain ⟨bX0_0, dX0_0, _, rfl, _, _, _, _, _⟩ := kVoting_open ho
  obtain ⟨LX0, hLX0⟩ : ∃ L, L = w3.heap.size := ⟨_, rfl⟩
  obtain ⟨MX0, hMX0⟩ : ∃ M, M = w4.heap.size := ⟨_, rfl⟩
  have NX0 : Hid (kVoting.is true w4 (fun k => LX0 ≤ k ∧ k < MX0) [.slice bX0_0 f0_0.length dX0_0, .int .i64 f0_1, .int .i64 f0_2] (f0_0, f0_1, f0_2)) := Kd.tight _ ho (fun k hk hk' => ⟨by have hz : _ ≤ k := hk'; omega, by omega⟩)
  clear ho
  have Bw4 : Below w3.heap.size w3 w4 := hb
  have zzw4 := Bw4.size
  have Ya0_0_w4 : w4.cell? ⟨w.heap.size, 0, none⟩ = some (.slice a0_0 f0_0.length c0_0) := cell_later Bw4 Ya0_0_w3
  have Ya0_1_w4 : w4.cell? ⟨w.heap.size, 1, none⟩ = some (.int .i64 f0_1) := cell_later Bw4 Ya0_1_w3
  have Ya0_2_w4 : w4.cell? ⟨w.heap.size, 2, none⟩ = some (.int .i64 f0_2) := cell_later Bw4 Ya0_2_w3
  have ZAa0_w4 : w.heap.size < w4.heap.size := World.block_lt_of_cell? _ _ Ya0_0_w4
  have HB4 : Hid (Below w.heap.size w w4) := HB3.out.trans (Bw4.mono HB3.out.size)
  clear Ya0_0_w3 Ya0_1_w3 Ya0_2_w3 HB3 hb Bw4
  have PTX0 : w.heap.size ≤ LX0 ∧ MX0 ≤ w4.heap.size ∧ w.heap.size < LX0 ∧ Ms0 ≤ LX0 := by omega
  clear hLX0 hMX0
  have PBX0 : w.heap.size ≤ w4.heap.size ∧ Ms0 ≤ w4.heap.size ∧ MX0 ≤ w4.heap.size := by omega
  go_wp2_with fail
  have hal : ∀ o0, Below w4.heap.size w4 (w4.alloc o0) := fun o0 => ((Below.refl _ _).alloc (Nat.le_refl _) o0)
  refine (implNewestOf_k (f0_0, f0_1, f0_2) [.slice bX0_0 f0_0.length dX0_0, .int .i64 f0_1, .int .i64 f0_2] _ _ (Kd.below NX0.out (hal _)) Z0.out).mono ?_
  rintro e w5 ⟨rfl, _, _, hb⟩
  rw [← HY0.out]
  rw [← HY1.out]
  rw [← HY2.out]
  have Bw5 : Below w4.heap.size w4 w5 := (hal _).trans (hb.mono (by simp))
  have zzw5 := Bw5.size
  have Ya0_0_w5 : w5.cell? ⟨w.heap.size, 0, none⟩ = some (.slice a0_0 f0_0.length c0_0) := cell_later Bw5 Ya0_0_w4
  have Ya0_1_w5 : w5.cell? ⟨w.heap.size, 1, none⟩ = some (.int .i64 f0_1) := cell_later Bw5 Ya0_1_w4
  have Ya0_2_w5 : w5.cell? ⟨w.heap.size, 2, none⟩ = some (.int .i64 f0_2) := cell_later Bw5 Ya0_2_w4
  have ZAa0_w5 : w.heap.size < w5.heap.size := World.block_lt_of_cell? _ _ Ya0_0_w5
  have YX0_0_w5 : w5.cell? ⟨w4.heap.size, 0, none⟩ = some (.slice bX0_0 f0_0.length dX0_0) := by rw [hb.cell (by simp)]; simp [go_sem]
  have YX0_1_w5 : w5.cell? ⟨w4.heap.size, 1, none⟩ = some (.int .i64 f0_1) := by rw [hb.cell (by simp)]; simp [go_sem]
  have YX0_2_w5 : w5.cell? ⟨w4.heap.size, 2, none⟩ = some (.int .i64 f0_2) := by rw [hb.cell (by simp)]; simp [go_sem]
  have ZAX0_w5 : w4.heap.size < w5.heap.size := World.block_lt_of_cell? _ _ YX0_0_w5
  have X0_w5 : Hid (kVoting.is true w5 (fun k => LX0 ≤ k ∧ k < MX0) [.slice bX0_0 f0_0.length dX0_0, .int .i64 f0_1, .int .i64 f0_2] (f0_0, f0_1, f0_2)) := Kd.below NX0.out Bw5
  have HB5 : Hid (Below w.heap.size w w5) := HB4.out.trans (Bw5.mono HB4.out.size)
  clear Ya0_0_w4 Ya0_1_w4 Ya0_2_w4 NX0 HB4 hal hb Bw5
  go_wp2_with fail
  go_region_held3 (fun w' => w'.cell? ⟨w4.heap.size, 0, none⟩ = some (.slice bX0_0 f0_0.length dX0_0) ∧ w'.cell? ⟨w4.heap.size, 1, none⟩ = some (.int .i64 f0_1) ∧ w'.cell? ⟨w4.heap.size, 2, none⟩ = some (.int .i64 f0_2) ∧ w'.cell? ⟨w.heap.size, 0, none⟩ = some (.slice a0_0 f0_0.length c0_0) ∧ w'.cell? ⟨w.heap.size, 1, none⟩ = some (.int .i64 f0_1) ∧ w'.cell? ⟨w.heap.size, 2, none⟩ = some (.int .i64 f0_2)) (first | exact ⟨YX0_0_w5, YX0_1_w5, YX0_2_w5, Ya0_0_w5, Ya0_1_w5, Ya0_2_w5⟩ | exact ⟨(hcB _ _ (Nat.lt_of_lt_of_le ZAX0_w5 zzA)).trans ((hcA _ _ ZAX0_w5).trans YX0_0_w5), (hcB _ _ (Nat.lt_of_lt_of_le ZAX0_w5 zzA)).trans ((hcA _ _ ZAX0_w5).trans YX0_1_w5), (hcB _ _ (Nat.lt_of_lt_of_le ZAX0_w5 zzA)).trans ((hcA _ _ ZAX0_w5).trans YX0_2_w5), (hcB _ _ (Nat.lt_of_lt_of_le ZAa0_w5 zzA)).trans ((hcA _ _ ZAa0_w5).trans Ya0_0_w5), (hcB _ _ (Nat.lt_of_lt_of_le ZAa0_w5 zzA)).trans ((hcA _ _ ZAa0_w5).trans Ya0_1_w5), (hcB _ _ (Nat.lt_of_lt_of_le ZAa0_w5 zzA)).trans ((hcA _ _ ZAa0_w5).trans Ya0_2_w5)⟩ | exact ⟨(hcA _ _ ZAX0_w5).trans YX0_0_w5, (hcA _ _ ZAX0_w5).trans YX0_1_w5, (hcA _ _ ZAX0_w5).trans YX0_2_w5, (hcA _ _ ZAa0_w5).trans Ya0_0_w5, (hcA _ _ ZAa0_w5).trans Ya0_1_w5, (hcA _ _ ZAa0_w5).trans Ya0_2_w5⟩)
    (first | (go_at_call 38; refine (toVoting_k (f0_0, f0_1, f0_2) [.slice a0_0 f0_0.length c0_0, .int .i64 f0_1, .int .i64 f0_2] (fun _ => True) _ (Kd.below H0.out (HB5.out.drew)) Z0.out).mono ?_; rintro e wA ⟨DA, rfl, hoA, hbA⟩; obtain ⟨_, _, _, rfl, _, _, _, _, _⟩ := kVoting_open hoA; obtain ⟨hcA, hfA⟩ := bcell hbA; have zzA := hbA.size) | (go_at_call 32; refine (eqVoting_k (f0_0, f0_1, f0_2) [.slice bX0_0 f0_0.length dX0_0, .int .i64 f0_1, .int .i64 f0_2] _ _ _ _ (Kd.read _ (Kd.below X0_w5.out ((Below.drew (Below.refl w5.heap.size w5)).trans (hbA.mono (Nat.le_refl w5.heap.size))))) (Kd.read _ hoA)).mono ?_; rintro e w6 ⟨rfl, hbB⟩; obtain ⟨hcB, hfB⟩ := bcell hbB))
  have hb : Below w5.heap.size w5 w6 := ((Below.drew (Below.refl w5.heap.size w5)).trans (hbA.mono (Nat.le_refl w5.heap.size))).trans (hbB.mono zzA)
  clear hbA hbB hcA hfA hcB hfB hoA zzA
  have Bw6 : Below w5.heap.size w5 w6 := hb
  have zzw6 := Bw6.size
  have Ya0_0_w6 : w6.cell? ⟨w.heap.size, 0, none⟩ = some (.slice a0_0 f0_0.length c0_0) := cell_later Bw6 Ya0_0_w5
  have Ya0_1_w6 : w6.cell? ⟨w.heap.size, 1, none⟩ = some (.int .i64 f0_1) := cell_later Bw6 Ya0_1_w5
  have Ya0_2_w6 : w6.cell? ⟨w.heap.size, 2, none⟩ = some (.int .i64 f0_2) := cell_later Bw6 Ya0_2_w5
  have ZAa0_w6 : w.heap.size < w6.heap.size := World.block_lt_of_cell? _ _ Ya0_0_w6
  have YX0_0_w6 : w6.cell? ⟨w4.heap.size, 0, none⟩ = some (.slice bX0_0 f0_0.length dX0_0) := cell_later Bw6 YX0_0_w5
  have YX0_1_w6 : w6.cell? ⟨w4.heap.size, 1, none⟩ = some (.int .i64 f0_1) := cell_later Bw6 YX0_1_w5
  have YX0_2_w6 : w6.cell? ⟨w4.heap.size, 2, none⟩ = some (.int .i64 f0_2) := cell_later Bw6 YX0_2_w5
  have ZAX0_w6 : w4.heap.size < w6.heap.size := World.block_lt_of_cell? _ _ YX0_0_w6
  have X0_w6 : Hid (kVoting.is true w6 (fun k => LX0 ≤ k ∧ k < MX0) [.slice bX0_0 f0_0.length dX0_0, .int .i64 f0_1, .int .i64 f0_2] (f0_0, f0_1, f0_2)) := Kd.below X0_w5.out Bw6
  have HB6 : Hid (Below w.heap.size w w6) := HB5.out.trans (Bw6.mono HB5.out.size)
  clear Ya0_0_w5 Ya0_1_w5 Ya0_2_w5 YX0_0_w5 YX0_1_w5 YX0_2_w5 X0_w5 HB5 hb Bw6
  go_wp2
  go_ret
  exact ⟨rfl, HB6.out⟩

end Go.Proofs.Ytbkdkiodkcpbeaa
