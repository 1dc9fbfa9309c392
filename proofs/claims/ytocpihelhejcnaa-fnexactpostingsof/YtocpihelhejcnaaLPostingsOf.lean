/- The law of PostingsOf, walked: over what the program and the specification answer. No condition. -/
import Derived.Test.YtocpihelhejcnaaLoS
import Derived.Test.YtocpihelhejcnaaKWords
import Derived.Test.YtocpihelhejcnaaKPosting
import Derived.Test.YtocpihelhejcnaaKOWords
namespace Go.Proofs.Ytocpihelhejcnaa
open Go.RowKit
set_option linter.unusedVariables false

set_option maxRecDepth 100000 in
set_option maxHeartbeats 4000000 in
theorem lawPostingsOf_k (x0 : DWords) (C0 : List Value) (x1 : ByteArray) (w : World) (h0 : kWords.is false w (fun _ => True) C0 x0) (h1 : x1.size ≤ maxLen) :
    Calls Try.prog 5 #[.agg C0.toArray, .string x1] w fun e w' => e = .returned (.bool true) ∧ Below w.heap.size w w' := by
  obtain ⟨f0_0, f0_1⟩ := x0
  obtain ⟨a0_1, c0_1, _, rfl, _, _, _, _⟩ := kWords_open h0
  have H0 : Hid (kWords.is false w (fun _ => True) [.int .i64 f0_0, .slice a0_1 f0_1.length c0_1] (f0_0, f0_1)) := h0
  clear h0
  unfold maxLen at h1
  by_cases c1' : x1.size ≤ 1048576
  case neg =>
    have hk' : (1048576 : Int) < (x1.size : Int) := by omega
    show Calls Try.prog 5 #[.agg #[.int .i64 f0_0, .slice a0_1 f0_1.length c0_1], .string x1] w _
    go_enter Try.func5, Try.ntmps5
    go_wp2_with fail
    go_ret
    exact ⟨rfl, by go_grown⟩
  have c1 : ¬ (1048576 : Int) < (x1.size : Int) := by omega
  show Calls Try.prog 5 #[.agg #[.int .i64 f0_0, .slice a0_1 f0_1.length c0_1], .string x1] w _
  go_enter Try.func5, Try.ntmps5
  go_wp2_with fail
  have hal : ∀ o0, Below w.heap.size w (w.alloc o0) := fun o0 => ((Below.refl _ _).alloc (Nat.le_refl _) o0)
  refine (szWords_k (f0_0, f0_1) [.int .i64 f0_0, .slice a0_1 f0_1.length c0_1] (fun _ => True) _ _ (by omega) (by omega) (Kd.below H0.out (hal _))).mono ?_
  rintro e w1 ⟨q0, rfl, hq0, hb⟩
  have Bw1 : Below w.heap.size w w1 := (hal _).trans (hb.mono (by simp))
  have zzw1 := Bw1.size
  have Ya0_0_w1 : w1.cell? ⟨w.heap.size, 0, none⟩ = some (.int .i64 f0_0) := by rw [hb.cell (by simp)]; simp [go_sem]
  have Ya0_1_w1 : w1.cell? ⟨w.heap.size, 1, none⟩ = some (.slice a0_1 f0_1.length c0_1) := by rw [hb.cell (by simp)]; simp [go_sem]
  have ZAa0_w1 : w.heap.size < w1.heap.size := World.block_lt_of_cell? _ _ Ya0_0_w1
  have HB1 : Hid (Below w.heap.size w w1) := Bw1
  clear hal hb Bw1
  rcases hq0 with rfl | ⟨p0, e0⟩
  · go_wp2
    go_ret
    exact ⟨rfl, HB1.out⟩
  have Z0 : Hid (kWords.sz (f0_0, f0_1) ≤ 2 ^ 20) := by show _ ≤ _; omega
  have u0' : q0 ≤ 2 ^ 20 := by omega
  have v0' : ¬ q0 < 0 := by omega
  clear e0
  obtain ⟨y0, hy0⟩ : ∃ y, y = (fPostingsOf (f0_0, f0_1) x1).1 := ⟨_, rfl⟩
  have HY0 : Hid (y0 = (fPostingsOf (f0_0, f0_1) x1).1) := hy0
  clear hy0
  obtain ⟨y1, hy1⟩ : ∃ y, y = (fPostingsOf (f0_0, f0_1) x1).2 := ⟨_, rfl⟩
  have HY1 : Hid (y1 = (fPostingsOf (f0_0, f0_1) x1).2) := hy1
  clear hy1
  go_wp2_with fail
  refine (toWords_k (f0_0, f0_1) [.int .i64 f0_0, .slice a0_1 f0_1.length c0_1] (fun _ => True) _ (Kd.below H0.out HB1.out) Z0.out).mono ?_
  rintro e w2 ⟨Ds0, rfl, ho, hb⟩
  obtain ⟨bs0_1, ds0_1, _, rfl, _, _, _, _⟩ := kWords_open ho
  obtain ⟨Ls0, hLs0⟩ : ∃ L, L = w1.heap.size := ⟨_, rfl⟩
  obtain ⟨Ms0, hMs0⟩ : ∃ M, M = w2.heap.size := ⟨_, rfl⟩
  have Ns0 : Hid (kWords.is true w2 (fun k => Ls0 ≤ k ∧ k < Ms0) [.int .i64 f0_0, .slice bs0_1 f0_1.length ds0_1] (f0_0, f0_1)) := Kd.tight _ ho (fun k hk hk' => ⟨by have hz : _ ≤ k := hk'; omega, by omega⟩)
  clear ho
  have Bw2 : Below w1.heap.size w1 w2 := hb
  have zzw2 := Bw2.size
  have Ya0_0_w2 : w2.cell? ⟨w.heap.size, 0, none⟩ = some (.int .i64 f0_0) := cell_later Bw2 Ya0_0_w1
  have Ya0_1_w2 : w2.cell? ⟨w.heap.size, 1, none⟩ = some (.slice a0_1 f0_1.length c0_1) := cell_later Bw2 Ya0_1_w1
  have ZAa0_w2 : w.heap.size < w2.heap.size := World.block_lt_of_cell? _ _ Ya0_0_w2
  have HB2 : Hid (Below w.heap.size w w2) := HB1.out.trans (Bw2.mono HB1.out.size)
  clear Ya0_0_w1 Ya0_1_w1 HB1 hb Bw2
  have PTs0 : w.heap.size ≤ Ls0 ∧ Ms0 ≤ w2.heap.size ∧ w.heap.size < Ls0 := by omega
  clear hLs0 hMs0
  go_wp2_with fail
  refine (specPostingsOf_k (f0_0, f0_1) [.int .i64 f0_0, .slice bs0_1 f0_1.length ds0_1] _ x1 _ (Kd.read _ Ns0.out) Z0.out (by omega)).mono ?_
  rintro e w3 ⟨bW0, nW0, dW0, TW0, rfl, rW0, sW0, kW0, hb⟩
  obtain rfl := row_len rW0
  rw [← HY0.out] at rW0 kW0 ⊢
  rw [← HY1.out]
  have KC0 : Hid (sums kPosting.cnt y0 ≤ 2 ^ 26) := kW0
  obtain ⟨LW0, hLW0⟩ : ∃ L, L = w2.heap.size := ⟨_, rfl⟩
  obtain ⟨MW0, hMW0⟩ : ∃ M, M = w3.heap.size := ⟨_, rfl⟩
  have NW0 : Hid ((kRow kPosting).is true w3 (fun k => LW0 ≤ k ∧ k < MW0) [.slice bW0 y0.length dW0] y0) := Kd.tight _ rW0 (fun k hk hk' => ⟨by have hz := sW0 k hk'; omega, by omega⟩)
  clear rW0 sW0 kW0
  have Bw3 : Below w2.heap.size w2 w3 := hb
  have zzw3 := Bw3.size
  have Ya0_0_w3 : w3.cell? ⟨w.heap.size, 0, none⟩ = some (.int .i64 f0_0) := cell_later Bw3 Ya0_0_w2
  have Ya0_1_w3 : w3.cell? ⟨w.heap.size, 1, none⟩ = some (.slice a0_1 f0_1.length c0_1) := cell_later Bw3 Ya0_1_w2
  have ZAa0_w3 : w.heap.size < w3.heap.size := World.block_lt_of_cell? _ _ Ya0_0_w3
  have HB3 : Hid (Below w.heap.size w w3) := HB2.out.trans (Bw3.mono HB2.out.size)
  clear Ya0_0_w2 Ya0_1_w2 HB2 hb Bw3
  have PTW0 : w.heap.size ≤ LW0 ∧ MW0 ≤ w3.heap.size ∧ w.heap.size < LW0 ∧ Ms0 ≤ LW0 := by omega
  clear hLW0 hMW0
  go_wp2_with fail
  refine (toWords_k (f0_0, f0_1) [.int .i64 f0_0, .slice a0_1 f0_1.length c0_1] (fun _ => True) _ (Kd.below H0.out HB3.out) Z0.out).mono ?_
  rintro e w4 ⟨DX0, rfl, ho, hb⟩
  obtain ⟨bX0_1, dX0_1, _, rfl, _, _, _, _⟩ := kWords_open ho
  obtain ⟨LX0, hLX0⟩ : ∃ L, L = w3.heap.size := ⟨_, rfl⟩
  obtain ⟨MX0, hMX0⟩ : ∃ M, M = w4.heap.size := ⟨_, rfl⟩
  have NX0 : Hid (kWords.is true w4 (fun k => LX0 ≤ k ∧ k < MX0) [.int .i64 f0_0, .slice bX0_1 f0_1.length dX0_1] (f0_0, f0_1)) := Kd.tight _ ho (fun k hk hk' => ⟨by have hz : _ ≤ k := hk'; omega, by omega⟩)
  clear ho
  have Bw4 : Below w3.heap.size w3 w4 := hb
  have zzw4 := Bw4.size
  have Ya0_0_w4 : w4.cell? ⟨w.heap.size, 0, none⟩ = some (.int .i64 f0_0) := cell_later Bw4 Ya0_0_w3
  have Ya0_1_w4 : w4.cell? ⟨w.heap.size, 1, none⟩ = some (.slice a0_1 f0_1.length c0_1) := cell_later Bw4 Ya0_1_w3
  have ZAa0_w4 : w.heap.size < w4.heap.size := World.block_lt_of_cell? _ _ Ya0_0_w4
  have W0_w4 : Hid ((kRow kPosting).is true w4 (fun k => LW0 ≤ k ∧ k < MW0) [.slice bW0 y0.length dW0] y0) := Kd.below NW0.out Bw4
  have HB4 : Hid (Below w.heap.size w w4) := HB3.out.trans (Bw4.mono HB3.out.size)
  clear Ya0_0_w3 Ya0_1_w3 NW0 HB3 hb Bw4
  have PTX0 : w.heap.size ≤ LX0 ∧ MX0 ≤ w4.heap.size ∧ w.heap.size < LX0 ∧ Ms0 ≤ LX0 ∧ MW0 ≤ LX0 := by omega
  clear hLX0 hMX0
  have PBX0 : w.heap.size ≤ w4.heap.size ∧ Ms0 ≤ w4.heap.size ∧ MW0 ≤ w4.heap.size ∧ MX0 ≤ w4.heap.size := by omega
  go_wp2_with fail
  have hal : ∀ o0, Below w4.heap.size w4 (w4.alloc o0) := fun o0 => ((Below.refl _ _).alloc (Nat.le_refl _) o0)
  refine (implPostingsOf_k (f0_0, f0_1) [.int .i64 f0_0, .slice bX0_1 f0_1.length dX0_1] _ x1 _ (Kd.read _ (Kd.below NX0.out (hal _))) Z0.out (by omega)).mono ?_
  rintro e w5 ⟨bG0, nG0, dG0, TG0, rfl, rG0, sG0, kG0, hb⟩
  obtain rfl := row_len rG0
  rw [← HY0.out] at rG0 kG0 ⊢
  rw [← HY1.out]
  clear kG0
  obtain ⟨LG0, hLG0⟩ : ∃ L, L = w4.heap.size + 1 := ⟨_, rfl⟩
  obtain ⟨MG0, hMG0⟩ : ∃ M, M = w5.heap.size := ⟨_, rfl⟩
  have NG0 : Hid ((kRow kPosting).is true w5 (fun k => LG0 ≤ k ∧ k < MG0) [.slice bG0 y0.length dG0] y0) := Kd.tight _ rG0 (fun k hk hk' => ⟨by have hz := sG0 k hk'; simp only [World.size_alloc] at hz; omega, by omega⟩)
  clear rG0 sG0
  have Bw5 : Below w4.heap.size w4 w5 := (hal _).trans (hb.mono (by simp))
  have zzw5 := Bw5.size
  have Ya0_0_w5 : w5.cell? ⟨w.heap.size, 0, none⟩ = some (.int .i64 f0_0) := cell_later Bw5 Ya0_0_w4
  have Ya0_1_w5 : w5.cell? ⟨w.heap.size, 1, none⟩ = some (.slice a0_1 f0_1.length c0_1) := cell_later Bw5 Ya0_1_w4
  have ZAa0_w5 : w.heap.size < w5.heap.size := World.block_lt_of_cell? _ _ Ya0_0_w5
  have YX0_0_w5 : w5.cell? ⟨w4.heap.size, 0, none⟩ = some (.int .i64 f0_0) := by rw [hb.cell (by simp)]; simp [go_sem]
  have YX0_1_w5 : w5.cell? ⟨w4.heap.size, 1, none⟩ = some (.slice bX0_1 f0_1.length dX0_1) := by rw [hb.cell (by simp)]; simp [go_sem]
  have ZAX0_w5 : w4.heap.size < w5.heap.size := World.block_lt_of_cell? _ _ YX0_0_w5
  have W0_w5 : Hid ((kRow kPosting).is true w5 (fun k => LW0 ≤ k ∧ k < MW0) [.slice bW0 y0.length dW0] y0) := Kd.below W0_w4.out Bw5
  have X0_w5 : Hid (kWords.is true w5 (fun k => LX0 ≤ k ∧ k < MX0) [.int .i64 f0_0, .slice bX0_1 f0_1.length dX0_1] (f0_0, f0_1)) := Kd.below NX0.out Bw5
  have HB5 : Hid (Below w.heap.size w w5) := HB4.out.trans (Bw5.mono HB4.out.size)
  clear Ya0_0_w4 Ya0_1_w4 W0_w4 NX0 HB4 hal hb Bw5
  have PTG0 : w.heap.size ≤ LG0 ∧ MG0 ≤ w5.heap.size ∧ w.heap.size < LG0 ∧ Ms0 ≤ LG0 ∧ MW0 ≤ LG0 ∧ MX0 ≤ LG0 ∧ w4.heap.size < LG0 := by omega
  clear hLG0 hMG0
  go_wp2_with fail
  refine (eqPostingS_k y0 bG0 bW0 _ dG0 dW0 _ _ _ (Kd.read _ NG0.out) (Kd.read _ W0_w5.out)).mono ?_
  rintro e w6 ⟨rfl, hb⟩
  have Bw6 : Below w5.heap.size w5 w6 := hb
  have zzw6 := Bw6.size
  have Ya0_0_w6 : w6.cell? ⟨w.heap.size, 0, none⟩ = some (.int .i64 f0_0) := cell_later Bw6 Ya0_0_w5
  have Ya0_1_w6 : w6.cell? ⟨w.heap.size, 1, none⟩ = some (.slice a0_1 f0_1.length c0_1) := cell_later Bw6 Ya0_1_w5
  have ZAa0_w6 : w.heap.size < w6.heap.size := World.block_lt_of_cell? _ _ Ya0_0_w6
  have YX0_0_w6 : w6.cell? ⟨w4.heap.size, 0, none⟩ = some (.int .i64 f0_0) := cell_later Bw6 YX0_0_w5
  have YX0_1_w6 : w6.cell? ⟨w4.heap.size, 1, none⟩ = some (.slice bX0_1 f0_1.length dX0_1) := cell_later Bw6 YX0_1_w5
  have ZAX0_w6 : w4.heap.size < w6.heap.size := World.block_lt_of_cell? _ _ YX0_0_w6
  have W0_w6 : Hid ((kRow kPosting).is true w6 (fun k => LW0 ≤ k ∧ k < MW0) [.slice bW0 y0.length dW0] y0) := Kd.below W0_w5.out Bw6
  have X0_w6 : Hid (kWords.is true w6 (fun k => LX0 ≤ k ∧ k < MX0) [.int .i64 f0_0, .slice bX0_1 f0_1.length dX0_1] (f0_0, f0_1)) := Kd.below X0_w5.out Bw6
  have G0_w6 : Hid ((kRow kPosting).is true w6 (fun k => LG0 ≤ k ∧ k < MG0) [.slice bG0 y0.length dG0] y0) := Kd.below NG0.out Bw6
  have HB6 : Hid (Below w.heap.size w w6) := HB5.out.trans (Bw6.mono HB5.out.size)
  clear Ya0_0_w5 Ya0_1_w5 YX0_0_w5 YX0_1_w5 W0_w5 X0_w5 NG0 HB5 hb Bw6
  go_wp2_with fail
  go_region_held3 (fun w' => w'.cell? ⟨w4.heap.size, 0, none⟩ = some (.int .i64 f0_0) ∧ w'.cell? ⟨w4.heap.size, 1, none⟩ = some (.slice bX0_1 f0_1.length dX0_1) ∧ w'.cell? ⟨w.heap.size, 0, none⟩ = some (.int .i64 f0_0) ∧ w'.cell? ⟨w.heap.size, 1, none⟩ = some (.slice a0_1 f0_1.length c0_1)) (first | exact ⟨YX0_0_w6, YX0_1_w6, Ya0_0_w6, Ya0_1_w6⟩ | exact ⟨(hcB _ _ (Nat.lt_of_lt_of_le ZAX0_w6 zzA)).trans ((hcA _ _ ZAX0_w6).trans YX0_0_w6), (hcB _ _ (Nat.lt_of_lt_of_le ZAX0_w6 zzA)).trans ((hcA _ _ ZAX0_w6).trans YX0_1_w6), (hcB _ _ (Nat.lt_of_lt_of_le ZAa0_w6 zzA)).trans ((hcA _ _ ZAa0_w6).trans Ya0_0_w6), (hcB _ _ (Nat.lt_of_lt_of_le ZAa0_w6 zzA)).trans ((hcA _ _ ZAa0_w6).trans Ya0_1_w6)⟩ | exact ⟨(hcA _ _ ZAX0_w6).trans YX0_0_w6, (hcA _ _ ZAX0_w6).trans YX0_1_w6, (hcA _ _ ZAa0_w6).trans Ya0_0_w6, (hcA _ _ ZAa0_w6).trans Ya0_1_w6⟩)
    (first | (go_at_call 20; refine (toWords_k (f0_0, f0_1) [.int .i64 f0_0, .slice a0_1 f0_1.length c0_1] (fun _ => True) _ (Kd.below H0.out (HB6.out.drew)) Z0.out).mono ?_; rintro e wA ⟨DA, rfl, hoA, hbA⟩; obtain ⟨_, _, _, rfl, _, _, _, _⟩ := kWords_open hoA; obtain ⟨hcA, hfA⟩ := bcell hbA; have zzA := hbA.size) | (go_at_call 22; refine (eqWords_k (f0_0, f0_1) [.int .i64 f0_0, .slice bX0_1 f0_1.length dX0_1] _ _ _ _ (Kd.read _ (Kd.below X0_w6.out ((Below.drew (Below.refl w6.heap.size w6)).trans (hbA.mono (Nat.le_refl w6.heap.size))))) (Kd.read _ hoA)).mono ?_; rintro e w7 ⟨rfl, hbB⟩; obtain ⟨hcB, hfB⟩ := bcell hbB))
  have hb : Below w6.heap.size w6 w7 := ((Below.drew (Below.refl w6.heap.size w6)).trans (hbA.mono (Nat.le_refl w6.heap.size))).trans (hbB.mono zzA)
  clear hbA hbB hcA hfA hcB hfB hoA zzA
  have Bw7 : Below w6.heap.size w6 w7 := hb
  have zzw7 := Bw7.size
  have Ya0_0_w7 : w7.cell? ⟨w.heap.size, 0, none⟩ = some (.int .i64 f0_0) := cell_later Bw7 Ya0_0_w6
  have Ya0_1_w7 : w7.cell? ⟨w.heap.size, 1, none⟩ = some (.slice a0_1 f0_1.length c0_1) := cell_later Bw7 Ya0_1_w6
  have ZAa0_w7 : w.heap.size < w7.heap.size := World.block_lt_of_cell? _ _ Ya0_0_w7
  have YX0_0_w7 : w7.cell? ⟨w4.heap.size, 0, none⟩ = some (.int .i64 f0_0) := cell_later Bw7 YX0_0_w6
  have YX0_1_w7 : w7.cell? ⟨w4.heap.size, 1, none⟩ = some (.slice bX0_1 f0_1.length dX0_1) := cell_later Bw7 YX0_1_w6
  have ZAX0_w7 : w4.heap.size < w7.heap.size := World.block_lt_of_cell? _ _ YX0_0_w7
  have W0_w7 : Hid ((kRow kPosting).is true w7 (fun k => LW0 ≤ k ∧ k < MW0) [.slice bW0 y0.length dW0] y0) := Kd.below W0_w6.out Bw7
  have X0_w7 : Hid (kWords.is true w7 (fun k => LX0 ≤ k ∧ k < MX0) [.int .i64 f0_0, .slice bX0_1 f0_1.length dX0_1] (f0_0, f0_1)) := Kd.below X0_w6.out Bw7
  have G0_w7 : Hid ((kRow kPosting).is true w7 (fun k => LG0 ≤ k ∧ k < MG0) [.slice bG0 y0.length dG0] y0) := Kd.below G0_w6.out Bw7
  have HB7 : Hid (Below w.heap.size w w7) := HB6.out.trans (Bw7.mono HB6.out.size)
  clear Ya0_0_w6 Ya0_1_w6 YX0_0_w6 YX0_1_w6 W0_w6 X0_w6 G0_w6 HB6 hb Bw7
  have CB0 : Hid (hWords_cnt (f0_0, f0_1) ≤ 2 ^ 26) := cnt_Words Z0.out
  obtain ⟨kc0, hkc0⟩ : ∃ k, k = hWords_cnt (f0_0, f0_1) := ⟨_, rfl⟩
  have kb0 : kc0 ≤ 2 ^ 26 := by have := CB0.out; omega
  have HKC0 : Hid (kc0 = hWords_cnt (f0_0, f0_1)) := hkc0
  clear hkc0
  go_wp2_with fail
  refine (markWords_k (f0_0, f0_1) [.int .i64 f0_0, .slice bX0_1 f0_1.length dX0_1] _ _ _ (by omega) (by have := HKC0.out; omega) X0_w7.out).mono ?_
  rw [← HKC0.out]
  rintro e w8 ⟨rfl, hb, hr⟩
  clear hr
  have Bw8 : KeptO (fun k => LX0 ≤ k ∧ k < MX0) w7 w8 := hb
  have zzw8 := Bw8.size
  have Ya0_0_w8 : w8.cell? ⟨w.heap.size, 0, none⟩ = some (.int .i64 f0_0) := cell_keptO Bw8 Ya0_0_w7 (fun h => by omega)
  have Ya0_1_w8 : w8.cell? ⟨w.heap.size, 1, none⟩ = some (.slice a0_1 f0_1.length c0_1) := cell_keptO Bw8 Ya0_1_w7 (fun h => by omega)
  have ZAa0_w8 : w.heap.size < w8.heap.size := World.block_lt_of_cell? _ _ Ya0_0_w8
  have W0_w8 : Hid ((kRow kPosting).is true w8 (fun k => LW0 ≤ k ∧ k < MW0) [.slice bW0 y0.length dW0] y0) := Kd.kept W0_w7.out Bw8 (fun k _ h1 h2 => by omega)
  have G0_w8 : Hid ((kRow kPosting).is true w8 (fun k => LG0 ≤ k ∧ k < MG0) [.slice bG0 y0.length dG0] y0) := Kd.kept G0_w7.out Bw8 (fun k _ h1 h2 => by omega)
  have HB8 : Hid (Below w.heap.size w w8) := HB7.out.trans ((Bw8.below (B := w.heap.size) (HB7.out.size) (fun k hk h => by omega)))
  clear Ya0_0_w7 Ya0_1_w7 YX0_0_w7 YX0_1_w7 W0_w7 G0_w7 HB7 hb Bw8
  go_wp2_with fail
  refine (eqPostingS_k y0 bG0 bW0 _ dG0 dW0 _ _ _ (Kd.read _ G0_w8.out) (Kd.read _ W0_w8.out)).mono ?_
  rintro e w9 ⟨rfl, hb⟩
  have Bw9 : Below w8.heap.size w8 w9 := hb
  have zzw9 := Bw9.size
  have Ya0_0_w9 : w9.cell? ⟨w.heap.size, 0, none⟩ = some (.int .i64 f0_0) := cell_later Bw9 Ya0_0_w8
  have Ya0_1_w9 : w9.cell? ⟨w.heap.size, 1, none⟩ = some (.slice a0_1 f0_1.length c0_1) := cell_later Bw9 Ya0_1_w8
  have ZAa0_w9 : w.heap.size < w9.heap.size := World.block_lt_of_cell? _ _ Ya0_0_w9
  have W0_w9 : Hid ((kRow kPosting).is true w9 (fun k => LW0 ≤ k ∧ k < MW0) [.slice bW0 y0.length dW0] y0) := Kd.below W0_w8.out Bw9
  have G0_w9 : Hid ((kRow kPosting).is true w9 (fun k => LG0 ≤ k ∧ k < MG0) [.slice bG0 y0.length dG0] y0) := Kd.below G0_w8.out Bw9
  have HB9 : Hid (Below w.heap.size w w9) := HB8.out.trans (Bw9.mono HB8.out.size)
  clear Ya0_0_w8 Ya0_1_w8 W0_w8 G0_w8 HB8 hb Bw9
  obtain ⟨kg0, hkg0⟩ : ∃ k, k = sums kPosting.cnt y0 := ⟨_, rfl⟩
  have kgb0 : kg0 ≤ 2 ^ 26 := by have := KC0.out; omega
  have HKG0 : Hid (kg0 = sums kPosting.cnt y0) := hkg0
  clear hkg0
  go_wp2_with fail
  refine (markPostingS_k y0 _ _ _ _ _ _ (by omega) (by have := HKG0.out; omega) G0_w9.out).mono ?_
  rw [← HKG0.out]
  rintro e w10 ⟨rfl, hb, hr⟩
  have NG0' : Hid ((kRow kPosting).is true w10 (fun k => LG0 ≤ k ∧ k < MG0) [.slice bG0 y0.length dG0] (mks kPosting y0 1)) := hr
  clear hr
  have Bw10 : KeptO (fun k => LG0 ≤ k ∧ k < MG0) w9 w10 := hb
  have zzw10 := Bw10.size
  have Ya0_0_w10 : w10.cell? ⟨w.heap.size, 0, none⟩ = some (.int .i64 f0_0) := cell_keptO Bw10 Ya0_0_w9 (fun h => by omega)
  have Ya0_1_w10 : w10.cell? ⟨w.heap.size, 1, none⟩ = some (.slice a0_1 f0_1.length c0_1) := cell_keptO Bw10 Ya0_1_w9 (fun h => by omega)
  have ZAa0_w10 : w.heap.size < w10.heap.size := World.block_lt_of_cell? _ _ Ya0_0_w10
  have W0_w10 : Hid ((kRow kPosting).is true w10 (fun k => LW0 ≤ k ∧ k < MW0) [.slice bW0 y0.length dW0] y0) := Kd.kept W0_w9.out Bw10 (fun k _ h1 h2 => by omega)
  have HB10 : Hid (Below w.heap.size w w10) := HB9.out.trans ((Bw10.below (B := w.heap.size) (HB9.out.size) (fun k hk h => by omega)))
  clear Ya0_0_w9 Ya0_1_w9 W0_w9 HB9 hb Bw10
  go_wp2_with fail
  refine (heldPostingS_k y0 _ _ _ _ _ _ (by omega) (by have := HKG0.out; omega) (Kd.read _ NG0'.out)).mono ?_
  rw [← HKG0.out]
  rintro e w11 ⟨rfl, hb⟩
  have Bw11 : Below w10.heap.size w10 w11 := hb
  have zzw11 := Bw11.size
  have Ya0_0_w11 : w11.cell? ⟨w.heap.size, 0, none⟩ = some (.int .i64 f0_0) := cell_later Bw11 Ya0_0_w10
  have Ya0_1_w11 : w11.cell? ⟨w.heap.size, 1, none⟩ = some (.slice a0_1 f0_1.length c0_1) := cell_later Bw11 Ya0_1_w10
  have ZAa0_w11 : w.heap.size < w11.heap.size := World.block_lt_of_cell? _ _ Ya0_0_w11
  have W0_w11 : Hid ((kRow kPosting).is true w11 (fun k => LW0 ≤ k ∧ k < MW0) [.slice bW0 y0.length dW0] y0) := Kd.below W0_w10.out Bw11
  have G0_w11 : Hid ((kRow kPosting).is true w11 (fun k => LG0 ≤ k ∧ k < MG0) [.slice bG0 y0.length dG0] (mks kPosting y0 1)) := Kd.below NG0'.out Bw11
  have HB11 : Hid (Below w.heap.size w w11) := HB10.out.trans (Bw11.mono HB10.out.size)
  clear Ya0_0_w10 Ya0_1_w10 W0_w10 NG0' HB10 hb Bw11
  go_wp2_with fail
  refine (toWords_k (f0_0, f0_1) [.int .i64 f0_0, .slice a0_1 f0_1.length c0_1] (fun _ => True) _ (Kd.below H0.out HB11.out) Z0.out).mono ?_
  rintro e w12 ⟨Dt0, rfl, ho, hb⟩
  obtain ⟨bt0_1, dt0_1, _, rfl, _, _, _, _⟩ := kWords_open ho
  obtain ⟨Lt0, hLt0⟩ : ∃ L, L = w11.heap.size := ⟨_, rfl⟩
  obtain ⟨Mt0, hMt0⟩ : ∃ M, M = w12.heap.size := ⟨_, rfl⟩
  have Nt0 : Hid (kWords.is true w12 (fun k => Lt0 ≤ k ∧ k < Mt0) [.int .i64 f0_0, .slice bt0_1 f0_1.length dt0_1] (f0_0, f0_1)) := Kd.tight _ ho (fun k hk hk' => ⟨by have hz : _ ≤ k := hk'; omega, by omega⟩)
  clear ho
  have Bw12 : Below w11.heap.size w11 w12 := hb
  have zzw12 := Bw12.size
  have Ya0_0_w12 : w12.cell? ⟨w.heap.size, 0, none⟩ = some (.int .i64 f0_0) := cell_later Bw12 Ya0_0_w11
  have Ya0_1_w12 : w12.cell? ⟨w.heap.size, 1, none⟩ = some (.slice a0_1 f0_1.length c0_1) := cell_later Bw12 Ya0_1_w11
  have ZAa0_w12 : w.heap.size < w12.heap.size := World.block_lt_of_cell? _ _ Ya0_0_w12
  have W0_w12 : Hid ((kRow kPosting).is true w12 (fun k => LW0 ≤ k ∧ k < MW0) [.slice bW0 y0.length dW0] y0) := Kd.below W0_w11.out Bw12
  have G0_w12 : Hid ((kRow kPosting).is true w12 (fun k => LG0 ≤ k ∧ k < MG0) [.slice bG0 y0.length dG0] (mks kPosting y0 1)) := Kd.below G0_w11.out Bw12
  have HB12 : Hid (Below w.heap.size w w12) := HB11.out.trans (Bw12.mono HB11.out.size)
  clear Ya0_0_w11 Ya0_1_w11 W0_w11 G0_w11 HB11 hb Bw12
  have PTt0 : w.heap.size ≤ Lt0 ∧ Mt0 ≤ w12.heap.size ∧ w.heap.size < Lt0 ∧ Ms0 ≤ Lt0 ∧ MW0 ≤ Lt0 ∧ MX0 ≤ Lt0 ∧ w4.heap.size < Lt0 ∧ MG0 ≤ Lt0 := by omega
  clear hLt0 hMt0
  go_wp2_with fail
  refine (implPostingsOf_k (f0_0, f0_1) [.int .i64 f0_0, .slice bt0_1 f0_1.length dt0_1] _ x1 _ (Kd.read _ Nt0.out) Z0.out (by omega)).mono ?_
  rintro e w13 ⟨bH0, nH0, dH0, TH0, rfl, rH0, sH0, kH0, hb⟩
  obtain rfl := row_len rH0
  rw [← HY0.out] at rH0 kH0 ⊢
  rw [← HY1.out]
  clear kH0
  obtain ⟨LH0, hLH0⟩ : ∃ L, L = w12.heap.size := ⟨_, rfl⟩
  obtain ⟨MH0, hMH0⟩ : ∃ M, M = w13.heap.size := ⟨_, rfl⟩
  have NH0 : Hid ((kRow kPosting).is true w13 (fun k => LH0 ≤ k ∧ k < MH0) [.slice bH0 y0.length dH0] y0) := Kd.tight _ rH0 (fun k hk hk' => ⟨by have hz := sH0 k hk'; omega, by omega⟩)
  clear rH0 sH0
  have Bw13 : Below w12.heap.size w12 w13 := hb
  have zzw13 := Bw13.size
  have Ya0_0_w13 : w13.cell? ⟨w.heap.size, 0, none⟩ = some (.int .i64 f0_0) := cell_later Bw13 Ya0_0_w12
  have Ya0_1_w13 : w13.cell? ⟨w.heap.size, 1, none⟩ = some (.slice a0_1 f0_1.length c0_1) := cell_later Bw13 Ya0_1_w12
  have ZAa0_w13 : w.heap.size < w13.heap.size := World.block_lt_of_cell? _ _ Ya0_0_w13
  have W0_w13 : Hid ((kRow kPosting).is true w13 (fun k => LW0 ≤ k ∧ k < MW0) [.slice bW0 y0.length dW0] y0) := Kd.below W0_w12.out Bw13
  have G0_w13 : Hid ((kRow kPosting).is true w13 (fun k => LG0 ≤ k ∧ k < MG0) [.slice bG0 y0.length dG0] (mks kPosting y0 1)) := Kd.below G0_w12.out Bw13
  have HB13 : Hid (Below w.heap.size w w13) := HB12.out.trans (Bw13.mono HB12.out.size)
  clear Ya0_0_w12 Ya0_1_w12 W0_w12 G0_w12 HB12 hb Bw13
  have PTH0 : w.heap.size ≤ LH0 ∧ MH0 ≤ w13.heap.size ∧ w.heap.size < LH0 ∧ Ms0 ≤ LH0 ∧ MW0 ≤ LH0 ∧ MX0 ≤ LH0 ∧ w4.heap.size < LH0 ∧ MG0 ≤ LH0 ∧ Mt0 ≤ LH0 := by omega
  clear hLH0 hMH0
  go_wp2_with fail
  refine (eqPostingS_k y0 bH0 bW0 _ dH0 dW0 _ _ _ (Kd.read _ NH0.out) (Kd.read _ W0_w13.out)).mono ?_
  rintro e w14 ⟨rfl, hb⟩
  have Bw14 : Below w13.heap.size w13 w14 := hb
  have zzw14 := Bw14.size
  have Ya0_0_w14 : w14.cell? ⟨w.heap.size, 0, none⟩ = some (.int .i64 f0_0) := cell_later Bw14 Ya0_0_w13
  have Ya0_1_w14 : w14.cell? ⟨w.heap.size, 1, none⟩ = some (.slice a0_1 f0_1.length c0_1) := cell_later Bw14 Ya0_1_w13
  have ZAa0_w14 : w.heap.size < w14.heap.size := World.block_lt_of_cell? _ _ Ya0_0_w14
  have W0_w14 : Hid ((kRow kPosting).is true w14 (fun k => LW0 ≤ k ∧ k < MW0) [.slice bW0 y0.length dW0] y0) := Kd.below W0_w13.out Bw14
  have G0_w14 : Hid ((kRow kPosting).is true w14 (fun k => LG0 ≤ k ∧ k < MG0) [.slice bG0 y0.length dG0] (mks kPosting y0 1)) := Kd.below G0_w13.out Bw14
  have H0_w14 : Hid ((kRow kPosting).is true w14 (fun k => LH0 ≤ k ∧ k < MH0) [.slice bH0 y0.length dH0] y0) := Kd.below NH0.out Bw14
  have HB14 : Hid (Below w.heap.size w w14) := HB13.out.trans (Bw14.mono HB13.out.size)
  clear Ya0_0_w13 Ya0_1_w13 W0_w13 G0_w13 NH0 HB13 hb Bw14
  go_wp2_with fail
  refine (heldPostingS_k y0 _ _ _ _ _ _ (by omega) (by have := HKG0.out; omega) (Kd.read _ G0_w14.out)).mono ?_
  rw [← HKG0.out]
  rintro e w15 ⟨rfl, hb⟩
  have Bw15 : Below w14.heap.size w14 w15 := hb
  have zzw15 := Bw15.size
  have Ya0_0_w15 : w15.cell? ⟨w.heap.size, 0, none⟩ = some (.int .i64 f0_0) := cell_later Bw15 Ya0_0_w14
  have Ya0_1_w15 : w15.cell? ⟨w.heap.size, 1, none⟩ = some (.slice a0_1 f0_1.length c0_1) := cell_later Bw15 Ya0_1_w14
  have ZAa0_w15 : w.heap.size < w15.heap.size := World.block_lt_of_cell? _ _ Ya0_0_w15
  have W0_w15 : Hid ((kRow kPosting).is true w15 (fun k => LW0 ≤ k ∧ k < MW0) [.slice bW0 y0.length dW0] y0) := Kd.below W0_w14.out Bw15
  have G0_w15 : Hid ((kRow kPosting).is true w15 (fun k => LG0 ≤ k ∧ k < MG0) [.slice bG0 y0.length dG0] (mks kPosting y0 1)) := Kd.below G0_w14.out Bw15
  have H0_w15 : Hid ((kRow kPosting).is true w15 (fun k => LH0 ≤ k ∧ k < MH0) [.slice bH0 y0.length dH0] y0) := Kd.below H0_w14.out Bw15
  have HB15 : Hid (Below w.heap.size w w15) := HB14.out.trans (Bw15.mono HB14.out.size)
  clear Ya0_0_w14 Ya0_1_w14 W0_w14 G0_w14 H0_w14 HB14 hb Bw15
  go_wp2
  go_ret
  exact ⟨rfl, HB15.out⟩

end Go.Proofs.Ytocpihelhejcnaa
