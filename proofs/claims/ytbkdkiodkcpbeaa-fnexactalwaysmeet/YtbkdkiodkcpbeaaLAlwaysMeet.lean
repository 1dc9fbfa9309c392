/- The law of AlwaysMeet, walked: over what the program and the specification answer. No condition. -/
import Derived.Test.YtbkdkiodkcpbeaaQuAm
import Derived.Test.YtbkdkiodkcpbeaaKSint
namespace Go.Proofs.Ytbkdkiodkcpbeaa
open Go.RowKit
set_option linter.unusedVariables false

set_option maxRecDepth 100000 in
set_option maxHeartbeats 4000000 in
theorem lawAlwaysMeet_k (x0 : List Int) (a0 : Option Addr) (n0 c0 : Nat) (x1 : List Int) (a1 : Option Addr) (n1 c1 : Nat) (x2 : List Int) (a2 : Option Addr) (n2 c2 : Nat) (w : World) (h0 : (kRow kInt).is false w (fun _ => True) [.slice a0 n0 c0] x0) (h1 : (kRow kInt).is false w (fun _ => True) [.slice a1 n1 c1] x1) (h2 : (kRow kInt).is false w (fun _ => True) [.slice a2 n2 c2] x2) :
    Calls Try.prog 11 #[.slice a0 n0 c0, .slice a1 n1 c1, .slice a2 n2 c2] w fun e w' => e = .returned (.bool true) ∧ Below w.heap.size w w' := by
  have H0 : Hid ((kRow kInt).is false w (fun _ => True) [.slice a0 n0 c0] x0) := h0
  clear h0
  have H1 : Hid ((kRow kInt).is false w (fun _ => True) [.slice a1 n1 c1] x1) := h1
  clear h1
  have H2 : Hid ((kRow kInt).is false w (fun _ => True) [.slice a2 n2 c2] x2) := h2
  clear h2
  have RL0 := row_len H0.out
  by_cases c0' : n0 ≤ 1048576
  case neg =>
    have hk' : (1048576 : Int) < (n0 : Int) := by omega
    clear RL0
    show Calls Try.prog 11 #[.slice a0 n0 c0, .slice a1 n1 c1, .slice a2 n2 c2] w _
    go_enter Try.func11, Try.ntmps11
    go_wp2_with fail
    go_ret
    exact ⟨rfl, by go_grown⟩
  have cl0 : ¬ (1048576 : Int) < (n0 : Int) := by omega
  have Z0 : Hid ((kRow kInt).sz x0 ≤ 2 ^ 20) := by show x0.length + sums (fun _ => 0) x0 ≤ _; rw [sums_zero]; omega
  clear RL0
  have RL1 := row_len H1.out
  by_cases c1' : n1 ≤ 1048576
  case neg =>
    have hk' : (1048576 : Int) < (n1 : Int) := by omega
    clear RL1
    show Calls Try.prog 11 #[.slice a0 n0 c0, .slice a1 n1 c1, .slice a2 n2 c2] w _
    go_enter Try.func11, Try.ntmps11
    go_wp2_with fail
    go_ret
    exact ⟨rfl, by go_grown⟩
  have cl1 : ¬ (1048576 : Int) < (n1 : Int) := by omega
  have Z1 : Hid ((kRow kInt).sz x1 ≤ 2 ^ 20) := by show x1.length + sums (fun _ => 0) x1 ≤ _; rw [sums_zero]; omega
  clear RL1
  have RL2 := row_len H2.out
  by_cases c2' : n2 ≤ 1048576
  case neg =>
    have hk' : (1048576 : Int) < (n2 : Int) := by omega
    clear RL2
    show Calls Try.prog 11 #[.slice a0 n0 c0, .slice a1 n1 c1, .slice a2 n2 c2] w _
    go_enter Try.func11, Try.ntmps11
    go_wp2_with fail
    go_ret
    exact ⟨rfl, by go_grown⟩
  have cl2 : ¬ (1048576 : Int) < (n2 : Int) := by omega
  have Z2 : Hid ((kRow kInt).sz x2 ≤ 2 ^ 20) := by show x2.length + sums (fun _ => 0) x2 ≤ _; rw [sums_zero]; omega
  clear RL2
  show Calls Try.prog 11 #[.slice a0 n0 c0, .slice a1 n1 c1, .slice a2 n2 c2] w _
  go_enter Try.func11, Try.ntmps11
  obtain ⟨y0, hy0⟩ : ∃ y, y = (fAlwaysMeet x0 x1 x2).1 := ⟨_, rfl⟩
  have HY0 : Hid (y0 = (fAlwaysMeet x0 x1 x2).1) := hy0
  clear hy0
  obtain ⟨y1, hy1⟩ : ∃ y, y = (fAlwaysMeet x0 x1 x2).2 := ⟨_, rfl⟩
  have HY1 : Hid (y1 = (fAlwaysMeet x0 x1 x2).2) := hy1
  clear hy1
  go_wp2_with fail
  refine (toIntS_k x0 a0 _ c0 (fun _ => True) _ (Kd.below H0.out (Below.refl _ _)) Z0.out).mono ?_
  rintro e w1 ⟨bs0, rfl, ho, hlt, hb⟩
  clear hlt
  obtain ⟨Ls0, hLs0⟩ : ∃ L, L = w.heap.size := ⟨_, rfl⟩
  obtain ⟨Ms0, hMs0⟩ : ∃ M, M = w1.heap.size := ⟨_, rfl⟩
  have Ns0 : Hid ((kRow kInt).is true w1 (fun k => Ls0 ≤ k ∧ k < Ms0) [.slice bs0 n0 n0] x0) := Kd.tight _ ho (fun k hk hk' => ⟨by have hz : _ ≤ k := hk'; omega, by omega⟩)
  clear ho
  have Bw1 : Below w.heap.size w w1 := hb
  have zzw1 := Bw1.size
  have HB1 : Hid (Below w.heap.size w w1) := Bw1
  clear hb Bw1
  have PTs0 : w.heap.size ≤ Ls0 ∧ Ms0 ≤ w1.heap.size := by omega
  clear hLs0 hMs0
  go_wp2_with fail
  refine (toIntS_k x1 a1 _ c1 (fun _ => True) _ (Kd.below H1.out HB1.out) Z1.out).mono ?_
  rintro e w2 ⟨bs1, rfl, ho, hlt, hb⟩
  clear hlt
  obtain ⟨Ls1, hLs1⟩ : ∃ L, L = w1.heap.size := ⟨_, rfl⟩
  obtain ⟨Ms1, hMs1⟩ : ∃ M, M = w2.heap.size := ⟨_, rfl⟩
  have Ns1 : Hid ((kRow kInt).is true w2 (fun k => Ls1 ≤ k ∧ k < Ms1) [.slice bs1 n1 n1] x1) := Kd.tight _ ho (fun k hk hk' => ⟨by have hz : _ ≤ k := hk'; omega, by omega⟩)
  clear ho
  have Bw2 : Below w1.heap.size w1 w2 := hb
  have zzw2 := Bw2.size
  have s0_w2 : Hid ((kRow kInt).is true w2 (fun k => Ls0 ≤ k ∧ k < Ms0) [.slice bs0 n0 n0] x0) := Kd.below Ns0.out Bw2
  have HB2 : Hid (Below w.heap.size w w2) := HB1.out.trans (Bw2.mono HB1.out.size)
  clear Ns0 HB1 hb Bw2
  have PTs1 : w.heap.size ≤ Ls1 ∧ Ms1 ≤ w2.heap.size ∧ Ms0 ≤ Ls1 := by omega
  clear hLs1 hMs1
  go_wp2_with fail
  refine (toIntS_k x2 a2 _ c2 (fun _ => True) _ (Kd.below H2.out HB2.out) Z2.out).mono ?_
  rintro e w3 ⟨bs2, rfl, ho, hlt, hb⟩
  clear hlt
  obtain ⟨Ls2, hLs2⟩ : ∃ L, L = w2.heap.size := ⟨_, rfl⟩
  obtain ⟨Ms2, hMs2⟩ : ∃ M, M = w3.heap.size := ⟨_, rfl⟩
  have Ns2 : Hid ((kRow kInt).is true w3 (fun k => Ls2 ≤ k ∧ k < Ms2) [.slice bs2 n2 n2] x2) := Kd.tight _ ho (fun k hk hk' => ⟨by have hz : _ ≤ k := hk'; omega, by omega⟩)
  clear ho
  have Bw3 : Below w2.heap.size w2 w3 := hb
  have zzw3 := Bw3.size
  have s0_w3 : Hid ((kRow kInt).is true w3 (fun k => Ls0 ≤ k ∧ k < Ms0) [.slice bs0 n0 n0] x0) := Kd.below s0_w2.out Bw3
  have s1_w3 : Hid ((kRow kInt).is true w3 (fun k => Ls1 ≤ k ∧ k < Ms1) [.slice bs1 n1 n1] x1) := Kd.below Ns1.out Bw3
  have HB3 : Hid (Below w.heap.size w w3) := HB2.out.trans (Bw3.mono HB2.out.size)
  clear s0_w2 Ns1 HB2 hb Bw3
  have PTs2 : w.heap.size ≤ Ls2 ∧ Ms2 ≤ w3.heap.size ∧ Ms0 ≤ Ls2 ∧ Ms1 ≤ Ls2 := by omega
  clear hLs2 hMs2
  go_wp2_with fail
  refine (specAlwaysMeet_k x0 _ _ _ _ x1 _ _ _ _ x2 _ _ _ _ _ (Kd.read _ s0_w3.out) Z0.out (Kd.read _ s1_w3.out) Z1.out (Kd.read _ Ns2.out) Z2.out).mono ?_
  rintro e w4 ⟨rfl, hb⟩
  rw [← HY0.out]
  rw [← HY1.out]
  have Bw4 : Below w3.heap.size w3 w4 := hb
  have zzw4 := Bw4.size
  have HB4 : Hid (Below w.heap.size w w4) := HB3.out.trans (Bw4.mono HB3.out.size)
  clear HB3 hb Bw4
  go_wp2_with fail
  refine (toIntS_k x0 a0 _ c0 (fun _ => True) _ (Kd.below H0.out HB4.out) Z0.out).mono ?_
  rintro e w5 ⟨bX0, rfl, ho, hlt, hb⟩
  clear hlt
  obtain ⟨LX0, hLX0⟩ : ∃ L, L = w4.heap.size := ⟨_, rfl⟩
  obtain ⟨MX0, hMX0⟩ : ∃ M, M = w5.heap.size := ⟨_, rfl⟩
  have NX0 : Hid ((kRow kInt).is true w5 (fun k => LX0 ≤ k ∧ k < MX0) [.slice bX0 n0 n0] x0) := Kd.tight _ ho (fun k hk hk' => ⟨by have hz : _ ≤ k := hk'; omega, by omega⟩)
  clear ho
  have Bw5 : Below w4.heap.size w4 w5 := hb
  have zzw5 := Bw5.size
  have HB5 : Hid (Below w.heap.size w w5) := HB4.out.trans (Bw5.mono HB4.out.size)
  clear HB4 hb Bw5
  have PTX0 : w.heap.size ≤ LX0 ∧ MX0 ≤ w5.heap.size ∧ Ms0 ≤ LX0 ∧ Ms1 ≤ LX0 ∧ Ms2 ≤ LX0 := by omega
  clear hLX0 hMX0
  go_wp2_with fail
  refine (toIntS_k x1 a1 _ c1 (fun _ => True) _ (Kd.below H1.out HB5.out) Z1.out).mono ?_
  rintro e w6 ⟨bX1, rfl, ho, hlt, hb⟩
  clear hlt
  obtain ⟨LX1, hLX1⟩ : ∃ L, L = w5.heap.size := ⟨_, rfl⟩
  obtain ⟨MX1, hMX1⟩ : ∃ M, M = w6.heap.size := ⟨_, rfl⟩
  have NX1 : Hid ((kRow kInt).is true w6 (fun k => LX1 ≤ k ∧ k < MX1) [.slice bX1 n1 n1] x1) := Kd.tight _ ho (fun k hk hk' => ⟨by have hz : _ ≤ k := hk'; omega, by omega⟩)
  clear ho
  have Bw6 : Below w5.heap.size w5 w6 := hb
  have zzw6 := Bw6.size
  have X0_w6 : Hid ((kRow kInt).is true w6 (fun k => LX0 ≤ k ∧ k < MX0) [.slice bX0 n0 n0] x0) := Kd.below NX0.out Bw6
  have HB6 : Hid (Below w.heap.size w w6) := HB5.out.trans (Bw6.mono HB5.out.size)
  clear NX0 HB5 hb Bw6
  have PTX1 : w.heap.size ≤ LX1 ∧ MX1 ≤ w6.heap.size ∧ Ms0 ≤ LX1 ∧ Ms1 ≤ LX1 ∧ Ms2 ≤ LX1 ∧ MX0 ≤ LX1 := by omega
  clear hLX1 hMX1
  go_wp2_with fail
  refine (toIntS_k x2 a2 _ c2 (fun _ => True) _ (Kd.below H2.out HB6.out) Z2.out).mono ?_
  rintro e w7 ⟨bX2, rfl, ho, hlt, hb⟩
  clear hlt
  obtain ⟨LX2, hLX2⟩ : ∃ L, L = w6.heap.size := ⟨_, rfl⟩
  obtain ⟨MX2, hMX2⟩ : ∃ M, M = w7.heap.size := ⟨_, rfl⟩
  have NX2 : Hid ((kRow kInt).is true w7 (fun k => LX2 ≤ k ∧ k < MX2) [.slice bX2 n2 n2] x2) := Kd.tight _ ho (fun k hk hk' => ⟨by have hz : _ ≤ k := hk'; omega, by omega⟩)
  clear ho
  have Bw7 : Below w6.heap.size w6 w7 := hb
  have zzw7 := Bw7.size
  have X0_w7 : Hid ((kRow kInt).is true w7 (fun k => LX0 ≤ k ∧ k < MX0) [.slice bX0 n0 n0] x0) := Kd.below X0_w6.out Bw7
  have X1_w7 : Hid ((kRow kInt).is true w7 (fun k => LX1 ≤ k ∧ k < MX1) [.slice bX1 n1 n1] x1) := Kd.below NX1.out Bw7
  have HB7 : Hid (Below w.heap.size w w7) := HB6.out.trans (Bw7.mono HB6.out.size)
  clear X0_w6 NX1 HB6 hb Bw7
  have PTX2 : w.heap.size ≤ LX2 ∧ MX2 ≤ w7.heap.size ∧ Ms0 ≤ LX2 ∧ Ms1 ≤ LX2 ∧ Ms2 ≤ LX2 ∧ MX0 ≤ LX2 ∧ MX1 ≤ LX2 := by omega
  clear hLX2 hMX2
  go_wp2_with fail
  refine (implAlwaysMeet_k x0 _ _ _ _ x1 _ _ _ _ x2 _ _ _ _ _ (Kd.read _ X0_w7.out) Z0.out (Kd.read _ X1_w7.out) Z1.out (Kd.read _ NX2.out) Z2.out).mono ?_
  rintro e w8 ⟨rfl, hb⟩
  rw [← HY0.out]
  rw [← HY1.out]
  have Bw8 : Below w7.heap.size w7 w8 := hb
  have zzw8 := Bw8.size
  have X0_w8 : Hid ((kRow kInt).is true w8 (fun k => LX0 ≤ k ∧ k < MX0) [.slice bX0 n0 n0] x0) := Kd.below X0_w7.out Bw8
  have X1_w8 : Hid ((kRow kInt).is true w8 (fun k => LX1 ≤ k ∧ k < MX1) [.slice bX1 n1 n1] x1) := Kd.below X1_w7.out Bw8
  have X2_w8 : Hid ((kRow kInt).is true w8 (fun k => LX2 ≤ k ∧ k < MX2) [.slice bX2 n2 n2] x2) := Kd.below NX2.out Bw8
  have HB8 : Hid (Below w.heap.size w w8) := HB7.out.trans (Bw8.mono HB7.out.size)
  clear X0_w7 X1_w7 NX2 HB7 hb Bw8
  go_wp2_with fail
  refine (toIntS_k x0 a0 _ c0 (fun _ => True) _ (Kd.below H0.out HB8.out) Z0.out).mono ?_
  rintro e w9 ⟨bE0, rfl, ho, hlt, hb⟩
  clear hlt
  obtain ⟨LE0, hLE0⟩ : ∃ L, L = w8.heap.size := ⟨_, rfl⟩
  obtain ⟨ME0, hME0⟩ : ∃ M, M = w9.heap.size := ⟨_, rfl⟩
  have NE0 : Hid ((kRow kInt).is true w9 (fun k => LE0 ≤ k ∧ k < ME0) [.slice bE0 n0 n0] x0) := Kd.tight _ ho (fun k hk hk' => ⟨by have hz : _ ≤ k := hk'; omega, by omega⟩)
  clear ho
  have Bw9 : Below w8.heap.size w8 w9 := hb
  have zzw9 := Bw9.size
  have X0_w9 : Hid ((kRow kInt).is true w9 (fun k => LX0 ≤ k ∧ k < MX0) [.slice bX0 n0 n0] x0) := Kd.below X0_w8.out Bw9
  have X1_w9 : Hid ((kRow kInt).is true w9 (fun k => LX1 ≤ k ∧ k < MX1) [.slice bX1 n1 n1] x1) := Kd.below X1_w8.out Bw9
  have X2_w9 : Hid ((kRow kInt).is true w9 (fun k => LX2 ≤ k ∧ k < MX2) [.slice bX2 n2 n2] x2) := Kd.below X2_w8.out Bw9
  have HB9 : Hid (Below w.heap.size w w9) := HB8.out.trans (Bw9.mono HB8.out.size)
  clear X0_w8 X1_w8 X2_w8 HB8 hb Bw9
  have PTE0 : w.heap.size ≤ LE0 ∧ ME0 ≤ w9.heap.size ∧ Ms0 ≤ LE0 ∧ Ms1 ≤ LE0 ∧ Ms2 ≤ LE0 ∧ MX0 ≤ LE0 ∧ MX1 ≤ LE0 ∧ MX2 ≤ LE0 := by omega
  clear hLE0 hME0
  go_wp2_with fail
  refine (eqIntS_k x0 bX0 bE0 _ n0 n0 _ _ _ (Kd.read _ X0_w9.out) (Kd.read _ NE0.out)).mono ?_
  rintro e w10 ⟨rfl, hb⟩
  have Bw10 : Below w9.heap.size w9 w10 := hb
  have zzw10 := Bw10.size
  have X0_w10 : Hid ((kRow kInt).is true w10 (fun k => LX0 ≤ k ∧ k < MX0) [.slice bX0 n0 n0] x0) := Kd.below X0_w9.out Bw10
  have X1_w10 : Hid ((kRow kInt).is true w10 (fun k => LX1 ≤ k ∧ k < MX1) [.slice bX1 n1 n1] x1) := Kd.below X1_w9.out Bw10
  have X2_w10 : Hid ((kRow kInt).is true w10 (fun k => LX2 ≤ k ∧ k < MX2) [.slice bX2 n2 n2] x2) := Kd.below X2_w9.out Bw10
  have HB10 : Hid (Below w.heap.size w w10) := HB9.out.trans (Bw10.mono HB9.out.size)
  clear X0_w9 X1_w9 X2_w9 HB9 hb Bw10
  go_wp2_with fail
  refine (toIntS_k x1 a1 _ c1 (fun _ => True) _ (Kd.below H1.out HB10.out) Z1.out).mono ?_
  rintro e w11 ⟨bE1, rfl, ho, hlt, hb⟩
  clear hlt
  obtain ⟨LE1, hLE1⟩ : ∃ L, L = w10.heap.size := ⟨_, rfl⟩
  obtain ⟨ME1, hME1⟩ : ∃ M, M = w11.heap.size := ⟨_, rfl⟩
  have NE1 : Hid ((kRow kInt).is true w11 (fun k => LE1 ≤ k ∧ k < ME1) [.slice bE1 n1 n1] x1) := Kd.tight _ ho (fun k hk hk' => ⟨by have hz : _ ≤ k := hk'; omega, by omega⟩)
  clear ho
  have Bw11 : Below w10.heap.size w10 w11 := hb
  have zzw11 := Bw11.size
  have X0_w11 : Hid ((kRow kInt).is true w11 (fun k => LX0 ≤ k ∧ k < MX0) [.slice bX0 n0 n0] x0) := Kd.below X0_w10.out Bw11
  have X1_w11 : Hid ((kRow kInt).is true w11 (fun k => LX1 ≤ k ∧ k < MX1) [.slice bX1 n1 n1] x1) := Kd.below X1_w10.out Bw11
  have X2_w11 : Hid ((kRow kInt).is true w11 (fun k => LX2 ≤ k ∧ k < MX2) [.slice bX2 n2 n2] x2) := Kd.below X2_w10.out Bw11
  have HB11 : Hid (Below w.heap.size w w11) := HB10.out.trans (Bw11.mono HB10.out.size)
  clear X0_w10 X1_w10 X2_w10 HB10 hb Bw11
  have PTE1 : w.heap.size ≤ LE1 ∧ ME1 ≤ w11.heap.size ∧ Ms0 ≤ LE1 ∧ Ms1 ≤ LE1 ∧ Ms2 ≤ LE1 ∧ MX0 ≤ LE1 ∧ MX1 ≤ LE1 ∧ MX2 ≤ LE1 ∧ ME0 ≤ LE1 := by omega
  clear hLE1 hME1
  go_wp2_with fail
  refine (eqIntS_k x1 bX1 bE1 _ n1 n1 _ _ _ (Kd.read _ X1_w11.out) (Kd.read _ NE1.out)).mono ?_
  rintro e w12 ⟨rfl, hb⟩
  have Bw12 : Below w11.heap.size w11 w12 := hb
  have zzw12 := Bw12.size
  have X0_w12 : Hid ((kRow kInt).is true w12 (fun k => LX0 ≤ k ∧ k < MX0) [.slice bX0 n0 n0] x0) := Kd.below X0_w11.out Bw12
  have X1_w12 : Hid ((kRow kInt).is true w12 (fun k => LX1 ≤ k ∧ k < MX1) [.slice bX1 n1 n1] x1) := Kd.below X1_w11.out Bw12
  have X2_w12 : Hid ((kRow kInt).is true w12 (fun k => LX2 ≤ k ∧ k < MX2) [.slice bX2 n2 n2] x2) := Kd.below X2_w11.out Bw12
  have HB12 : Hid (Below w.heap.size w w12) := HB11.out.trans (Bw12.mono HB11.out.size)
  clear X0_w11 X1_w11 X2_w11 HB11 hb Bw12
  go_wp2_with fail
  refine (toIntS_k x2 a2 _ c2 (fun _ => True) _ (Kd.below H2.out HB12.out) Z2.out).mono ?_
  rintro e w13 ⟨bE2, rfl, ho, hlt, hb⟩
  clear hlt
  obtain ⟨LE2, hLE2⟩ : ∃ L, L = w12.heap.size := ⟨_, rfl⟩
  obtain ⟨ME2, hME2⟩ : ∃ M, M = w13.heap.size := ⟨_, rfl⟩
  have NE2 : Hid ((kRow kInt).is true w13 (fun k => LE2 ≤ k ∧ k < ME2) [.slice bE2 n2 n2] x2) := Kd.tight _ ho (fun k hk hk' => ⟨by have hz : _ ≤ k := hk'; omega, by omega⟩)
  clear ho
  have Bw13 : Below w12.heap.size w12 w13 := hb
  have zzw13 := Bw13.size
  have X0_w13 : Hid ((kRow kInt).is true w13 (fun k => LX0 ≤ k ∧ k < MX0) [.slice bX0 n0 n0] x0) := Kd.below X0_w12.out Bw13
  have X1_w13 : Hid ((kRow kInt).is true w13 (fun k => LX1 ≤ k ∧ k < MX1) [.slice bX1 n1 n1] x1) := Kd.below X1_w12.out Bw13
  have X2_w13 : Hid ((kRow kInt).is true w13 (fun k => LX2 ≤ k ∧ k < MX2) [.slice bX2 n2 n2] x2) := Kd.below X2_w12.out Bw13
  have HB13 : Hid (Below w.heap.size w w13) := HB12.out.trans (Bw13.mono HB12.out.size)
  clear X0_w12 X1_w12 X2_w12 HB12 hb Bw13
  have PTE2 : w.heap.size ≤ LE2 ∧ ME2 ≤ w13.heap.size ∧ Ms0 ≤ LE2 ∧ Ms1 ≤ LE2 ∧ Ms2 ≤ LE2 ∧ MX0 ≤ LE2 ∧ MX1 ≤ LE2 ∧ MX2 ≤ LE2 ∧ ME0 ≤ LE2 ∧ ME1 ≤ LE2 := by omega
  clear hLE2 hME2
  go_wp2_with fail
  refine (eqIntS_k x2 bX2 bE2 _ n2 n2 _ _ _ (Kd.read _ X2_w13.out) (Kd.read _ NE2.out)).mono ?_
  rintro e w14 ⟨rfl, hb⟩
  have Bw14 : Below w13.heap.size w13 w14 := hb
  have zzw14 := Bw14.size
  have X0_w14 : Hid ((kRow kInt).is true w14 (fun k => LX0 ≤ k ∧ k < MX0) [.slice bX0 n0 n0] x0) := Kd.below X0_w13.out Bw14
  have X1_w14 : Hid ((kRow kInt).is true w14 (fun k => LX1 ≤ k ∧ k < MX1) [.slice bX1 n1 n1] x1) := Kd.below X1_w13.out Bw14
  have X2_w14 : Hid ((kRow kInt).is true w14 (fun k => LX2 ≤ k ∧ k < MX2) [.slice bX2 n2 n2] x2) := Kd.below X2_w13.out Bw14
  have HB14 : Hid (Below w.heap.size w w14) := HB13.out.trans (Bw14.mono HB13.out.size)
  clear X0_w13 X1_w13 X2_w13 HB13 hb Bw14
  go_wp2
  go_ret
  exact ⟨rfl, HB14.out⟩

end Go.Proofs.Ytbkdkiodkcpbeaa
