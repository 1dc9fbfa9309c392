/- The law of FindIn, walked: over what the program and the specification answer. No condition. -/
import Derived.Test.YtkboblfjchkedaaSxFc
import Derived.Test.YtkboblfjchkedaaKSint
import Derived.Test.YtkboblfjchkedaaKSstring
namespace Go.Proofs.Ytkboblfjchkedaa
open Go.RowKit
set_option linter.unusedVariables false

set_option maxRecDepth 100000 in
set_option maxHeartbeats 4000000 in
theorem lawFindIn_k (x0 : ByteArray) (x1 : List Int) (a1 : Option Addr) (n1 c1 : Nat) (x2 : ByteArray) (w : World) (h0 : x0.size ≤ maxLen) (h1 : (kRow kInt).is false w (fun _ => True) [.slice a1 n1 c1] x1) (h2 : x2.size ≤ maxLen) :
    Calls Try.prog 7 #[.string x0, .slice a1 n1 c1, .string x2] w fun e w' => e = .returned (.bool true) ∧ Below w.heap.size w w' := by
  have H1 : Hid ((kRow kInt).is false w (fun _ => True) [.slice a1 n1 c1] x1) := h1
  clear h1
  unfold maxLen at h0
  by_cases c0' : x0.size ≤ 1048576
  case neg =>
    have hk' : (1048576 : Int) < (x0.size : Int) := by omega
    show Calls Try.prog 7 #[.string x0, .slice a1 n1 c1, .string x2] w _
    go_enter Try.func7, Try.ntmps7
    go_wp2_with fail
    go_ret
    exact ⟨rfl, by go_grown⟩
  have c0 : ¬ (1048576 : Int) < (x0.size : Int) := by omega
  have RL1 := row_len H1.out
  by_cases c1' : n1 ≤ 1048576
  case neg =>
    have hk' : (1048576 : Int) < (n1 : Int) := by omega
    clear RL1
    show Calls Try.prog 7 #[.string x0, .slice a1 n1 c1, .string x2] w _
    go_enter Try.func7, Try.ntmps7
    go_wp2_with fail
    go_ret
    exact ⟨rfl, by go_grown⟩
  have cl1 : ¬ (1048576 : Int) < (n1 : Int) := by omega
  have Z1 : Hid ((kRow kInt).sz x1 ≤ 2 ^ 20) := by show x1.length + sums (fun _ => 0) x1 ≤ _; rw [sums_zero]; omega
  clear RL1
  unfold maxLen at h2
  by_cases c2' : x2.size ≤ 1048576
  case neg =>
    have hk' : (1048576 : Int) < (x2.size : Int) := by omega
    show Calls Try.prog 7 #[.string x0, .slice a1 n1 c1, .string x2] w _
    go_enter Try.func7, Try.ntmps7
    go_wp2_with fail
    go_ret
    exact ⟨rfl, by go_grown⟩
  have c2 : ¬ (1048576 : Int) < (x2.size : Int) := by omega
  show Calls Try.prog 7 #[.string x0, .slice a1 n1 c1, .string x2] w _
  go_enter Try.func7, Try.ntmps7
  obtain ⟨y0, hy0⟩ : ∃ y, y = (fFindIn x0 x1 x2).1 := ⟨_, rfl⟩
  have HY0 : Hid (y0 = (fFindIn x0 x1 x2).1) := hy0
  clear hy0
  obtain ⟨y1, hy1⟩ : ∃ y, y = (fFindIn x0 x1 x2).2.1 := ⟨_, rfl⟩
  have HY1 : Hid (y1 = (fFindIn x0 x1 x2).2.1) := hy1
  clear hy1
  obtain ⟨y2, hy2⟩ : ∃ y, y = (fFindIn x0 x1 x2).2.2 := ⟨_, rfl⟩
  have HY2 : Hid (y2 = (fFindIn x0 x1 x2).2.2) := hy2
  clear hy2
  go_wp2_with fail
  refine (toIntS_k x1 a1 _ c1 (fun _ => True) _ (Kd.below H1.out (Below.refl _ _)) Z1.out).mono ?_
  rintro e w1 ⟨bs1, rfl, ho, hlt, hb⟩
  clear hlt
  obtain ⟨Ls1, hLs1⟩ : ∃ L, L = w.heap.size := ⟨_, rfl⟩
  obtain ⟨Ms1, hMs1⟩ : ∃ M, M = w1.heap.size := ⟨_, rfl⟩
  have Ns1 : Hid ((kRow kInt).is true w1 (fun k => Ls1 ≤ k ∧ k < Ms1) [.slice bs1 n1 n1] x1) := Kd.tight _ ho (fun k hk hk' => ⟨by have hz : _ ≤ k := hk'; omega, by omega⟩)
  clear ho
  have Bw1 : Below w.heap.size w w1 := hb
  have zzw1 := Bw1.size
  have HB1 : Hid (Below w.heap.size w w1) := Bw1
  clear hb Bw1
  have PTs1 : w.heap.size ≤ Ls1 ∧ Ms1 ≤ w1.heap.size := by omega
  clear hLs1 hMs1
  go_wp2_with fail
  refine (specFindIn_k x0 x1 _ _ _ _ x2 _ (by omega) Ns1.out Z1.out (by omega)).mono ?_
  rintro e w2 ⟨bW0, nW0, dW0, TW0, rfl, rW0, sW0, kW0, _, hb⟩
  obtain rfl := row_len rW0
  rw [← HY0.out] at rW0 kW0 ⊢
  rw [← HY1.out]
  rw [← HY2.out]
  have KC0 : Hid (sums kInt.cnt y0 ≤ 2 ^ 26) := kW0
  obtain ⟨LW0, hLW0⟩ : ∃ L, L = w1.heap.size := ⟨_, rfl⟩
  obtain ⟨MW0, hMW0⟩ : ∃ M, M = w2.heap.size := ⟨_, rfl⟩
  have NW0 : Hid ((kRow kInt).is true w2 (fun k => LW0 ≤ k ∧ k < MW0) [.slice bW0 y0.length dW0] y0) := Kd.tight _ rW0 (fun k hk hk' => ⟨by have hz := sW0 k hk'; omega, by omega⟩)
  clear rW0 sW0 kW0
  have Bw2 : Below w1.heap.size w1 w2 := hb
  have zzw2 := Bw2.size
  have HB2 : Hid (Below w.heap.size w w2) := HB1.out.trans (Bw2.mono HB1.out.size)
  clear HB1 hb Bw2
  have PTW0 : w.heap.size ≤ LW0 ∧ MW0 ≤ w2.heap.size ∧ Ms1 ≤ LW0 := by omega
  clear hLW0 hMW0
  go_wp2_with fail
  refine (toIntS_k x1 a1 _ c1 (fun _ => True) _ (Kd.below H1.out HB2.out) Z1.out).mono ?_
  rintro e w3 ⟨bX1, rfl, ho, hlt, hb⟩
  clear hlt
  obtain ⟨LX1, hLX1⟩ : ∃ L, L = w2.heap.size := ⟨_, rfl⟩
  obtain ⟨MX1, hMX1⟩ : ∃ M, M = w3.heap.size := ⟨_, rfl⟩
  have NX1 : Hid ((kRow kInt).is true w3 (fun k => LX1 ≤ k ∧ k < MX1) [.slice bX1 n1 n1] x1) := Kd.tight _ ho (fun k hk hk' => ⟨by have hz : _ ≤ k := hk'; omega, by omega⟩)
  clear ho
  have Bw3 : Below w2.heap.size w2 w3 := hb
  have zzw3 := Bw3.size
  have W0_w3 : Hid ((kRow kInt).is true w3 (fun k => LW0 ≤ k ∧ k < MW0) [.slice bW0 y0.length dW0] y0) := Kd.below NW0.out Bw3
  have HB3 : Hid (Below w.heap.size w w3) := HB2.out.trans (Bw3.mono HB2.out.size)
  clear NW0 HB2 hb Bw3
  have PTX1 : w.heap.size ≤ LX1 ∧ MX1 ≤ w3.heap.size ∧ Ms1 ≤ LX1 ∧ MW0 ≤ LX1 := by omega
  clear hLX1 hMX1
  go_wp2_with fail
  refine (implFindIn_k x0 x1 _ _ _ _ x2 _ (by omega) NX1.out Z1.out (by omega)).mono ?_
  rintro e w4 ⟨bG0, nG0, dG0, TG0, rfl, rG0, sG0, kG0, _, hb⟩
  obtain rfl := row_len rG0
  rw [← HY0.out] at rG0 kG0 ⊢
  rw [← HY1.out]
  rw [← HY2.out]
  clear kG0
  obtain ⟨LG0, hLG0⟩ : ∃ L, L = w3.heap.size := ⟨_, rfl⟩
  obtain ⟨MG0, hMG0⟩ : ∃ M, M = w4.heap.size := ⟨_, rfl⟩
  have NG0 : Hid ((kRow kInt).is true w4 (fun k => LG0 ≤ k ∧ k < MG0) [.slice bG0 y0.length dG0] y0) := Kd.tight _ rG0 (fun k hk hk' => ⟨by have hz := sG0 k hk'; omega, by omega⟩)
  clear rG0 sG0
  have Bw4 : Below w3.heap.size w3 w4 := hb
  have zzw4 := Bw4.size
  have W0_w4 : Hid ((kRow kInt).is true w4 (fun k => LW0 ≤ k ∧ k < MW0) [.slice bW0 y0.length dW0] y0) := Kd.below W0_w3.out Bw4
  have X1_w4 : Hid ((kRow kInt).is true w4 (fun k => LX1 ≤ k ∧ k < MX1) [.slice bX1 n1 n1] x1) := Kd.below NX1.out Bw4
  have HB4 : Hid (Below w.heap.size w w4) := HB3.out.trans (Bw4.mono HB3.out.size)
  clear W0_w3 NX1 HB3 hb Bw4
  have PTG0 : w.heap.size ≤ LG0 ∧ MG0 ≤ w4.heap.size ∧ Ms1 ≤ LG0 ∧ MW0 ≤ LG0 ∧ MX1 ≤ LG0 := by omega
  clear hLG0 hMG0
  go_wp2_with fail
  refine (eqIntS_k y0 bG0 bW0 _ dG0 dW0 _ _ _ (Kd.read _ NG0.out) (Kd.read _ W0_w4.out)).mono ?_
  rintro e w5 ⟨rfl, hb⟩
  have Bw5 : Below w4.heap.size w4 w5 := hb
  have zzw5 := Bw5.size
  have W0_w5 : Hid ((kRow kInt).is true w5 (fun k => LW0 ≤ k ∧ k < MW0) [.slice bW0 y0.length dW0] y0) := Kd.below W0_w4.out Bw5
  have X1_w5 : Hid ((kRow kInt).is true w5 (fun k => LX1 ≤ k ∧ k < MX1) [.slice bX1 n1 n1] x1) := Kd.below X1_w4.out Bw5
  have G0_w5 : Hid ((kRow kInt).is true w5 (fun k => LG0 ≤ k ∧ k < MG0) [.slice bG0 y0.length dG0] y0) := Kd.below NG0.out Bw5
  have HB5 : Hid (Below w.heap.size w w5) := HB4.out.trans (Bw5.mono HB4.out.size)
  clear W0_w4 X1_w4 NG0 HB4 hb Bw5
  go_wp2_with fail
  refine (toIntS_k x1 a1 _ c1 (fun _ => True) _ (Kd.below H1.out HB5.out) Z1.out).mono ?_
  rintro e w6 ⟨bE1, rfl, ho, hlt, hb⟩
  clear hlt
  obtain ⟨LE1, hLE1⟩ : ∃ L, L = w5.heap.size := ⟨_, rfl⟩
  obtain ⟨ME1, hME1⟩ : ∃ M, M = w6.heap.size := ⟨_, rfl⟩
  have NE1 : Hid ((kRow kInt).is true w6 (fun k => LE1 ≤ k ∧ k < ME1) [.slice bE1 n1 n1] x1) := Kd.tight _ ho (fun k hk hk' => ⟨by have hz : _ ≤ k := hk'; omega, by omega⟩)
  clear ho
  have Bw6 : Below w5.heap.size w5 w6 := hb
  have zzw6 := Bw6.size
  have W0_w6 : Hid ((kRow kInt).is true w6 (fun k => LW0 ≤ k ∧ k < MW0) [.slice bW0 y0.length dW0] y0) := Kd.below W0_w5.out Bw6
  have X1_w6 : Hid ((kRow kInt).is true w6 (fun k => LX1 ≤ k ∧ k < MX1) [.slice bX1 n1 n1] x1) := Kd.below X1_w5.out Bw6
  have G0_w6 : Hid ((kRow kInt).is true w6 (fun k => LG0 ≤ k ∧ k < MG0) [.slice bG0 y0.length dG0] y0) := Kd.below G0_w5.out Bw6
  have HB6 : Hid (Below w.heap.size w w6) := HB5.out.trans (Bw6.mono HB5.out.size)
  clear W0_w5 X1_w5 G0_w5 HB5 hb Bw6
  have PTE1 : w.heap.size ≤ LE1 ∧ ME1 ≤ w6.heap.size ∧ Ms1 ≤ LE1 ∧ MW0 ≤ LE1 ∧ MX1 ≤ LE1 ∧ MG0 ≤ LE1 := by omega
  clear hLE1 hME1
  go_wp2_with fail
  refine (eqIntS_k x1 bX1 bE1 _ n1 n1 _ _ _ (Kd.read _ X1_w6.out) (Kd.read _ NE1.out)).mono ?_
  rintro e w7 ⟨rfl, hb⟩
  have Bw7 : Below w6.heap.size w6 w7 := hb
  have zzw7 := Bw7.size
  have W0_w7 : Hid ((kRow kInt).is true w7 (fun k => LW0 ≤ k ∧ k < MW0) [.slice bW0 y0.length dW0] y0) := Kd.below W0_w6.out Bw7
  have X1_w7 : Hid ((kRow kInt).is true w7 (fun k => LX1 ≤ k ∧ k < MX1) [.slice bX1 n1 n1] x1) := Kd.below X1_w6.out Bw7
  have G0_w7 : Hid ((kRow kInt).is true w7 (fun k => LG0 ≤ k ∧ k < MG0) [.slice bG0 y0.length dG0] y0) := Kd.below G0_w6.out Bw7
  have HB7 : Hid (Below w.heap.size w w7) := HB6.out.trans (Bw7.mono HB6.out.size)
  clear W0_w6 X1_w6 G0_w6 HB6 hb Bw7
  have CB1 : Hid (sums kInt.cnt x1 ≤ 2 ^ 26) := cnt_IntS Z1.out
  obtain ⟨kc1, hkc1⟩ : ∃ k, k = sums kInt.cnt x1 := ⟨_, rfl⟩
  have kb1 : kc1 ≤ 2 ^ 26 := by have := CB1.out; omega
  have HKC1 : Hid (kc1 = sums kInt.cnt x1) := hkc1
  clear hkc1
  go_wp2_with fail
  refine (markIntS_k x1 _ _ _ _ _ _ (by omega) (by have := HKC1.out; omega) X1_w7.out).mono ?_
  rw [← HKC1.out]
  rintro e w8 ⟨rfl, hb, hr⟩
  clear hr
  have Bw8 : KeptO (fun k => LX1 ≤ k ∧ k < MX1) w7 w8 := hb
  have zzw8 := Bw8.size
  have W0_w8 : Hid ((kRow kInt).is true w8 (fun k => LW0 ≤ k ∧ k < MW0) [.slice bW0 y0.length dW0] y0) := Kd.kept W0_w7.out Bw8 (fun k _ h1 h2 => by omega)
  have G0_w8 : Hid ((kRow kInt).is true w8 (fun k => LG0 ≤ k ∧ k < MG0) [.slice bG0 y0.length dG0] y0) := Kd.kept G0_w7.out Bw8 (fun k _ h1 h2 => by omega)
  have HB8 : Hid (Below w.heap.size w w8) := HB7.out.trans ((Bw8.below (B := w.heap.size) (HB7.out.size) (fun k hk h => by omega)))
  clear W0_w7 G0_w7 HB7 hb Bw8
  go_wp2_with fail
  refine (eqIntS_k y0 bG0 bW0 _ dG0 dW0 _ _ _ (Kd.read _ G0_w8.out) (Kd.read _ W0_w8.out)).mono ?_
  rintro e w9 ⟨rfl, hb⟩
  have Bw9 : Below w8.heap.size w8 w9 := hb
  have zzw9 := Bw9.size
  have W0_w9 : Hid ((kRow kInt).is true w9 (fun k => LW0 ≤ k ∧ k < MW0) [.slice bW0 y0.length dW0] y0) := Kd.below W0_w8.out Bw9
  have G0_w9 : Hid ((kRow kInt).is true w9 (fun k => LG0 ≤ k ∧ k < MG0) [.slice bG0 y0.length dG0] y0) := Kd.below G0_w8.out Bw9
  have HB9 : Hid (Below w.heap.size w w9) := HB8.out.trans (Bw9.mono HB8.out.size)
  clear W0_w8 G0_w8 HB8 hb Bw9
  obtain ⟨kg0, hkg0⟩ : ∃ k, k = sums kInt.cnt y0 := ⟨_, rfl⟩
  have kgb0 : kg0 ≤ 2 ^ 26 := by have := KC0.out; omega
  have HKG0 : Hid (kg0 = sums kInt.cnt y0) := hkg0
  clear hkg0
  go_wp2_with fail
  refine (markIntS_k y0 _ _ _ _ _ _ (by omega) (by have := HKG0.out; omega) G0_w9.out).mono ?_
  rw [← HKG0.out]
  rintro e w10 ⟨rfl, hb, hr⟩
  have NG0' : Hid ((kRow kInt).is true w10 (fun k => LG0 ≤ k ∧ k < MG0) [.slice bG0 y0.length dG0] (mks kInt y0 1)) := hr
  clear hr
  have Bw10 : KeptO (fun k => LG0 ≤ k ∧ k < MG0) w9 w10 := hb
  have zzw10 := Bw10.size
  have W0_w10 : Hid ((kRow kInt).is true w10 (fun k => LW0 ≤ k ∧ k < MW0) [.slice bW0 y0.length dW0] y0) := Kd.kept W0_w9.out Bw10 (fun k _ h1 h2 => by omega)
  have HB10 : Hid (Below w.heap.size w w10) := HB9.out.trans ((Bw10.below (B := w.heap.size) (HB9.out.size) (fun k hk h => by omega)))
  clear W0_w9 HB9 hb Bw10
  go_wp2_with fail
  refine (heldIntS_k y0 _ _ _ _ _ _ (by omega) (by have := HKG0.out; omega) (Kd.read _ NG0'.out)).mono ?_
  rw [← HKG0.out]
  rintro e w11 ⟨rfl, hb⟩
  have Bw11 : Below w10.heap.size w10 w11 := hb
  have zzw11 := Bw11.size
  have W0_w11 : Hid ((kRow kInt).is true w11 (fun k => LW0 ≤ k ∧ k < MW0) [.slice bW0 y0.length dW0] y0) := Kd.below W0_w10.out Bw11
  have G0_w11 : Hid ((kRow kInt).is true w11 (fun k => LG0 ≤ k ∧ k < MG0) [.slice bG0 y0.length dG0] (mks kInt y0 1)) := Kd.below NG0'.out Bw11
  have HB11 : Hid (Below w.heap.size w w11) := HB10.out.trans (Bw11.mono HB10.out.size)
  clear W0_w10 NG0' HB10 hb Bw11
  go_wp2_with fail
  refine (toIntS_k x1 a1 _ c1 (fun _ => True) _ (Kd.below H1.out HB11.out) Z1.out).mono ?_
  rintro e w12 ⟨bt1, rfl, ho, hlt, hb⟩
  clear hlt
  obtain ⟨Lt1, hLt1⟩ : ∃ L, L = w11.heap.size := ⟨_, rfl⟩
  obtain ⟨Mt1, hMt1⟩ : ∃ M, M = w12.heap.size := ⟨_, rfl⟩
  have Nt1 : Hid ((kRow kInt).is true w12 (fun k => Lt1 ≤ k ∧ k < Mt1) [.slice bt1 n1 n1] x1) := Kd.tight _ ho (fun k hk hk' => ⟨by have hz : _ ≤ k := hk'; omega, by omega⟩)
  clear ho
  have Bw12 : Below w11.heap.size w11 w12 := hb
  have zzw12 := Bw12.size
  have W0_w12 : Hid ((kRow kInt).is true w12 (fun k => LW0 ≤ k ∧ k < MW0) [.slice bW0 y0.length dW0] y0) := Kd.below W0_w11.out Bw12
  have G0_w12 : Hid ((kRow kInt).is true w12 (fun k => LG0 ≤ k ∧ k < MG0) [.slice bG0 y0.length dG0] (mks kInt y0 1)) := Kd.below G0_w11.out Bw12
  have HB12 : Hid (Below w.heap.size w w12) := HB11.out.trans (Bw12.mono HB11.out.size)
  clear W0_w11 G0_w11 HB11 hb Bw12
  have PTt1 : w.heap.size ≤ Lt1 ∧ Mt1 ≤ w12.heap.size ∧ Ms1 ≤ Lt1 ∧ MW0 ≤ Lt1 ∧ MX1 ≤ Lt1 ∧ MG0 ≤ Lt1 ∧ ME1 ≤ Lt1 := by omega
  clear hLt1 hMt1
  go_wp2_with fail
  refine (implFindIn_k x0 x1 _ _ _ _ x2 _ (by omega) Nt1.out Z1.out (by omega)).mono ?_
  rintro e w13 ⟨bH0, nH0, dH0, TH0, rfl, rH0, sH0, kH0, _, hb⟩
  obtain rfl := row_len rH0
  rw [← HY0.out] at rH0 kH0 ⊢
  rw [← HY1.out]
  rw [← HY2.out]
  clear kH0
  obtain ⟨LH0, hLH0⟩ : ∃ L, L = w12.heap.size := ⟨_, rfl⟩
  obtain ⟨MH0, hMH0⟩ : ∃ M, M = w13.heap.size := ⟨_, rfl⟩
  have NH0 : Hid ((kRow kInt).is true w13 (fun k => LH0 ≤ k ∧ k < MH0) [.slice bH0 y0.length dH0] y0) := Kd.tight _ rH0 (fun k hk hk' => ⟨by have hz := sH0 k hk'; omega, by omega⟩)
  clear rH0 sH0
  have Bw13 : Below w12.heap.size w12 w13 := hb
  have zzw13 := Bw13.size
  have W0_w13 : Hid ((kRow kInt).is true w13 (fun k => LW0 ≤ k ∧ k < MW0) [.slice bW0 y0.length dW0] y0) := Kd.below W0_w12.out Bw13
  have G0_w13 : Hid ((kRow kInt).is true w13 (fun k => LG0 ≤ k ∧ k < MG0) [.slice bG0 y0.length dG0] (mks kInt y0 1)) := Kd.below G0_w12.out Bw13
  have HB13 : Hid (Below w.heap.size w w13) := HB12.out.trans (Bw13.mono HB12.out.size)
  clear W0_w12 G0_w12 HB12 hb Bw13
  have PTH0 : w.heap.size ≤ LH0 ∧ MH0 ≤ w13.heap.size ∧ Ms1 ≤ LH0 ∧ MW0 ≤ LH0 ∧ MX1 ≤ LH0 ∧ MG0 ≤ LH0 ∧ ME1 ≤ LH0 ∧ Mt1 ≤ LH0 := by omega
  clear hLH0 hMH0
  go_wp2_with fail
  refine (eqIntS_k y0 bH0 bW0 _ dH0 dW0 _ _ _ (Kd.read _ NH0.out) (Kd.read _ W0_w13.out)).mono ?_
  rintro e w14 ⟨rfl, hb⟩
  have Bw14 : Below w13.heap.size w13 w14 := hb
  have zzw14 := Bw14.size
  have W0_w14 : Hid ((kRow kInt).is true w14 (fun k => LW0 ≤ k ∧ k < MW0) [.slice bW0 y0.length dW0] y0) := Kd.below W0_w13.out Bw14
  have G0_w14 : Hid ((kRow kInt).is true w14 (fun k => LG0 ≤ k ∧ k < MG0) [.slice bG0 y0.length dG0] (mks kInt y0 1)) := Kd.below G0_w13.out Bw14
  have H0_w14 : Hid ((kRow kInt).is true w14 (fun k => LH0 ≤ k ∧ k < MH0) [.slice bH0 y0.length dH0] y0) := Kd.below NH0.out Bw14
  have HB14 : Hid (Below w.heap.size w w14) := HB13.out.trans (Bw14.mono HB13.out.size)
  clear W0_w13 G0_w13 NH0 HB13 hb Bw14
  go_wp2_with fail
  refine (heldIntS_k y0 _ _ _ _ _ _ (by omega) (by have := HKG0.out; omega) (Kd.read _ G0_w14.out)).mono ?_
  rw [← HKG0.out]
  rintro e w15 ⟨rfl, hb⟩
  have Bw15 : Below w14.heap.size w14 w15 := hb
  have zzw15 := Bw15.size
  have W0_w15 : Hid ((kRow kInt).is true w15 (fun k => LW0 ≤ k ∧ k < MW0) [.slice bW0 y0.length dW0] y0) := Kd.below W0_w14.out Bw15
  have G0_w15 : Hid ((kRow kInt).is true w15 (fun k => LG0 ≤ k ∧ k < MG0) [.slice bG0 y0.length dG0] (mks kInt y0 1)) := Kd.below G0_w14.out Bw15
  have H0_w15 : Hid ((kRow kInt).is true w15 (fun k => LH0 ≤ k ∧ k < MH0) [.slice bH0 y0.length dH0] y0) := Kd.below H0_w14.out Bw15
  have HB15 : Hid (Below w.heap.size w w15) := HB14.out.trans (Bw15.mono HB14.out.size)
  clear W0_w14 G0_w14 H0_w14 HB14 hb Bw15
  go_wp2
  go_ret
  exact ⟨rfl, HB15.out⟩

end Go.Proofs.Ytkboblfjchkedaa
