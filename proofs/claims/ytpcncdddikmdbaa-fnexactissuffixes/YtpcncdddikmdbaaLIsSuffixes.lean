/- The law of IsSuffixes, walked: over what the program and the specification answer. No condition. -/
import Derived.Test.YtpcncdddikmdbaaSxJ
namespace Go.Proofs.Ytpcncdddikmdbaa
open Go.RowKit
set_option linter.unusedVariables false

set_option maxRecDepth 100000 in
set_option maxHeartbeats 4000000 in
theorem lawIsSuffixes_k (x0 : ByteArray) (x1 : List Int) (a1 : Option Addr) (n1 c1 : Nat) (w : World) (h0 : x0.size ≤ maxLen) (h1 : (kRow kInt).is false w (fun _ => True) [.slice a1 n1 c1] x1) :
    Calls Try.prog 5 #[.string x0, .slice a1 n1 c1] w fun e w' => e = .returned (.bool true) ∧ Below w.heap.size w w' := by
  have H1 : Hid ((kRow kInt).is false w (fun _ => True) [.slice a1 n1 c1] x1) := h1
  clear h1
  unfold maxLen at h0
  by_cases c0' : x0.size ≤ 1048576
  case neg =>
    have hk' : (1048576 : Int) < (x0.size : Int) := by omega
    show Calls Try.prog 5 #[.string x0, .slice a1 n1 c1] w _
    go_enter Try.func5, Try.ntmps5
    go_wp2_with fail
    go_ret
    exact ⟨rfl, by go_grown⟩
  have c0 : ¬ (1048576 : Int) < (x0.size : Int) := by omega
  have RL1 := row_len H1.out
  by_cases c1' : n1 ≤ 1048576
  case neg =>
    have hk' : (1048576 : Int) < (n1 : Int) := by omega
    clear RL1
    show Calls Try.prog 5 #[.string x0, .slice a1 n1 c1] w _
    go_enter Try.func5, Try.ntmps5
    go_wp2_with fail
    go_ret
    exact ⟨rfl, by go_grown⟩
  have cl1 : ¬ (1048576 : Int) < (n1 : Int) := by omega
  have Z1 : Hid ((kRow kInt).sz x1 ≤ 2 ^ 20) := by show x1.length + sums (fun _ => 0) x1 ≤ _; rw [sums_zero]; omega
  clear RL1
  show Calls Try.prog 5 #[.string x0, .slice a1 n1 c1] w _
  go_enter Try.func5, Try.ntmps5
  obtain ⟨y0, hy0⟩ : ∃ y, y = (fIsSuffixes x0 x1).1 := ⟨_, rfl⟩
  have HY0 : Hid (y0 = (fIsSuffixes x0 x1).1) := hy0
  clear hy0
  obtain ⟨y1, hy1⟩ : ∃ y, y = (fIsSuffixes x0 x1).2 := ⟨_, rfl⟩
  have HY1 : Hid (y1 = (fIsSuffixes x0 x1).2) := hy1
  clear hy1
  go_wp2_with fail
  refine (toIntS_k x1 a1 _ c1 (fun _ => True) _ (Kd.below H1.out (Below.refl _ _)) Z1.out).mono ?_
  rintro e w1 ⟨bs1, rfl, ho, hlt, hb⟩
  clear hlt
  obtain ⟨Ls1, hLs1⟩ : ∃ L, L = w.heap.size := ⟨_, rfl⟩
  obtain ⟨Ms1, hMs1⟩ : ∃ M, M = w1.heap.size := ⟨_, rfl⟩
  have Ns1 : Hid ((kRow kInt).is true w1 (fun k => Ls1 ≤ k ∧ k < Ms1) [.slice bs1 n1 n1] x1) := Kd.tight _ ho (fun k hk hk' => ⟨by have hz : _ ≤ k := hk'; omega, by omega⟩)
  clear ho
  have Bw1 : Below w.heap.size w w1 := hb
  have zzw1 := Bw1.size
  have HB1 : Hid (Below w.heap.size w w1) := Bw1
  clear hb Bw1
  have PTs1 : w.heap.size ≤ Ls1 ∧ Ms1 ≤ w1.heap.size := by omega
  clear hLs1 hMs1
  go_wp2_with fail
  refine (specIsSuffixes_k x0 x1 _ _ _ _ _ (by omega) (Kd.read _ Ns1.out) Z1.out).mono ?_
  rintro e w2 ⟨rfl, hb⟩
  rw [← HY0.out]
  rw [← HY1.out]
  have Bw2 : Below w1.heap.size w1 w2 := hb
  have zzw2 := Bw2.size
  have HB2 : Hid (Below w.heap.size w w2) := HB1.out.trans (Bw2.mono HB1.out.size)
  clear HB1 hb Bw2
  go_wp2_with fail
  refine (toIntS_k x1 a1 _ c1 (fun _ => True) _ (Kd.below H1.out HB2.out) Z1.out).mono ?_
  rintro e w3 ⟨bX1, rfl, ho, hlt, hb⟩
  clear hlt
  obtain ⟨LX1, hLX1⟩ : ∃ L, L = w2.heap.size := ⟨_, rfl⟩
  obtain ⟨MX1, hMX1⟩ : ∃ M, M = w3.heap.size := ⟨_, rfl⟩
  have NX1 : Hid ((kRow kInt).is true w3 (fun k => LX1 ≤ k ∧ k < MX1) [.slice bX1 n1 n1] x1) := Kd.tight _ ho (fun k hk hk' => ⟨by have hz : _ ≤ k := hk'; omega, by omega⟩)
  clear ho
  have Bw3 : Below w2.heap.size w2 w3 := hb
  have zzw3 := Bw3.size
  have HB3 : Hid (Below w.heap.size w w3) := HB2.out.trans (Bw3.mono HB2.out.size)
  clear HB2 hb Bw3
  have PTX1 : w.heap.size ≤ LX1 ∧ MX1 ≤ w3.heap.size ∧ Ms1 ≤ LX1 := by omega
  clear hLX1 hMX1
  go_wp2_with fail
  refine (implIsSuffixes_k x0 x1 _ _ _ _ _ (by omega) (Kd.read _ NX1.out) Z1.out).mono ?_
  rintro e w4 ⟨rfl, hb⟩
  rw [← HY0.out]
  rw [← HY1.out]
  have Bw4 : Below w3.heap.size w3 w4 := hb
  have zzw4 := Bw4.size
  have X1_w4 : Hid ((kRow kInt).is true w4 (fun k => LX1 ≤ k ∧ k < MX1) [.slice bX1 n1 n1] x1) := Kd.below NX1.out Bw4
  have HB4 : Hid (Below w.heap.size w w4) := HB3.out.trans (Bw4.mono HB3.out.size)
  clear NX1 HB3 hb Bw4
  go_wp2_with fail
  refine (toIntS_k x1 a1 _ c1 (fun _ => True) _ (Kd.below H1.out HB4.out) Z1.out).mono ?_
  rintro e w5 ⟨bE1, rfl, ho, hlt, hb⟩
  clear hlt
  obtain ⟨LE1, hLE1⟩ : ∃ L, L = w4.heap.size := ⟨_, rfl⟩
  obtain ⟨ME1, hME1⟩ : ∃ M, M = w5.heap.size := ⟨_, rfl⟩
  have NE1 : Hid ((kRow kInt).is true w5 (fun k => LE1 ≤ k ∧ k < ME1) [.slice bE1 n1 n1] x1) := Kd.tight _ ho (fun k hk hk' => ⟨by have hz : _ ≤ k := hk'; omega, by omega⟩)
  clear ho
  have Bw5 : Below w4.heap.size w4 w5 := hb
  have zzw5 := Bw5.size
  have X1_w5 : Hid ((kRow kInt).is true w5 (fun k => LX1 ≤ k ∧ k < MX1) [.slice bX1 n1 n1] x1) := Kd.below X1_w4.out Bw5
  have HB5 : Hid (Below w.heap.size w w5) := HB4.out.trans (Bw5.mono HB4.out.size)
  clear X1_w4 HB4 hb Bw5
  have PTE1 : w.heap.size ≤ LE1 ∧ ME1 ≤ w5.heap.size ∧ Ms1 ≤ LE1 ∧ MX1 ≤ LE1 := by omega
  clear hLE1 hME1
  go_wp2_with fail
  refine (eqIntS_k x1 bX1 bE1 _ n1 n1 _ _ _ (Kd.read _ X1_w5.out) (Kd.read _ NE1.out)).mono ?_
  rintro e w6 ⟨rfl, hb⟩
  have Bw6 : Below w5.heap.size w5 w6 := hb
  have zzw6 := Bw6.size
  have X1_w6 : Hid ((kRow kInt).is true w6 (fun k => LX1 ≤ k ∧ k < MX1) [.slice bX1 n1 n1] x1) := Kd.below X1_w5.out Bw6
  have HB6 : Hid (Below w.heap.size w w6) := HB5.out.trans (Bw6.mono HB5.out.size)
  clear X1_w5 HB5 hb Bw6
  go_wp2
  go_ret
  exact ⟨rfl, HB6.out⟩

end Go.Proofs.Ytpcncdddikmdbaa
