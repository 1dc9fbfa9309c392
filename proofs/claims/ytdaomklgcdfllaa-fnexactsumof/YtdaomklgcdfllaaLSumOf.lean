/- The law of SumOf, walked: over what the program and the specification answer. No condition. -/
import Derived.Test.YtdaomklgcdfllaaSmO
namespace Go.Proofs.Ytdaomklgcdfllaa
open Go.RowKit
set_option linter.unusedVariables false

set_option maxRecDepth 100000 in
set_option maxHeartbeats 4000000 in
theorem lawSumOf_k (x0 : List DRanking) (a0 : Option Addr) (n0 c0 : Nat) (x1 : Int) (w : World) (h0 : (kRow kRanking).is false w (fun _ => True) [.slice a0 n0 c0] x0) (h1 : IntOk x1) :
    Calls Try.prog 5 #[.slice a0 n0 c0, .int .i64 x1] w fun e w' => e = .returned (.bool true) ∧ Below w.heap.size w w' := by
  have H0 : Hid ((kRow kRanking).is false w (fun _ => True) [.slice a0 n0 c0] x0) := h0
  clear h0
  show Calls Try.prog 5 #[.slice a0 n0 c0, .int .i64 x1] w _
  go_enter Try.func5, Try.ntmps5
  go_wp2_with fail
  refine (szRankingS_k x0 a0 _ c0 (fun _ => True) _ _ (by omega) (by omega) (Kd.below H0.out (Below.refl _ _))).mono ?_
  rintro e w1 ⟨q0, rfl, hq0, hb⟩
  have Bw1 : Below w.heap.size w w1 := hb
  have zzw1 := Bw1.size
  have HB1 : Hid (Below w.heap.size w w1) := Bw1
  clear hb Bw1
  rcases hq0 with rfl | ⟨p0, e0⟩
  · go_wp2
    go_ret
    exact ⟨rfl, HB1.out⟩
  have Z0 : Hid ((kRow kRanking).sz x0 ≤ 2 ^ 20) := by show _ ≤ _; omega
  have u0' : q0 ≤ 2 ^ 20 := by omega
  have v0' : ¬ q0 < 0 := by omega
  clear e0
  obtain ⟨y0, hy0⟩ : ∃ y, y = (fSumOf x0 x1).1 := ⟨_, rfl⟩
  have HY0 : Hid (y0 = (fSumOf x0 x1).1) := hy0
  clear hy0
  obtain ⟨y1, hy1⟩ : ∃ y, y = (fSumOf x0 x1).2 := ⟨_, rfl⟩
  have HY1 : Hid (y1 = (fSumOf x0 x1).2) := hy1
  clear hy1
  go_wp2_with fail
  refine (toRankingS_k x0 a0 _ c0 (fun _ => True) _ (Kd.below H0.out HB1.out) Z0.out).mono ?_
  rintro e w2 ⟨bs0, rfl, ho, hlt, hb⟩
  clear hlt
  obtain ⟨Ls0, hLs0⟩ : ∃ L, L = w1.heap.size := ⟨_, rfl⟩
  obtain ⟨Ms0, hMs0⟩ : ∃ M, M = w2.heap.size := ⟨_, rfl⟩
  have Ns0 : Hid ((kRow kRanking).is true w2 (fun k => Ls0 ≤ k ∧ k < Ms0) [.slice bs0 n0 n0] x0) := Kd.tight _ ho (fun k hk hk' => ⟨by have hz : _ ≤ k := hk'; omega, by omega⟩)
  clear ho
  have Bw2 : Below w1.heap.size w1 w2 := hb
  have zzw2 := Bw2.size
  have HB2 : Hid (Below w.heap.size w w2) := HB1.out.trans (Bw2.mono HB1.out.size)
  clear HB1 hb Bw2
  have PTs0 : w.heap.size ≤ Ls0 ∧ Ms0 ≤ w2.heap.size := by omega
  clear hLs0 hMs0
  go_wp2_with fail
  refine (specSumOf_k x0 _ _ _ _ x1 _ Ns0.out Z0.out h1).mono ?_
  rintro e w3 ⟨rfl, _, hb⟩
  rw [← HY0.out]
  rw [← HY1.out]
  have Bw3 : Below w2.heap.size w2 w3 := hb
  have zzw3 := Bw3.size
  have HB3 : Hid (Below w.heap.size w w3) := HB2.out.trans (Bw3.mono HB2.out.size)
  clear HB2 hb Bw3
  go_wp2_with fail
  refine (toRankingS_k x0 a0 _ c0 (fun _ => True) _ (Kd.below H0.out HB3.out) Z0.out).mono ?_
  rintro e w4 ⟨bX0, rfl, ho, hlt, hb⟩
  clear hlt
  obtain ⟨LX0, hLX0⟩ : ∃ L, L = w3.heap.size := ⟨_, rfl⟩
  obtain ⟨MX0, hMX0⟩ : ∃ M, M = w4.heap.size := ⟨_, rfl⟩
  have NX0 : Hid ((kRow kRanking).is true w4 (fun k => LX0 ≤ k ∧ k < MX0) [.slice bX0 n0 n0] x0) := Kd.tight _ ho (fun k hk hk' => ⟨by have hz : _ ≤ k := hk'; omega, by omega⟩)
  clear ho
  have Bw4 : Below w3.heap.size w3 w4 := hb
  have zzw4 := Bw4.size
  have HB4 : Hid (Below w.heap.size w w4) := HB3.out.trans (Bw4.mono HB3.out.size)
  clear HB3 hb Bw4
  have PTX0 : w.heap.size ≤ LX0 ∧ MX0 ≤ w4.heap.size ∧ Ms0 ≤ LX0 := by omega
  clear hLX0 hMX0
  go_wp2_with fail
  refine (implSumOf_k x0 _ _ _ _ x1 _ NX0.out Z0.out h1).mono ?_
  rintro e w5 ⟨rfl, _, hb⟩
  rw [← HY0.out]
  rw [← HY1.out]
  have Bw5 : Below w4.heap.size w4 w5 := hb
  have zzw5 := Bw5.size
  have X0_w5 : Hid ((kRow kRanking).is true w5 (fun k => LX0 ≤ k ∧ k < MX0) [.slice bX0 n0 n0] x0) := Kd.below NX0.out Bw5
  have HB5 : Hid (Below w.heap.size w w5) := HB4.out.trans (Bw5.mono HB4.out.size)
  clear NX0 HB4 hb Bw5
  go_wp2_with fail
  refine (toRankingS_k x0 a0 _ c0 (fun _ => True) _ (Kd.below H0.out HB5.out) Z0.out).mono ?_
  rintro e w6 ⟨bE0, rfl, ho, hlt, hb⟩
  clear hlt
  obtain ⟨LE0, hLE0⟩ : ∃ L, L = w5.heap.size := ⟨_, rfl⟩
  obtain ⟨ME0, hME0⟩ : ∃ M, M = w6.heap.size := ⟨_, rfl⟩
  have NE0 : Hid ((kRow kRanking).is true w6 (fun k => LE0 ≤ k ∧ k < ME0) [.slice bE0 n0 n0] x0) := Kd.tight _ ho (fun k hk hk' => ⟨by have hz : _ ≤ k := hk'; omega, by omega⟩)
  clear ho
  have Bw6 : Below w5.heap.size w5 w6 := hb
  have zzw6 := Bw6.size
  have X0_w6 : Hid ((kRow kRanking).is true w6 (fun k => LX0 ≤ k ∧ k < MX0) [.slice bX0 n0 n0] x0) := Kd.below X0_w5.out Bw6
  have HB6 : Hid (Below w.heap.size w w6) := HB5.out.trans (Bw6.mono HB5.out.size)
  clear X0_w5 HB5 hb Bw6
  have PTE0 : w.heap.size ≤ LE0 ∧ ME0 ≤ w6.heap.size ∧ Ms0 ≤ LE0 ∧ MX0 ≤ LE0 := by omega
  clear hLE0 hME0
  go_wp2_with fail
  refine (eqRankingS_k x0 bX0 bE0 _ n0 n0 _ _ _ (Kd.read _ X0_w6.out) (Kd.read _ NE0.out)).mono ?_
  rintro e w7 ⟨rfl, hb⟩
  have Bw7 : Below w6.heap.size w6 w7 := hb
  have zzw7 := Bw7.size
  have X0_w7 : Hid ((kRow kRanking).is true w7 (fun k => LX0 ≤ k ∧ k < MX0) [.slice bX0 n0 n0] x0) := Kd.below X0_w6.out Bw7
  have HB7 : Hid (Below w.heap.size w w7) := HB6.out.trans (Bw7.mono HB6.out.size)
  clear X0_w6 HB6 hb Bw7
  go_wp2
  go_ret
  exact ⟨rfl, HB7.out⟩

end Go.Proofs.Ytdaomklgcdfllaa
