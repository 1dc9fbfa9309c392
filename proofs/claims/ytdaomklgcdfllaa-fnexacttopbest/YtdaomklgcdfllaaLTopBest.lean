/- The law of TopBest, walked: over what the program and the specification answer. No condition. -/
import Derived.Test.YtdaomklgcdfllaaTbS
namespace Go.Proofs.Ytdaomklgcdfllaa
open Go.RowKit
set_option linter.unusedVariables false

set_option maxRecDepth 100000 in
set_option maxHeartbeats 4000000 in
theorem lawTopBest_k (x0 : List DRanking) (a0 : Option Addr) (n0 c0 : Nat) (x1 : Int) (w : World) (h0 : (kRow kRanking).is false w (fun _ => True) [.slice a0 n0 c0] x0) (h1 : IntOk x1) :
    Calls Try.prog 7 #[.slice a0 n0 c0, .int .i64 x1] w fun e w' => e = .returned (.bool true) ∧ Below w.heap.size w w' := by
  have H0 : Hid ((kRow kRanking).is false w (fun _ => True) [.slice a0 n0 c0] x0) := h0
  clear h0
  show Calls Try.prog 7 #[.slice a0 n0 c0, .int .i64 x1] w _
  go_enter Try.func7, Try.ntmps7
  go_wp2_with fail
  refine (szRankingS_k x0 a0 _ c0 (fun _ => True) _ _ (by omega) (by omega) (Kd.below H0.out (Below.refl _ _))).mono ?_
  rintro e w1 ⟨q0, rfl, hq0, hb⟩
  have Bw1 : Below w.heap.size w w1 := hb
  have zzw1 := Bw1.size
  have HB1 : Hid (Below w.heap.size w w1) := Bw1
  clear hb Bw1
  rcases hq0 with rfl | ⟨p0, e0⟩
  · go_wp2
    go_ret
    exact ⟨rfl, HB1.out⟩
  have Z0 : Hid ((kRow kRanking).sz x0 ≤ 2 ^ 20) := by show _ ≤ _; omega
  have u0' : q0 ≤ 2 ^ 20 := by omega
  have v0' : ¬ q0 < 0 := by omega
  clear e0
  obtain ⟨y0, hy0⟩ : ∃ y, y = (fTopBest x0 x1).1 := ⟨_, rfl⟩
  have HY0 : Hid (y0 = (fTopBest x0 x1).1) := hy0
  clear hy0
  obtain ⟨y1, hy1⟩ : ∃ y, y = (fTopBest x0 x1).2.1 := ⟨_, rfl⟩
  have HY1 : Hid (y1 = (fTopBest x0 x1).2.1) := hy1
  clear hy1
  obtain ⟨y2, hy2⟩ : ∃ y, y = (fTopBest x0 x1).2.2 := ⟨_, rfl⟩
  have HY2 : Hid (y2 = (fTopBest x0 x1).2.2) := hy2
  clear hy2
  go_wp2_with fail
  refine (toRankingS_k x0 a0 _ c0 (fun _ => True) _ (Kd.below H0.out HB1.out) Z0.out).mono ?_
  rintro e w2 ⟨bs0, rfl, ho, hlt, hb⟩
  clear hlt
  obtain ⟨Ls0, hLs0⟩ : ∃ L, L = w1.heap.size := ⟨_, rfl⟩
  obtain ⟨Ms0, hMs0⟩ : ∃ M, M = w2.heap.size := ⟨_, rfl⟩
  have Ns0 : Hid ((kRow kRanking).is true w2 (fun k => Ls0 ≤ k ∧ k < Ms0) [.slice bs0 n0 n0] x0) := Kd.tight _ ho (fun k hk hk' => ⟨by have hz : _ ≤ k := hk'; omega, by omega⟩)
  clear ho
  have Bw2 : Below w1.heap.size w1 w2 := hb
  have zzw2 := Bw2.size
  have HB2 : Hid (Below w.heap.size w w2) := HB1.out.trans (Bw2.mono HB1.out.size)
  clear HB1 hb Bw2
  have PTs0 : w.heap.size ≤ Ls0 ∧ Ms0 ≤ w2.heap.size := by omega
  clear hLs0 hMs0
  go_wp2_with fail
  refine (specTopBest_k x0 _ _ _ _ x1 _ Ns0.out Z0.out h1).mono ?_
  rintro e w3 ⟨bW0, nW0, dW0, TW0, rfl, rW0, sW0, kW0, _, hb⟩
  obtain rfl := row_len rW0
  rw [← HY0.out] at rW0 kW0 ⊢
  rw [← HY1.out]
  rw [← HY2.out]
  have KC0 : Hid (sums kScored.cnt y0 ≤ 2 ^ 26) := kW0
  obtain ⟨LW0, hLW0⟩ : ∃ L, L = w2.heap.size := ⟨_, rfl⟩
  obtain ⟨MW0, hMW0⟩ : ∃ M, M = w3.heap.size := ⟨_, rfl⟩
  have NW0 : Hid ((kRow kScored).is true w3 (fun k => LW0 ≤ k ∧ k < MW0) [.slice bW0 y0.length dW0] y0) := Kd.tight _ rW0 (fun k hk hk' => ⟨by have hz := sW0 k hk'; omega, by omega⟩)
  clear rW0 sW0 kW0
  have Bw3 : Below w2.heap.size w2 w3 := hb
  have zzw3 := Bw3.size
  have HB3 : Hid (Below w.heap.size w w3) := HB2.out.trans (Bw3.mono HB2.out.size)
  clear HB2 hb Bw3
  have PTW0 : w.heap.size ≤ LW0 ∧ MW0 ≤ w3.heap.size ∧ Ms0 ≤ LW0 := by omega
  clear hLW0 hMW0
  go_wp2_with fail
  refine (toRankingS_k x0 a0 _ c0 (fun _ => True) _ (Kd.below H0.out HB3.out) Z0.out).mono ?_
  rintro e w4 ⟨bX0, rfl, ho, hlt, hb⟩
  clear hlt
  obtain ⟨LX0, hLX0⟩ : ∃ L, L = w3.heap.size := ⟨_, rfl⟩
  obtain ⟨MX0, hMX0⟩ : ∃ M, M = w4.heap.size := ⟨_, rfl⟩
  have NX0 : Hid ((kRow kRanking).is true w4 (fun k => LX0 ≤ k ∧ k < MX0) [.slice bX0 n0 n0] x0) := Kd.tight _ ho (fun k hk hk' => ⟨by have hz : _ ≤ k := hk'; omega, by omega⟩)
  clear ho
  have Bw4 : Below w3.heap.size w3 w4 := hb
  have zzw4 := Bw4.size
  have W0_w4 : Hid ((kRow kScored).is true w4 (fun k => LW0 ≤ k ∧ k < MW0) [.slice bW0 y0.length dW0] y0) := Kd.below NW0.out Bw4
  have HB4 : Hid (Below w.heap.size w w4) := HB3.out.trans (Bw4.mono HB3.out.size)
  clear NW0 HB3 hb Bw4
  have PTX0 : w.heap.size ≤ LX0 ∧ MX0 ≤ w4.heap.size ∧ Ms0 ≤ LX0 ∧ MW0 ≤ LX0 := by omega
  clear hLX0 hMX0
  go_wp2_with fail
  refine (implTopBest_k x0 _ _ _ _ x1 _ NX0.out Z0.out h1).mono ?_
  rintro e w5 ⟨bG0, nG0, dG0, TG0, rfl, rG0, sG0, kG0, _, hb⟩
  obtain rfl := row_len rG0
  rw [← HY0.out] at rG0 kG0 ⊢
  rw [← HY1.out]
  rw [← HY2.out]
  clear kG0
  obtain ⟨LG0, hLG0⟩ : ∃ L, L = w4.heap.size := ⟨_, rfl⟩
  obtain ⟨MG0, hMG0⟩ : ∃ M, M = w5.heap.size := ⟨_, rfl⟩
  have NG0 : Hid ((kRow kScored).is true w5 (fun k => LG0 ≤ k ∧ k < MG0) [.slice bG0 y0.length dG0] y0) := Kd.tight _ rG0 (fun k hk hk' => ⟨by have hz := sG0 k hk'; omega, by omega⟩)
  clear rG0 sG0
  have Bw5 : Below w4.heap.size w4 w5 := hb
  have zzw5 := Bw5.size
  have W0_w5 : Hid ((kRow kScored).is true w5 (fun k => LW0 ≤ k ∧ k < MW0) [.slice bW0 y0.length dW0] y0) := Kd.below W0_w4.out Bw5
  have X0_w5 : Hid ((kRow kRanking).is true w5 (fun k => LX0 ≤ k ∧ k < MX0) [.slice bX0 n0 n0] x0) := Kd.below NX0.out Bw5
  have HB5 : Hid (Below w.heap.size w w5) := HB4.out.trans (Bw5.mono HB4.out.size)
  clear W0_w4 NX0 HB4 hb Bw5
  have PTG0 : w.heap.size ≤ LG0 ∧ MG0 ≤ w5.heap.size ∧ Ms0 ≤ LG0 ∧ MW0 ≤ LG0 ∧ MX0 ≤ LG0 := by omega
  clear hLG0 hMG0
  go_wp2_with fail
  refine (eqScoredS_k y0 bG0 bW0 _ dG0 dW0 _ _ _ (Kd.read _ NG0.out) (Kd.read _ W0_w5.out)).mono ?_
  rintro e w6 ⟨rfl, hb⟩
  have Bw6 : Below w5.heap.size w5 w6 := hb
  have zzw6 := Bw6.size
  have W0_w6 : Hid ((kRow kScored).is true w6 (fun k => LW0 ≤ k ∧ k < MW0) [.slice bW0 y0.length dW0] y0) := Kd.below W0_w5.out Bw6
  have X0_w6 : Hid ((kRow kRanking).is true w6 (fun k => LX0 ≤ k ∧ k < MX0) [.slice bX0 n0 n0] x0) := Kd.below X0_w5.out Bw6
  have G0_w6 : Hid ((kRow kScored).is true w6 (fun k => LG0 ≤ k ∧ k < MG0) [.slice bG0 y0.length dG0] y0) := Kd.below NG0.out Bw6
  have HB6 : Hid (Below w.heap.size w w6) := HB5.out.trans (Bw6.mono HB5.out.size)
  clear W0_w5 X0_w5 NG0 HB5 hb Bw6
  go_wp2_with fail
  refine (toRankingS_k x0 a0 _ c0 (fun _ => True) _ (Kd.below H0.out HB6.out) Z0.out).mono ?_
  rintro e w7 ⟨bE0, rfl, ho, hlt, hb⟩
  clear hlt
  obtain ⟨LE0, hLE0⟩ : ∃ L, L = w6.heap.size := ⟨_, rfl⟩
  obtain ⟨ME0, hME0⟩ : ∃ M, M = w7.heap.size := ⟨_, rfl⟩
  have NE0 : Hid ((kRow kRanking).is true w7 (fun k => LE0 ≤ k ∧ k < ME0) [.slice bE0 n0 n0] x0) := Kd.tight _ ho (fun k hk hk' => ⟨by have hz : _ ≤ k := hk'; omega, by omega⟩)
  clear ho
  have Bw7 : Below w6.heap.size w6 w7 := hb
  have zzw7 := Bw7.size
  have W0_w7 : Hid ((kRow kScored).is true w7 (fun k => LW0 ≤ k ∧ k < MW0) [.slice bW0 y0.length dW0] y0) := Kd.below W0_w6.out Bw7
  have X0_w7 : Hid ((kRow kRanking).is true w7 (fun k => LX0 ≤ k ∧ k < MX0) [.slice bX0 n0 n0] x0) := Kd.below X0_w6.out Bw7
  have G0_w7 : Hid ((kRow kScored).is true w7 (fun k => LG0 ≤ k ∧ k < MG0) [.slice bG0 y0.length dG0] y0) := Kd.below G0_w6.out Bw7
  have HB7 : Hid (Below w.heap.size w w7) := HB6.out.trans (Bw7.mono HB6.out.size)
  clear W0_w6 X0_w6 G0_w6 HB6 hb Bw7
  have PTE0 : w.heap.size ≤ LE0 ∧ ME0 ≤ w7.heap.size ∧ Ms0 ≤ LE0 ∧ MW0 ≤ LE0 ∧ MX0 ≤ LE0 ∧ MG0 ≤ LE0 := by omega
  clear hLE0 hME0
  go_wp2_with fail
  refine (eqRankingS_k x0 bX0 bE0 _ n0 n0 _ _ _ (Kd.read _ X0_w7.out) (Kd.read _ NE0.out)).mono ?_
  rintro e w8 ⟨rfl, hb⟩
  have Bw8 : Below w7.heap.size w7 w8 := hb
  have zzw8 := Bw8.size
  have W0_w8 : Hid ((kRow kScored).is true w8 (fun k => LW0 ≤ k ∧ k < MW0) [.slice bW0 y0.length dW0] y0) := Kd.below W0_w7.out Bw8
  have X0_w8 : Hid ((kRow kRanking).is true w8 (fun k => LX0 ≤ k ∧ k < MX0) [.slice bX0 n0 n0] x0) := Kd.below X0_w7.out Bw8
  have G0_w8 : Hid ((kRow kScored).is true w8 (fun k => LG0 ≤ k ∧ k < MG0) [.slice bG0 y0.length dG0] y0) := Kd.below G0_w7.out Bw8
  have HB8 : Hid (Below w.heap.size w w8) := HB7.out.trans (Bw8.mono HB7.out.size)
  clear W0_w7 X0_w7 G0_w7 HB7 hb Bw8
  have CB0 : Hid (sums kRanking.cnt x0 ≤ 2 ^ 26) := cnt_RankingS Z0.out
  obtain ⟨kc0, hkc0⟩ : ∃ k, k = sums kRanking.cnt x0 := ⟨_, rfl⟩
  have kb0 : kc0 ≤ 2 ^ 26 := by have := CB0.out; omega
  have HKC0 : Hid (kc0 = sums kRanking.cnt x0) := hkc0
  clear hkc0
  go_wp2_with fail
  refine (markRankingS_k x0 _ _ _ _ _ _ (by omega) (by have := HKC0.out; omega) X0_w8.out).mono ?_
  rw [← HKC0.out]
  rintro e w9 ⟨rfl, hb, hr⟩
  clear hr
  have Bw9 : KeptO (fun k => LX0 ≤ k ∧ k < MX0) w8 w9 := hb
  have zzw9 := Bw9.size
  have W0_w9 : Hid ((kRow kScored).is true w9 (fun k => LW0 ≤ k ∧ k < MW0) [.slice bW0 y0.length dW0] y0) := Kd.kept W0_w8.out Bw9 (fun k _ h1 h2 => by omega)
  have G0_w9 : Hid ((kRow kScored).is true w9 (fun k => LG0 ≤ k ∧ k < MG0) [.slice bG0 y0.length dG0] y0) := Kd.kept G0_w8.out Bw9 (fun k _ h1 h2 => by omega)
  have HB9 : Hid (Below w.heap.size w w9) := HB8.out.trans ((Bw9.below (B := w.heap.size) (HB8.out.size) (fun k hk h => by omega)))
  clear W0_w8 G0_w8 HB8 hb Bw9
  go_wp2_with fail
  refine (eqScoredS_k y0 bG0 bW0 _ dG0 dW0 _ _ _ (Kd.read _ G0_w9.out) (Kd.read _ W0_w9.out)).mono ?_
  rintro e w10 ⟨rfl, hb⟩
  have Bw10 : Below w9.heap.size w9 w10 := hb
  have zzw10 := Bw10.size
  have W0_w10 : Hid ((kRow kScored).is true w10 (fun k => LW0 ≤ k ∧ k < MW0) [.slice bW0 y0.length dW0] y0) := Kd.below W0_w9.out Bw10
  have G0_w10 : Hid ((kRow kScored).is true w10 (fun k => LG0 ≤ k ∧ k < MG0) [.slice bG0 y0.length dG0] y0) := Kd.below G0_w9.out Bw10
  have HB10 : Hid (Below w.heap.size w w10) := HB9.out.trans (Bw10.mono HB9.out.size)
  clear W0_w9 G0_w9 HB9 hb Bw10
  obtain ⟨kg0, hkg0⟩ : ∃ k, k = sums kScored.cnt y0 := ⟨_, rfl⟩
  have kgb0 : kg0 ≤ 2 ^ 26 := by have := KC0.out; omega
  have HKG0 : Hid (kg0 = sums kScored.cnt y0) := hkg0
  clear hkg0
  go_wp2_with fail
  refine (markScoredS_k y0 _ _ _ _ _ _ (by omega) (by have := HKG0.out; omega) G0_w10.out).mono ?_
  rw [← HKG0.out]
  rintro e w11 ⟨rfl, hb, hr⟩
  have NG0' : Hid ((kRow kScored).is true w11 (fun k => LG0 ≤ k ∧ k < MG0) [.slice bG0 y0.length dG0] (mks kScored y0 1)) := hr
  clear hr
  have Bw11 : KeptO (fun k => LG0 ≤ k ∧ k < MG0) w10 w11 := hb
  have zzw11 := Bw11.size
  have W0_w11 : Hid ((kRow kScored).is true w11 (fun k => LW0 ≤ k ∧ k < MW0) [.slice bW0 y0.length dW0] y0) := Kd.kept W0_w10.out Bw11 (fun k _ h1 h2 => by omega)
  have HB11 : Hid (Below w.heap.size w w11) := HB10.out.trans ((Bw11.below (B := w.heap.size) (HB10.out.size) (fun k hk h => by omega)))
  clear W0_w10 HB10 hb Bw11
  go_wp2_with fail
  refine (heldScoredS_k y0 _ _ _ _ _ _ (by omega) (by have := HKG0.out; omega) (Kd.read _ NG0'.out)).mono ?_
  rw [← HKG0.out]
  rintro e w12 ⟨rfl, hb⟩
  have Bw12 : Below w11.heap.size w11 w12 := hb
  have zzw12 := Bw12.size
  have W0_w12 : Hid ((kRow kScored).is true w12 (fun k => LW0 ≤ k ∧ k < MW0) [.slice bW0 y0.length dW0] y0) := Kd.below W0_w11.out Bw12
  have G0_w12 : Hid ((kRow kScored).is true w12 (fun k => LG0 ≤ k ∧ k < MG0) [.slice bG0 y0.length dG0] (mks kScored y0 1)) := Kd.below NG0'.out Bw12
  have HB12 : Hid (Below w.heap.size w w12) := HB11.out.trans (Bw12.mono HB11.out.size)
  clear W0_w11 NG0' HB11 hb Bw12
  go_wp2_with fail
  refine (toRankingS_k x0 a0 _ c0 (fun _ => True) _ (Kd.below H0.out HB12.out) Z0.out).mono ?_
  rintro e w13 ⟨bt0, rfl, ho, hlt, hb⟩
  clear hlt
  obtain ⟨Lt0, hLt0⟩ : ∃ L, L = w12.heap.size := ⟨_, rfl⟩
  obtain ⟨Mt0, hMt0⟩ : ∃ M, M = w13.heap.size := ⟨_, rfl⟩
  have Nt0 : Hid ((kRow kRanking).is true w13 (fun k => Lt0 ≤ k ∧ k < Mt0) [.slice bt0 n0 n0] x0) := Kd.tight _ ho (fun k hk hk' => ⟨by have hz : _ ≤ k := hk'; omega, by omega⟩)
  clear ho
  have Bw13 : Below w12.heap.size w12 w13 := hb
  have zzw13 := Bw13.size
  have W0_w13 : Hid ((kRow kScored).is true w13 (fun k => LW0 ≤ k ∧ k < MW0) [.slice bW0 y0.length dW0] y0) := Kd.below W0_w12.out Bw13
  have G0_w13 : Hid ((kRow kScored).is true w13 (fun k => LG0 ≤ k ∧ k < MG0) [.slice bG0 y0.length dG0] (mks kScored y0 1)) := Kd.below G0_w12.out Bw13
  have HB13 : Hid (Below w.heap.size w w13) := HB12.out.trans (Bw13.mono HB12.out.size)
  clear W0_w12 G0_w12 HB12 hb Bw13
  have PTt0 : w.heap.size ≤ Lt0 ∧ Mt0 ≤ w13.heap.size ∧ Ms0 ≤ Lt0 ∧ MW0 ≤ Lt0 ∧ MX0 ≤ Lt0 ∧ MG0 ≤ Lt0 ∧ ME0 ≤ Lt0 := by omega
  clear hLt0 hMt0
  go_wp2_with fail
  refine (implTopBest_k x0 _ _ _ _ x1 _ Nt0.out Z0.out h1).mono ?_
  rintro e w14 ⟨bH0, nH0, dH0, TH0, rfl, rH0, sH0, kH0, _, hb⟩
  obtain rfl := row_len rH0
  rw [← HY0.out] at rH0 kH0 ⊢
  rw [← HY1.out]
  rw [← HY2.out]
  clear kH0
  obtain ⟨LH0, hLH0⟩ : ∃ L, L = w13.heap.size := ⟨_, rfl⟩
  obtain ⟨MH0, hMH0⟩ : ∃ M, M = w14.heap.size := ⟨_, rfl⟩
  have NH0 : Hid ((kRow kScored).is true w14 (fun k => LH0 ≤ k ∧ k < MH0) [.slice bH0 y0.length dH0] y0) := Kd.tight _ rH0 (fun k hk hk' => ⟨by have hz := sH0 k hk'; omega, by omega⟩)
  clear rH0 sH0
  have Bw14 : Below w13.heap.size w13 w14 := hb
  have zzw14 := Bw14.size
  have W0_w14 : Hid ((kRow kScored).is true w14 (fun k => LW0 ≤ k ∧ k < MW0) [.slice bW0 y0.length dW0] y0) := Kd.below W0_w13.out Bw14
  have G0_w14 : Hid ((kRow kScored).is true w14 (fun k => LG0 ≤ k ∧ k < MG0) [.slice bG0 y0.length dG0] (mks kScored y0 1)) := Kd.below G0_w13.out Bw14
  have HB14 : Hid (Below w.heap.size w w14) := HB13.out.trans (Bw14.mono HB13.out.size)
  clear W0_w13 G0_w13 HB13 hb Bw14
  have PTH0 : w.heap.size ≤ LH0 ∧ MH0 ≤ w14.heap.size ∧ Ms0 ≤ LH0 ∧ MW0 ≤ LH0 ∧ MX0 ≤ LH0 ∧ MG0 ≤ LH0 ∧ ME0 ≤ LH0 ∧ Mt0 ≤ LH0 := by omega
  clear hLH0 hMH0
  go_wp2_with fail
  refine (eqScoredS_k y0 bH0 bW0 _ dH0 dW0 _ _ _ (Kd.read _ NH0.out) (Kd.read _ W0_w14.out)).mono ?_
  rintro e w15 ⟨rfl, hb⟩
  have Bw15 : Below w14.heap.size w14 w15 := hb
  have zzw15 := Bw15.size
  have W0_w15 : Hid ((kRow kScored).is true w15 (fun k => LW0 ≤ k ∧ k < MW0) [.slice bW0 y0.length dW0] y0) := Kd.below W0_w14.out Bw15
  have G0_w15 : Hid ((kRow kScored).is true w15 (fun k => LG0 ≤ k ∧ k < MG0) [.slice bG0 y0.length dG0] (mks kScored y0 1)) := Kd.below G0_w14.out Bw15
  have H0_w15 : Hid ((kRow kScored).is true w15 (fun k => LH0 ≤ k ∧ k < MH0) [.slice bH0 y0.length dH0] y0) := Kd.below NH0.out Bw15
  have HB15 : Hid (Below w.heap.size w w15) := HB14.out.trans (Bw15.mono HB14.out.size)
  clear W0_w14 G0_w14 NH0 HB14 hb Bw15
  go_wp2_with fail
  refine (heldScoredS_k y0 _ _ _ _ _ _ (by omega) (by have := HKG0.out; omega) (Kd.read _ G0_w15.out)).mono ?_
  rw [← HKG0.out]
  rintro e w16 ⟨rfl, hb⟩
  have Bw16 : Below w15.heap.size w15 w16 := hb
  have zzw16 := Bw16.size
  have W0_w16 : Hid ((kRow kScored).is true w16 (fun k => LW0 ≤ k ∧ k < MW0) [.slice bW0 y0.length dW0] y0) := Kd.below W0_w15.out Bw16
  have G0_w16 : Hid ((kRow kScored).is true w16 (fun k => LG0 ≤ k ∧ k < MG0) [.slice bG0 y0.length dG0] (mks kScored y0 1)) := Kd.below G0_w15.out Bw16
  have H0_w16 : Hid ((kRow kScored).is true w16 (fun k => LH0 ≤ k ∧ k < MH0) [.slice bH0 y0.length dH0] y0) := Kd.below H0_w15.out Bw16
  have HB16 : Hid (Below w.heap.size w w16) := HB15.out.trans (Bw16.mono HB15.out.size)
  clear W0_w15 G0_w15 H0_w15 HB15 hb Bw16
  go_wp2
  go_ret
  exact ⟨rfl, HB16.out⟩

end Go.Proofs.Ytdaomklgcdfllaa
