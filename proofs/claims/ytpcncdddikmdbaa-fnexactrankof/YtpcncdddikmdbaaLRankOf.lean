/- The law of RankOf, walked: over what the program and the specification answer. No condition. -/
import Derived.Test.YtpcncdddikmdbaaSxRk
namespace Go.Proofs.Ytpcncdddikmdbaa
open Go.RowKit
set_option linter.unusedVariables false

set_option maxRecDepth 100000 in
set_option maxHeartbeats 4000000 in
theorem lawRankOf_k (x0 : ByteArray) (x1 : Int) (x2 : Int) (w : World) (h0 : x0.size ≤ maxLen) (h1 : IntOk x1) (h2 : IntOk x2) :
    Calls Try.prog 9 #[.string x0, .int .i64 x1, .int .i64 x2] w fun e w' => e = .returned (.bool true) ∧ Below w.heap.size w w' := by
  unfold maxLen at h0
  by_cases c0' : x0.size ≤ 1048576
  case neg =>
    have hk' : (1048576 : Int) < (x0.size : Int) := by omega
    show Calls Try.prog 9 #[.string x0, .int .i64 x1, .int .i64 x2] w _
    go_enter Try.func9, Try.ntmps9
    go_wp2_with fail
    go_ret
    exact ⟨rfl, by go_grown⟩
  have c0 : ¬ (1048576 : Int) < (x0.size : Int) := by omega
  show Calls Try.prog 9 #[.string x0, .int .i64 x1, .int .i64 x2] w _
  go_enter Try.func9, Try.ntmps9
  obtain ⟨y0, hy0⟩ : ∃ y, y = (fRankOf x0 x1 x2).1 := ⟨_, rfl⟩
  have HY0 : Hid (y0 = (fRankOf x0 x1 x2).1) := hy0
  clear hy0
  obtain ⟨y1, hy1⟩ : ∃ y, y = (fRankOf x0 x1 x2).2 := ⟨_, rfl⟩
  have HY1 : Hid (y1 = (fRankOf x0 x1 x2).2) := hy1
  clear hy1
  go_wp2_with fail
  refine (specRankOf_k x0 x1 x2 _ (by omega) h1 h2).mono ?_
  rintro e w1 ⟨bW0, nW0, dW0, TW0, rfl, rW0, sW0, kW0, hb⟩
  obtain rfl := row_len rW0
  rw [← HY0.out] at rW0 kW0 ⊢
  rw [← HY1.out]
  have KC0 : Hid (sums kInt.cnt y0 ≤ 2 ^ 26) := kW0
  obtain ⟨LW0, hLW0⟩ : ∃ L, L = w.heap.size := ⟨_, rfl⟩
  obtain ⟨MW0, hMW0⟩ : ∃ M, M = w1.heap.size := ⟨_, rfl⟩
  have NW0 : Hid ((kRow kInt).is true w1 (fun k => LW0 ≤ k ∧ k < MW0) [.slice bW0 y0.length dW0] y0) := Kd.tight _ rW0 (fun k hk hk' => ⟨by have hz := sW0 k hk'; omega, by omega⟩)
  clear rW0 sW0 kW0
  have Bw1 : Below w.heap.size w w1 := hb
  have zzw1 := Bw1.size
  have HB1 : Hid (Below w.heap.size w w1) := Bw1
  clear hb Bw1
  have PTW0 : w.heap.size ≤ LW0 ∧ MW0 ≤ w1.heap.size := by omega
  clear hLW0 hMW0
  go_wp2_with fail
  refine (implRankOf_k x0 x1 x2 _ (by omega) h1 h2).mono ?_
  rintro e w2 ⟨bG0, nG0, dG0, TG0, rfl, rG0, sG0, kG0, hb⟩
  obtain rfl := row_len rG0
  rw [← HY0.out] at rG0 kG0 ⊢
  rw [← HY1.out]
  clear kG0
  obtain ⟨LG0, hLG0⟩ : ∃ L, L = w1.heap.size := ⟨_, rfl⟩
  obtain ⟨MG0, hMG0⟩ : ∃ M, M = w2.heap.size := ⟨_, rfl⟩
  have NG0 : Hid ((kRow kInt).is true w2 (fun k => LG0 ≤ k ∧ k < MG0) [.slice bG0 y0.length dG0] y0) := Kd.tight _ rG0 (fun k hk hk' => ⟨by have hz := sG0 k hk'; omega, by omega⟩)
  clear rG0 sG0
  have Bw2 : Below w1.heap.size w1 w2 := hb
  have zzw2 := Bw2.size
  have W0_w2 : Hid ((kRow kInt).is true w2 (fun k => LW0 ≤ k ∧ k < MW0) [.slice bW0 y0.length dW0] y0) := Kd.below NW0.out Bw2
  have HB2 : Hid (Below w.heap.size w w2) := HB1.out.trans (Bw2.mono HB1.out.size)
  clear NW0 HB1 hb Bw2
  have PTG0 : w.heap.size ≤ LG0 ∧ MG0 ≤ w2.heap.size ∧ MW0 ≤ LG0 := by omega
  clear hLG0 hMG0
  go_wp2_with fail
  refine (eqIntS_k y0 bG0 bW0 _ dG0 dW0 _ _ _ (Kd.read _ NG0.out) (Kd.read _ W0_w2.out)).mono ?_
  rintro e w3 ⟨rfl, hb⟩
  have Bw3 : Below w2.heap.size w2 w3 := hb
  have zzw3 := Bw3.size
  have W0_w3 : Hid ((kRow kInt).is true w3 (fun k => LW0 ≤ k ∧ k < MW0) [.slice bW0 y0.length dW0] y0) := Kd.below W0_w2.out Bw3
  have G0_w3 : Hid ((kRow kInt).is true w3 (fun k => LG0 ≤ k ∧ k < MG0) [.slice bG0 y0.length dG0] y0) := Kd.below NG0.out Bw3
  have HB3 : Hid (Below w.heap.size w w3) := HB2.out.trans (Bw3.mono HB2.out.size)
  clear W0_w2 NG0 HB2 hb Bw3
  obtain ⟨kg0, hkg0⟩ : ∃ k, k = sums kInt.cnt y0 := ⟨_, rfl⟩
  have kgb0 : kg0 ≤ 2 ^ 26 := by have := KC0.out; omega
  have HKG0 : Hid (kg0 = sums kInt.cnt y0) := hkg0
  clear hkg0
  go_wp2_with fail
  refine (markIntS_k y0 _ _ _ _ _ _ (by omega) (by have := HKG0.out; omega) G0_w3.out).mono ?_
  rw [← HKG0.out]
  rintro e w4 ⟨rfl, hb, hr⟩
  have NG0' : Hid ((kRow kInt).is true w4 (fun k => LG0 ≤ k ∧ k < MG0) [.slice bG0 y0.length dG0] (mks kInt y0 1)) := hr
  clear hr
  have Bw4 : KeptO (fun k => LG0 ≤ k ∧ k < MG0) w3 w4 := hb
  have zzw4 := Bw4.size
  have W0_w4 : Hid ((kRow kInt).is true w4 (fun k => LW0 ≤ k ∧ k < MW0) [.slice bW0 y0.length dW0] y0) := Kd.kept W0_w3.out Bw4 (fun k _ h1 h2 => by omega)
  have HB4 : Hid (Below w.heap.size w w4) := HB3.out.trans ((Bw4.below (B := w.heap.size) (HB3.out.size) (fun k hk h => by omega)))
  clear W0_w3 HB3 hb Bw4
  go_wp2_with fail
  refine (heldIntS_k y0 _ _ _ _ _ _ (by omega) (by have := HKG0.out; omega) (Kd.read _ NG0'.out)).mono ?_
  rw [← HKG0.out]
  rintro e w5 ⟨rfl, hb⟩
  have Bw5 : Below w4.heap.size w4 w5 := hb
  have zzw5 := Bw5.size
  have W0_w5 : Hid ((kRow kInt).is true w5 (fun k => LW0 ≤ k ∧ k < MW0) [.slice bW0 y0.length dW0] y0) := Kd.below W0_w4.out Bw5
  have G0_w5 : Hid ((kRow kInt).is true w5 (fun k => LG0 ≤ k ∧ k < MG0) [.slice bG0 y0.length dG0] (mks kInt y0 1)) := Kd.below NG0'.out Bw5
  have HB5 : Hid (Below w.heap.size w w5) := HB4.out.trans (Bw5.mono HB4.out.size)
  clear W0_w4 NG0' HB4 hb Bw5
  go_wp2_with fail
  refine (implRankOf_k x0 x1 x2 _ (by omega) h1 h2).mono ?_
  rintro e w6 ⟨bH0, nH0, dH0, TH0, rfl, rH0, sH0, kH0, hb⟩
  obtain rfl := row_len rH0
  rw [← HY0.out] at rH0 kH0 ⊢
  rw [← HY1.out]
  clear kH0
  obtain ⟨LH0, hLH0⟩ : ∃ L, L = w5.heap.size := ⟨_, rfl⟩
  obtain ⟨MH0, hMH0⟩ : ∃ M, M = w6.heap.size := ⟨_, rfl⟩
  have NH0 : Hid ((kRow kInt).is true w6 (fun k => LH0 ≤ k ∧ k < MH0) [.slice bH0 y0.length dH0] y0) := Kd.tight _ rH0 (fun k hk hk' => ⟨by have hz := sH0 k hk'; omega, by omega⟩)
  clear rH0 sH0
  have Bw6 : Below w5.heap.size w5 w6 := hb
  have zzw6 := Bw6.size
  have W0_w6 : Hid ((kRow kInt).is true w6 (fun k => LW0 ≤ k ∧ k < MW0) [.slice bW0 y0.length dW0] y0) := Kd.below W0_w5.out Bw6
  have G0_w6 : Hid ((kRow kInt).is true w6 (fun k => LG0 ≤ k ∧ k < MG0) [.slice bG0 y0.length dG0] (mks kInt y0 1)) := Kd.below G0_w5.out Bw6
  have HB6 : Hid (Below w.heap.size w w6) := HB5.out.trans (Bw6.mono HB5.out.size)
  clear W0_w5 G0_w5 HB5 hb Bw6
  have PTH0 : w.heap.size ≤ LH0 ∧ MH0 ≤ w6.heap.size ∧ MW0 ≤ LH0 ∧ MG0 ≤ LH0 := by omega
  clear hLH0 hMH0
  go_wp2_with fail
  refine (eqIntS_k y0 bH0 bW0 _ dH0 dW0 _ _ _ (Kd.read _ NH0.out) (Kd.read _ W0_w6.out)).mono ?_
  rintro e w7 ⟨rfl, hb⟩
  have Bw7 : Below w6.heap.size w6 w7 := hb
  have zzw7 := Bw7.size
  have W0_w7 : Hid ((kRow kInt).is true w7 (fun k => LW0 ≤ k ∧ k < MW0) [.slice bW0 y0.length dW0] y0) := Kd.below W0_w6.out Bw7
  have G0_w7 : Hid ((kRow kInt).is true w7 (fun k => LG0 ≤ k ∧ k < MG0) [.slice bG0 y0.length dG0] (mks kInt y0 1)) := Kd.below G0_w6.out Bw7
  have H0_w7 : Hid ((kRow kInt).is true w7 (fun k => LH0 ≤ k ∧ k < MH0) [.slice bH0 y0.length dH0] y0) := Kd.below NH0.out Bw7
  have HB7 : Hid (Below w.heap.size w w7) := HB6.out.trans (Bw7.mono HB6.out.size)
  clear W0_w6 G0_w6 NH0 HB6 hb Bw7
  go_wp2_with fail
  refine (heldIntS_k y0 _ _ _ _ _ _ (by omega) (by have := HKG0.out; omega) (Kd.read _ G0_w7.out)).mono ?_
  rw [← HKG0.out]
  rintro e w8 ⟨rfl, hb⟩
  have Bw8 : Below w7.heap.size w7 w8 := hb
  have zzw8 := Bw8.size
  have W0_w8 : Hid ((kRow kInt).is true w8 (fun k => LW0 ≤ k ∧ k < MW0) [.slice bW0 y0.length dW0] y0) := Kd.below W0_w7.out Bw8
  have G0_w8 : Hid ((kRow kInt).is true w8 (fun k => LG0 ≤ k ∧ k < MG0) [.slice bG0 y0.length dG0] (mks kInt y0 1)) := Kd.below G0_w7.out Bw8
  have H0_w8 : Hid ((kRow kInt).is true w8 (fun k => LH0 ≤ k ∧ k < MH0) [.slice bH0 y0.length dH0] y0) := Kd.below H0_w7.out Bw8
  have HB8 : Hid (Below w.heap.size w w8) := HB7.out.trans (Bw8.mono HB7.out.size)
  clear W0_w7 G0_w7 H0_w7 HB7 hb Bw8
  go_wp2
  go_ret
  exact ⟨rfl, HB8.out⟩

end Go.Proofs.Ytpcncdddikmdbaa
