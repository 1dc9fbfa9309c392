/- FnDoubled answers true at all bytes: ranks by so many bytes and so many behind tell ranks by twice as many. No condition. -/
import Derived.Test.YtkboblfjchkedaaSuE
import Derived.Test.YtkboblfjchkedaaSaI
import Derived.Test.YtkboblfjchkedaaSxRk
import Derived.Test.YtkboblfjchkedaaSxX
namespace Go.Proofs.Ytkboblfjchkedaa
open Go.RowKit Go.Sort
set_option linter.unusedVariables false

theorem dbl_fact {t : List UInt8} {K i j : Nat} (hK : 0 < K) (hi : i < t.length) (hj : j < t.length) :
    (((rkS t K i : Nat) : Int) < (rkS t K j : Nat) ∨ (((rkS t K i : Nat) : Int) = (rkS t K j : Nat) ∧ (prS t K (rkS t K) i).2 < (prS t K (rkS t K) j).2)) ↔ ((rkS t (2 * K) i : Nat) : Int) < (rkS t (2 * K) j : Nat) := by
  have h1 := double_less hK hi hj
  have h2 := (rkS_rank t (2 * K)).1 i j hi hj
  rw [ltP_iff] at h1
  have h3 : (prS t K (rkS t K) i).1 = ((rkS t K i : Nat) : Int) := rfl
  have h4 : (prS t K (rkS t K) j).1 = ((rkS t K j : Nat) : Int) := rfl
  rw [h3, h4] at h1
  constructor
  · intro h
    have := h2.2 (h1.1 h)
    omega
  · intro h
    exact h1.2 (h2.1 (by omega))
theorem rk_at {t : List UInt8} {K i : Nat} (h : i < t.length) : (nts (rkAll t K))[i]? = some ((rkS t K i : Nat) : Int) := nts_at (by simp [rkAll, h])
/-- What the law asks of two rows of ranks. -/
def Dbl (n K : Nat) (La Lb : List Int) : Prop := ∀ i j A A' B B' X Y, i < n → j < n → La[i]? = some A → La[j]? = some A' → Lb[i]? = some B → Lb[j]? = some B' → (if i + K < n then La[i + K]? = some X else X = -1) → (if j + K < n then La[j + K]? = some Y else Y = -1) → ((A < A' ∨ (A = A' ∧ X < Y)) ↔ B < B')
theorem dbl_ok (t : List UInt8) (K : Nat) (hK : 0 < K) : Dbl t.length K (nts (rkAll t K)) (nts (rkAll t (2 * K))) := by
  intro i j A A' B B' X Y hi hj hA hA' hB hB' hX hY
  rw [rk_at hi] at hA hB
  rw [rk_at hj] at hA' hB'
  obtain rfl : _ = A := by injection hA
  obtain rfl : _ = A' := by injection hA'
  obtain rfl : _ = B := by injection hB
  obtain rfl : _ = B' := by injection hB'
  have e : ∀ {i : Nat} {X : Int}, (if i + K < t.length then (nts (rkAll t K))[i + K]? = some X else X = -1) → X = (prS t K (rkS t K) i).2 := fun {i X} h => by
    show X = if i + K < t.length then ((rkS t K (i + K) : Nat) : Int) else -1
    by_cases c : i + K < t.length
    · rw [if_pos c] at h ⊢
      rw [rk_at c] at h
      injection h with h
      exact h.symm
    · rw [if_neg c] at h ⊢
      exact h
  rw [e hX, e hY]
  exact dbl_fact hK hi hj
set_option maxRecDepth 100000 in
set_option maxHeartbeats 8000000 in
theorem lawDoubled_k (x0 : List Int) (a0 : Option Addr) (n0 c0 : Nat) (w : World) (h0 : (kRow kU8).is false w (fun _ => True) [.slice a0 n0 c0] x0) :
    Calls Try.prog 5 #[.slice a0 n0 c0] w fun e w' => e = .returned (.bool true) ∧ Below w.heap.size w w' := by
  have m0 : n0 ≤ 9223372036854775807 := by obtain ⟨_, _, _, h, _⟩ := row_form h0; rw [row_len h0]; exact h
  have H0 : Hid ((kRow kU8).is false w (fun _ => True) [.slice a0 n0 c0] x0) := h0
  clear h0
  go_enter Try.func5, Try.ntmps5
  by_cases hbig : (1048576 : Int) < (n0 : Int)
  · go_wp2
    go_ret
    exact ⟨rfl, Below.refl _ _⟩
  go_wp2_with fail
  refine (drawRankOf_k w x0 a0 n0 c0 H0.out m0).mono ?_
  rintro e w1 ⟨s, k, d, rfl, hs, ⟨k0, k1⟩, ⟨d0, d1⟩, hb⟩
  have HB1 : Hid (Below w.heap.size w w1) := hb
  have HIK : Hid (IntOk k) := by show IntOk k; unfold IntOk; omega
  have HID : Hid (IntOk d) := by show IntOk d; unfold IntOk; omega
  have HFD : Hid ((fDistinctIn s).1 = (fDistinctIn s).1) := rfl
  obtain ⟨y0, hy0⟩ : ∃ y, y = (fRankOf s k d).1 := ⟨_, rfl⟩
  obtain ⟨ok, hok⟩ : ∃ y, y = (fRankOf s k d).2 := ⟨_, rfl⟩
  have HNO : Hid (ok = false → y0 = []) := fun h => by
    rw [hy0]
    rw [hok] at h
    unfold fRankOf at h ⊢
    split
    · rename_i c; rw [if_pos c] at h; cases h
    · rfl
  have HYES : Hid (ok = true → rkGood s k d = true) := fun h => by
    rw [hok] at h
    unfold fRankOf at h
    split at h
    · assumption
    · cases h
  have HY0 : Hid (y0 = (fRankOf s k d).1) := hy0
  have HOK : Hid (ok = (fRankOf s k d).2) := hok
  obtain ⟨v0, hv0⟩ : ∃ y, y = (fDistinctIn s).1 := ⟨_, rfl⟩
  obtain ⟨v1, hv1⟩ : ∃ y, y = (fDistinctIn s).2 := ⟨_, rfl⟩
  have HV0 : Hid (v0 = (fDistinctIn s).1) := hv0
  have HV1 : Hid (v1 = (fDistinctIn s).2) := hv1
  clear hb HFD hy0 hok hv0 hv1
  go_wp2_with fail
  refine (implRankOf_k s k d w1 (by omega) HIK.out HID.out).mono ?_
  rintro e w2 ⟨ra, rn, rc, T, rfl, hr, _, _, hb⟩
  rw [← HY0.out] at hr
  rw [← HOK.out]
  have HR2 : Hid ((kRow kInt).is false w2 T [.slice ra rn rc] y0) := (kRow kInt).read hr
  have HRN : Hid (rn = y0.length) := row_len hr
  have HB2 : Hid (Below w.heap.size w w2) := HB1.out.trans (hb.mono HB1.out.size)
  clear hb hr HB1
  go_wp2_with fail
  refine (specRankOf_k s k d w2 (by omega) HIK.out HID.out).mono ?_
  rintro e w3 ⟨wa, wn, wc, T3, rfl, hr, _, _, hb⟩
  rw [← HY0.out] at hr
  rw [← HOK.out]
  obtain rfl : wn = rn := by rw [HRN.out]; exact row_len hr
  have HW3 : Hid ((kRow kInt).is false w3 T3 [.slice wa wn wc] y0) := (kRow kInt).read hr
  have HR3 : Hid ((kRow kInt).is false w3 T [.slice ra wn rc] y0) := Kd.below HR2.out hb
  have HB3 : Hid (Below w.heap.size w w3) := HB2.out.trans (hb.mono HB2.out.size)
  clear hb hr HB2 HR2
  go_wp2_with fail
  refine (implDistinctIn_k s w3 (by omega)).mono ?_
  rintro e w4 ⟨rfl, _, hb⟩
  rw [← HV0.out, ← HV1.out]
  have HW4 : Hid ((kRow kInt).is false w4 T3 [.slice wa wn wc] y0) := Kd.below HW3.out hb
  have HR4 : Hid ((kRow kInt).is false w4 T [.slice ra wn rc] y0) := Kd.below HR3.out hb
  have HB4 : Hid (Below w.heap.size w w4) := HB3.out.trans (hb.mono HB3.out.size)
  clear hb HB3 HW3 HR3
  go_wp2_with fail
  refine (specDistinctIn_k s w4 (by omega)).mono ?_
  rintro e w5 ⟨rfl, _, hb⟩
  rw [← HV0.out, ← HV1.out]
  have HW5 : Hid ((kRow kInt).is false w5 T3 [.slice wa wn wc] y0) := Kd.below HW4.out hb
  have HR5 : Hid ((kRow kInt).is false w5 T [.slice ra wn rc] y0) := Kd.below HR4.out hb
  have HB5 : Hid (Below w.heap.size w w5) := HB4.out.trans (hb.mono HB4.out.size)
  clear hb HB4 HW4 HR4 HV0 HV1 HY0 HOK
  go_wp2_with fail
  refine (sameInts_k y0 ra wa wn rc wc _ _ w5 HR5.out HW5.out).mono ?_
  rintro e w6 ⟨rfl, hb⟩
  have HB6 : Hid (Below w.heap.size w w6) := HB5.out.trans (hb.mono HB5.out.size)
  clear hb HB5 HW5 HR5
  cases ok with
  | false =>
    have hy : wn = 0 := by rw [HRN.out, HNO.out rfl]; rfl
    subst hy
    go_wp2
    go_ret
    exact ⟨rfl, HB6.out⟩
  | true =>
    obtain ⟨hs120, K, rfl, hK1, hK2, _⟩ := rkGood_of (HYES.out rfl)
    have g0 : rkGood s (K : Int) 0 = true := by unfold rkGood; simp; omega
    have g1 : rkGood s (K : Int) 1 = true := by unfold rkGood; simp; omega
    have f0 : fRankOf s (K : Int) 0 = (nts (rkAll (tx s) K), true) := by unfold fRankOf; rw [if_pos g0]; rfl
    have f1 : fRankOf s (K : Int) 1 = (nts (rkAll (tx s) (2 * K)), true) := by unfold fRankOf; rw [if_pos g1]; rfl
    have HDB : Hid (Dbl (tx s).length K (nts (rkAll (tx s) K)) (nts (rkAll (tx s) (2 * K)))) := dbl_ok (tx s) K (by omega)
    have l0 : (nts (rkAll (tx s) K)).length = s.size := by rw [nts_len, rkAll_len, tx_len]
    have l1 : (nts (rkAll (tx s) (2 * K))).length = s.size := by rw [nts_len, rkAll_len, tx_len]
    rw [tx_len] at HDB
    generalize nts (rkAll (tx s) K) = La at *
    generalize nts (rkAll (tx s) (2 * K)) = Lb at *
    have hc0 := implRankOf_k s (K : Int) 0 w6 (by omega) HIK.out (by unfold IntOk; omega)
    have HC1 : Hid (∀ W, Calls Try.prog 20 #[.string s, .int .i64 (K : Int), .int .i64 1] W (RRankOf s (K : Int) 1 W)) := fun W => implRankOf_k s (K : Int) 1 W (by omega) HIK.out (by unfold IntOk; omega)
    have HF0 : Hid (fRankOf s (K : Int) 0 = (La, true)) := f0
    have HF1 : Hid (fRankOf s (K : Int) 1 = (Lb, true)) := f1
    have HL0 : Hid (La.length = s.size) := l0
    have HL1 : Hid (Lb.length = s.size) := l1
    clear g0 g1 f0 f1 l0 l1 HNO HYES HRN
    go_wp2_with fail
    refine hc0.mono ?_
    rintro e w7 ⟨aa, an, ac, Ta, rfl, hr, _, _, hb⟩
    rw [HF0.out] at hr ⊢
    have HA7 : Hid ((kRow kInt).is false w7 Ta [.slice aa an ac] La) := (kRow kInt).read hr
    have han : an = s.size := by have := row_len hr; rw [this]; exact HL0.out
    have HB7 : Hid (Below w.heap.size w w7) := HB6.out.trans (hb.mono HB6.out.size)
    have HAN : Hid (an = s.size) := han
    clear hb hr HB6 hc0 HF0 han
    go_wp2_with fail
    refine (HC1.out w7).mono ?_
    rintro e w8 ⟨ba, bn, bc, Tb, rfl, hr, _, _, hb⟩
    rw [HF1.out] at hr ⊢
    have HB8 : Hid ((kRow kInt).is false w8 Tb [.slice ba bn bc] Lb) := (kRow kInt).read hr
    have HA8 : Hid ((kRow kInt).is false w8 Ta [.slice aa an ac] La) := Kd.below HA7.out hb
    have hbn : bn = an := by have := row_len hr; rw [this, HAN.out]; exact HL1.out
    have HW8 : Hid (Below w.heap.size w w8) := HB7.out.trans (hb.mono HB7.out.size)
    subst hbn
    have hsz : (s.size : Int) = (bn : Int) := by rw [HAN.out]
    have hb120 : bn ≤ 120 := by rw [HAN.out]; exact hs120
    rw [← HAN.out] at HDB HL0 HL1
    clear hb hr HB7 HC1 HF1 HA7 hs120 hs
    go_wp2_with fail
    go_loopw [114] (fun iv wr => ∃ i : Nat, i ≤ bn ∧ iv = .int .i64 i ∧ Below w8.heap.size w8 wr) (fun iv _ => bn - (intOf iv).toNat)
    case atStart => exact ⟨0, Nat.zero_le _, rfl, Below.refl _ _⟩
    case round =>
      obtain ⟨i, hi, rfl, hnx⟩ := hrel
      by_cases hlt : i < bn
      · have e1 : (i : Int) < (bn : Int) := by omega
        have HNX : Hid (Below w8.heap.size w8 wr) := hnx
        obtain ⟨V, rfl⟩ : ∃ V, V = wr := ⟨_, rfl⟩
        clear hnx
        go_wp2_with fail
        go_loopw [119] (fun jv wq => ∃ j : Nat, j ≤ bn ∧ jv = .int .i64 j ∧ Below w8.heap.size w8 wq) (fun jv _ => bn - (intOf jv).toNat)
        case atStart => exact ⟨0, Nat.zero_le _, rfl, HNX.out⟩
        case round =>
          obtain ⟨j, hj, rfl, hnq⟩ := hrel
          by_cases hjl : j < bn
          · have e2 : (j : Int) < (bn : Int) := by omega
            obtain ⟨A, hA⟩ : ∃ A, La[i]? = some A := ⟨_, List.getElem?_eq_getElem (by rw [HL0.out]; exact hlt)⟩
            obtain ⟨A', hA'⟩ : ∃ A, La[j]? = some A := ⟨_, List.getElem?_eq_getElem (by rw [HL0.out]; exact hjl)⟩
            obtain ⟨B, hB⟩ : ∃ A, Lb[i]? = some A := ⟨_, List.getElem?_eq_getElem (by rw [HL1.out]; exact hlt)⟩
            obtain ⟨B', hB'⟩ : ∃ A, Lb[j]? = some A := ⟨_, List.getElem?_eq_getElem (by rw [HL1.out]; exact hjl)⟩
            have HAQ := Kd.below HA8.out hnq
            have HBQ := Kd.below HB8.out hnq
            obtain ⟨ga, oa, ea, -, -, CA⟩ := rowI_at HAQ hA
            subst ea
            obtain ⟨ga', oa', ea', -, -, CA'⟩ := rowI_at HAQ hA'
            obtain ⟨rfl, rfl⟩ : ga = ga' ∧ oa = oa' := by simpa using ea'
            obtain ⟨gb, ob, eb, -, -, CB⟩ := rowI_at HBQ hB
            subst eb
            obtain ⟨gb', ob', eb', -, -, CB'⟩ := rowI_at HBQ hB'
            obtain ⟨rfl, rfl⟩ : gb = gb' ∧ ob = ob' := by simpa using eb'
            have j0 : (0 : Int) ≤ (i : Int) := by omega
            have j1 : (0 : Int) ≤ (j : Int) := by omega
            have HFA : Hid (∀ X Y, (if i + K < bn then La[i + K]? = some X else X = -1) → (if j + K < bn then La[j + K]? = some Y else Y = -1) → ((A < A' ∨ (A = A' ∧ X < Y)) ↔ B < B')) := fun X Y h1 h2 => HDB.out i j A A' B B' X Y hlt hjl hA hA' hB hB' h1 h2
            have HNQ : Hid (Below w8.heap.size w8 wr) := hnq
            clear hnq ea' eb' hA hA' hB hB'
            have U1 := fun q => BelowOf.cell CA q
            have U2 := fun q => BelowOf.cell CA' q
            have hne := belowOf_ne wr
            by_cases cI : i + K < bn
            · have kI : (i : Int) + (K : Int) < (bn : Int) := by omega
              obtain ⟨X, hX⟩ : ∃ X, La[i + K]? = some X := ⟨_, List.getElem?_eq_getElem (by rw [HL0.out]; exact cI)⟩
              obtain ⟨gx, ox, ex, -, -, CX⟩ := rowI_at (Kd.below HA8.out HNQ.out) hX
              obtain ⟨rfl, rfl⟩ : ga = gx ∧ oa = ox := by simpa using ex
              clear ex
              have eI0 : (0 : Int) ≤ (i : Int) + (K : Int) := by omega
              by_cases cJ : j + K < bn
              · have kJ : (j : Int) + (K : Int) < (bn : Int) := by omega
                obtain ⟨Y, hY⟩ : ∃ X, La[j + K]? = some X := ⟨_, List.getElem?_eq_getElem (by rw [HL0.out]; exact cJ)⟩
                obtain ⟨gy, oy, ey, -, -, CY⟩ := rowI_at (Kd.below HA8.out HNQ.out) hY
                obtain ⟨rfl, rfl⟩ : ga = gy ∧ oa = oy := by simpa using ey
                clear ey
                have eJ0 : (0 : Int) ≤ (j : Int) + (K : Int) := by omega
                have HMM : Hid ((A < A' ∨ (A = A' ∧ X < Y)) ↔ B < B') := HFA.out X Y (by rw [if_pos cI]; exact hX) (by rw [if_pos cJ]; exact hY)
                clear HFA cI cJ hX hY
                by_cases cA : A < A'
                · have cB : B < B' := HMM.out.1 (.inl cA)
                  have dA : decide (A < A') = true := decide_eq_true cA
                  have dB : decide (B < B') = true := decide_eq_true cB
                  clear HMM
                  go_wp2_with fail
                  refine region_below (by kernel_rfl) (by kernel_rfl) ?_
                  repeat (go_big_quiet_step (first | fail))
                  refine wpQuiet_nil (belowOf_all ?_)
                  intro wz hbz
                  have hz1 := HNQ.out.trans (hbz.mono HNQ.out.size)
                  have CB1 := (hbz.cell (World.block_lt_of_cell? _ _ CB)).trans CB
                  have CB2 := (hbz.cell (World.block_lt_of_cell? _ _ CB')).trans CB'
                  have HZ1 : Hid (Below w8.heap.size w8 wz) := hz1
                  have U3 := fun q => BelowOf.cell CB1 q
                  have U4 := fun q => BelowOf.cell CB2 q
                  have hne2 := belowOf_ne wz
                  clear hbz hz1 U1 U2 hne
                  go_wp2_with fail
                  refine region_below (by kernel_rfl) (by kernel_rfl) ?_
                  repeat (go_big_quiet_step (first | fail))
                  refine wpQuiet_nil (belowOf_all ?_)
                  intro wy hby
                  have HZ2 : Hid (Below w8.heap.size w8 wy) := HZ1.out.trans (hby.mono HZ1.out.size)
                  clear hby
                  go_wp2
                  go_roundw
                  case rel => exact ⟨j + 1, by omega, by go_num, HZ2.out⟩
                  case measure => simp [intOf]; omega
                · have dA : decide (A < A') = false := decide_eq_false cA
                  by_cases cE : A = A'
                  · have dE : (A == A') = true := by simpa using cE
                    by_cases cX : X < Y
                    · have cB : B < B' := HMM.out.1 (.inr ⟨cE, cX⟩)
                      have dX : decide (X < Y) = true := decide_eq_true cX
                      have dB : decide (B < B') = true := decide_eq_true cB
                      clear HMM
                      go_wp2_with fail
                      refine region_below (by kernel_rfl) (by kernel_rfl) ?_
                      repeat (go_big_quiet_step (first | fail))
                      refine wpQuiet_nil (belowOf_all ?_)
                      intro wz hbz
                      have hz1 := HNQ.out.trans (hbz.mono HNQ.out.size)
                      have CB1 := (hbz.cell (World.block_lt_of_cell? _ _ CB)).trans CB
                      have CB2 := (hbz.cell (World.block_lt_of_cell? _ _ CB')).trans CB'
                      have HZ1 : Hid (Below w8.heap.size w8 wz) := hz1
                      have U3 := fun q => BelowOf.cell CB1 q
                      have U4 := fun q => BelowOf.cell CB2 q
                      have hne2 := belowOf_ne wz
                      clear hbz hz1 U1 U2 hne
                      go_wp2_with fail
                      refine region_below (by kernel_rfl) (by kernel_rfl) ?_
                      repeat (go_big_quiet_step (first | fail))
                      refine wpQuiet_nil (belowOf_all ?_)
                      intro wy hby
                      have HZ2 : Hid (Below w8.heap.size w8 wy) := HZ1.out.trans (hby.mono HZ1.out.size)
                      clear hby
                      go_wp2
                      go_roundw
                      case rel => exact ⟨j + 1, by omega, by go_num, HZ2.out⟩
                      case measure => simp [intOf]; omega
                    · have cB : ¬ B < B' := fun h => by rcases HMM.out.2 h with h | h <;> first | exact cA h | exact cX h.2
                      have dX : decide (X < Y) = false := decide_eq_false cX
                      have dB : decide (B < B') = false := decide_eq_false cB
                      clear HMM
                      go_wp2_with fail
                      refine region_below (by kernel_rfl) (by kernel_rfl) ?_
                      repeat (go_big_quiet_step (first | fail))
                      refine wpQuiet_nil (belowOf_all ?_)
                      intro wz hbz
                      have hz1 := HNQ.out.trans (hbz.mono HNQ.out.size)
                      have CB1 := (hbz.cell (World.block_lt_of_cell? _ _ CB)).trans CB
                      have CB2 := (hbz.cell (World.block_lt_of_cell? _ _ CB')).trans CB'
                      have HZ1 : Hid (Below w8.heap.size w8 wz) := hz1
                      have U3 := fun q => BelowOf.cell CB1 q
                      have U4 := fun q => BelowOf.cell CB2 q
                      have hne2 := belowOf_ne wz
                      clear hbz hz1 U1 U2 hne
                      go_wp2_with fail
                      refine region_below (by kernel_rfl) (by kernel_rfl) ?_
                      repeat (go_big_quiet_step (first | fail))
                      refine wpQuiet_nil (belowOf_all ?_)
                      intro wy hby
                      have HZ2 : Hid (Below w8.heap.size w8 wy) := HZ1.out.trans (hby.mono HZ1.out.size)
                      clear hby
                      go_wp2
                      go_roundw
                      case rel => exact ⟨j + 1, by omega, by go_num, HZ2.out⟩
                      case measure => simp [intOf]; omega
                  · have dE : (A == A') = false := by simpa using cE
                    have cB : ¬ B < B' := fun h => by rcases HMM.out.2 h with h | h <;> first | exact cA h | exact cE h.1
                    have dB : decide (B < B') = false := decide_eq_false cB
                    clear HMM
                    go_wp2_with fail
                    refine region_below (by kernel_rfl) (by kernel_rfl) ?_
                    repeat (go_big_quiet_step (first | fail))
                    refine wpQuiet_nil (belowOf_all ?_)
                    intro wz hbz
                    have hz1 := HNQ.out.trans (hbz.mono HNQ.out.size)
                    have CB1 := (hbz.cell (World.block_lt_of_cell? _ _ CB)).trans CB
                    have CB2 := (hbz.cell (World.block_lt_of_cell? _ _ CB')).trans CB'
                    have HZ1 : Hid (Below w8.heap.size w8 wz) := hz1
                    have U3 := fun q => BelowOf.cell CB1 q
                    have U4 := fun q => BelowOf.cell CB2 q
                    have hne2 := belowOf_ne wz
                    clear hbz hz1 U1 U2 hne
                    go_wp2_with fail
                    refine region_below (by kernel_rfl) (by kernel_rfl) ?_
                    repeat (go_big_quiet_step (first | fail))
                    refine wpQuiet_nil (belowOf_all ?_)
                    intro wy hby
                    have HZ2 : Hid (Below w8.heap.size w8 wy) := HZ1.out.trans (hby.mono HZ1.out.size)
                    clear hby
                    go_wp2
                    go_roundw
                    case rel => exact ⟨j + 1, by omega, by go_num, HZ2.out⟩
                    case measure => simp [intOf]; omega
              · have kJ : ¬ (j : Int) + (K : Int) < (bn : Int) := by omega
                have HMM : Hid ((A < A' ∨ (A = A' ∧ X < (-1 : Int))) ↔ B < B') := HFA.out X (-1 : Int) (by rw [if_pos cI]; exact hX) (by rw [if_neg cJ])
                clear HFA cI cJ hX
                by_cases cA : A < A'
                · have cB : B < B' := HMM.out.1 (.inl cA)
                  have dA : decide (A < A') = true := decide_eq_true cA
                  have dB : decide (B < B') = true := decide_eq_true cB
                  clear HMM
                  go_wp2_with fail
                  refine region_below (by kernel_rfl) (by kernel_rfl) ?_
                  repeat (go_big_quiet_step (first | fail))
                  refine wpQuiet_nil (belowOf_all ?_)
                  intro wz hbz
                  have hz1 := HNQ.out.trans (hbz.mono HNQ.out.size)
                  have CB1 := (hbz.cell (World.block_lt_of_cell? _ _ CB)).trans CB
                  have CB2 := (hbz.cell (World.block_lt_of_cell? _ _ CB')).trans CB'
                  have HZ1 : Hid (Below w8.heap.size w8 wz) := hz1
                  have U3 := fun q => BelowOf.cell CB1 q
                  have U4 := fun q => BelowOf.cell CB2 q
                  have hne2 := belowOf_ne wz
                  clear hbz hz1 U1 U2 hne
                  go_wp2_with fail
                  refine region_below (by kernel_rfl) (by kernel_rfl) ?_
                  repeat (go_big_quiet_step (first | fail))
                  refine wpQuiet_nil (belowOf_all ?_)
                  intro wy hby
                  have HZ2 : Hid (Below w8.heap.size w8 wy) := HZ1.out.trans (hby.mono HZ1.out.size)
                  clear hby
                  go_wp2
                  go_roundw
                  case rel => exact ⟨j + 1, by omega, by go_num, HZ2.out⟩
                  case measure => simp [intOf]; omega
                · have dA : decide (A < A') = false := decide_eq_false cA
                  by_cases cE : A = A'
                  · have dE : (A == A') = true := by simpa using cE
                    by_cases cX : X < (-1 : Int)
                    · have cB : B < B' := HMM.out.1 (.inr ⟨cE, cX⟩)
                      have dX : decide (X < (-1 : Int)) = true := decide_eq_true cX
                      have dB : decide (B < B') = true := decide_eq_true cB
                      clear HMM
                      go_wp2_with fail
                      refine region_below (by kernel_rfl) (by kernel_rfl) ?_
                      repeat (go_big_quiet_step (first | fail))
                      refine wpQuiet_nil (belowOf_all ?_)
                      intro wz hbz
                      have hz1 := HNQ.out.trans (hbz.mono HNQ.out.size)
                      have CB1 := (hbz.cell (World.block_lt_of_cell? _ _ CB)).trans CB
                      have CB2 := (hbz.cell (World.block_lt_of_cell? _ _ CB')).trans CB'
                      have HZ1 : Hid (Below w8.heap.size w8 wz) := hz1
                      have U3 := fun q => BelowOf.cell CB1 q
                      have U4 := fun q => BelowOf.cell CB2 q
                      have hne2 := belowOf_ne wz
                      clear hbz hz1 U1 U2 hne
                      go_wp2_with fail
                      refine region_below (by kernel_rfl) (by kernel_rfl) ?_
                      repeat (go_big_quiet_step (first | fail))
                      refine wpQuiet_nil (belowOf_all ?_)
                      intro wy hby
                      have HZ2 : Hid (Below w8.heap.size w8 wy) := HZ1.out.trans (hby.mono HZ1.out.size)
                      clear hby
                      go_wp2
                      go_roundw
                      case rel => exact ⟨j + 1, by omega, by go_num, HZ2.out⟩
                      case measure => simp [intOf]; omega
                    · have cB : ¬ B < B' := fun h => by rcases HMM.out.2 h with h | h <;> first | exact cA h | exact cX h.2
                      have dX : decide (X < (-1 : Int)) = false := decide_eq_false cX
                      have dB : decide (B < B') = false := decide_eq_false cB
                      clear HMM
                      go_wp2_with fail
                      refine region_below (by kernel_rfl) (by kernel_rfl) ?_
                      repeat (go_big_quiet_step (first | fail))
                      refine wpQuiet_nil (belowOf_all ?_)
                      intro wz hbz
                      have hz1 := HNQ.out.trans (hbz.mono HNQ.out.size)
                      have CB1 := (hbz.cell (World.block_lt_of_cell? _ _ CB)).trans CB
                      have CB2 := (hbz.cell (World.block_lt_of_cell? _ _ CB')).trans CB'
                      have HZ1 : Hid (Below w8.heap.size w8 wz) := hz1
                      have U3 := fun q => BelowOf.cell CB1 q
                      have U4 := fun q => BelowOf.cell CB2 q
                      have hne2 := belowOf_ne wz
                      clear hbz hz1 U1 U2 hne
                      go_wp2_with fail
                      refine region_below (by kernel_rfl) (by kernel_rfl) ?_
                      repeat (go_big_quiet_step (first | fail))
                      refine wpQuiet_nil (belowOf_all ?_)
                      intro wy hby
                      have HZ2 : Hid (Below w8.heap.size w8 wy) := HZ1.out.trans (hby.mono HZ1.out.size)
                      clear hby
                      go_wp2
                      go_roundw
                      case rel => exact ⟨j + 1, by omega, by go_num, HZ2.out⟩
                      case measure => simp [intOf]; omega
                  · have dE : (A == A') = false := by simpa using cE
                    have cB : ¬ B < B' := fun h => by rcases HMM.out.2 h with h | h <;> first | exact cA h | exact cE h.1
                    have dB : decide (B < B') = false := decide_eq_false cB
                    clear HMM
                    go_wp2_with fail
                    refine region_below (by kernel_rfl) (by kernel_rfl) ?_
                    repeat (go_big_quiet_step (first | fail))
                    refine wpQuiet_nil (belowOf_all ?_)
                    intro wz hbz
                    have hz1 := HNQ.out.trans (hbz.mono HNQ.out.size)
                    have CB1 := (hbz.cell (World.block_lt_of_cell? _ _ CB)).trans CB
                    have CB2 := (hbz.cell (World.block_lt_of_cell? _ _ CB')).trans CB'
                    have HZ1 : Hid (Below w8.heap.size w8 wz) := hz1
                    have U3 := fun q => BelowOf.cell CB1 q
                    have U4 := fun q => BelowOf.cell CB2 q
                    have hne2 := belowOf_ne wz
                    clear hbz hz1 U1 U2 hne
                    go_wp2_with fail
                    refine region_below (by kernel_rfl) (by kernel_rfl) ?_
                    repeat (go_big_quiet_step (first | fail))
                    refine wpQuiet_nil (belowOf_all ?_)
                    intro wy hby
                    have HZ2 : Hid (Below w8.heap.size w8 wy) := HZ1.out.trans (hby.mono HZ1.out.size)
                    clear hby
                    go_wp2
                    go_roundw
                    case rel => exact ⟨j + 1, by omega, by go_num, HZ2.out⟩
                    case measure => simp [intOf]; omega
            · have kI : ¬ (i : Int) + (K : Int) < (bn : Int) := by omega
              by_cases cJ : j + K < bn
              · have kJ : (j : Int) + (K : Int) < (bn : Int) := by omega
                obtain ⟨Y, hY⟩ : ∃ X, La[j + K]? = some X := ⟨_, List.getElem?_eq_getElem (by rw [HL0.out]; exact cJ)⟩
                obtain ⟨gy, oy, ey, -, -, CY⟩ := rowI_at (Kd.below HA8.out HNQ.out) hY
                obtain ⟨rfl, rfl⟩ : ga = gy ∧ oa = oy := by simpa using ey
                clear ey
                have eJ0 : (0 : Int) ≤ (j : Int) + (K : Int) := by omega
                have HMM : Hid ((A < A' ∨ (A = A' ∧ (-1 : Int) < Y)) ↔ B < B') := HFA.out (-1 : Int) Y (by rw [if_neg cI]) (by rw [if_pos cJ]; exact hY)
                clear HFA cI cJ hY
                by_cases cA : A < A'
                · have cB : B < B' := HMM.out.1 (.inl cA)
                  have dA : decide (A < A') = true := decide_eq_true cA
                  have dB : decide (B < B') = true := decide_eq_true cB
                  clear HMM
                  go_wp2_with fail
                  refine region_below (by kernel_rfl) (by kernel_rfl) ?_
                  repeat (go_big_quiet_step (first | fail))
                  refine wpQuiet_nil (belowOf_all ?_)
                  intro wz hbz
                  have hz1 := HNQ.out.trans (hbz.mono HNQ.out.size)
                  have CB1 := (hbz.cell (World.block_lt_of_cell? _ _ CB)).trans CB
                  have CB2 := (hbz.cell (World.block_lt_of_cell? _ _ CB')).trans CB'
                  have HZ1 : Hid (Below w8.heap.size w8 wz) := hz1
                  have U3 := fun q => BelowOf.cell CB1 q
                  have U4 := fun q => BelowOf.cell CB2 q
                  have hne2 := belowOf_ne wz
                  clear hbz hz1 U1 U2 hne
                  go_wp2_with fail
                  refine region_below (by kernel_rfl) (by kernel_rfl) ?_
                  repeat (go_big_quiet_step (first | fail))
                  refine wpQuiet_nil (belowOf_all ?_)
                  intro wy hby
                  have HZ2 : Hid (Below w8.heap.size w8 wy) := HZ1.out.trans (hby.mono HZ1.out.size)
                  clear hby
                  go_wp2
                  go_roundw
                  case rel => exact ⟨j + 1, by omega, by go_num, HZ2.out⟩
                  case measure => simp [intOf]; omega
                · have dA : decide (A < A') = false := decide_eq_false cA
                  by_cases cE : A = A'
                  · have dE : (A == A') = true := by simpa using cE
                    by_cases cX : (-1 : Int) < Y
                    · have cB : B < B' := HMM.out.1 (.inr ⟨cE, cX⟩)
                      have dX : decide ((-1 : Int) < Y) = true := decide_eq_true cX
                      have dB : decide (B < B') = true := decide_eq_true cB
                      clear HMM
                      go_wp2_with fail
                      refine region_below (by kernel_rfl) (by kernel_rfl) ?_
                      repeat (go_big_quiet_step (first | fail))
                      refine wpQuiet_nil (belowOf_all ?_)
                      intro wz hbz
                      have hz1 := HNQ.out.trans (hbz.mono HNQ.out.size)
                      have CB1 := (hbz.cell (World.block_lt_of_cell? _ _ CB)).trans CB
                      have CB2 := (hbz.cell (World.block_lt_of_cell? _ _ CB')).trans CB'
                      have HZ1 : Hid (Below w8.heap.size w8 wz) := hz1
                      have U3 := fun q => BelowOf.cell CB1 q
                      have U4 := fun q => BelowOf.cell CB2 q
                      have hne2 := belowOf_ne wz
                      clear hbz hz1 U1 U2 hne
                      go_wp2_with fail
                      refine region_below (by kernel_rfl) (by kernel_rfl) ?_
                      repeat (go_big_quiet_step (first | fail))
                      refine wpQuiet_nil (belowOf_all ?_)
                      intro wy hby
                      have HZ2 : Hid (Below w8.heap.size w8 wy) := HZ1.out.trans (hby.mono HZ1.out.size)
                      clear hby
                      go_wp2
                      go_roundw
                      case rel => exact ⟨j + 1, by omega, by go_num, HZ2.out⟩
                      case measure => simp [intOf]; omega
                    · have cB : ¬ B < B' := fun h => by rcases HMM.out.2 h with h | h <;> first | exact cA h | exact cX h.2
                      have dX : decide ((-1 : Int) < Y) = false := decide_eq_false cX
                      have dB : decide (B < B') = false := decide_eq_false cB
                      clear HMM
                      go_wp2_with fail
                      refine region_below (by kernel_rfl) (by kernel_rfl) ?_
                      repeat (go_big_quiet_step (first | fail))
                      refine wpQuiet_nil (belowOf_all ?_)
                      intro wz hbz
                      have hz1 := HNQ.out.trans (hbz.mono HNQ.out.size)
                      have CB1 := (hbz.cell (World.block_lt_of_cell? _ _ CB)).trans CB
                      have CB2 := (hbz.cell (World.block_lt_of_cell? _ _ CB')).trans CB'
                      have HZ1 : Hid (Below w8.heap.size w8 wz) := hz1
                      have U3 := fun q => BelowOf.cell CB1 q
                      have U4 := fun q => BelowOf.cell CB2 q
                      have hne2 := belowOf_ne wz
                      clear hbz hz1 U1 U2 hne
                      go_wp2_with fail
                      refine region_below (by kernel_rfl) (by kernel_rfl) ?_
                      repeat (go_big_quiet_step (first | fail))
                      refine wpQuiet_nil (belowOf_all ?_)
                      intro wy hby
                      have HZ2 : Hid (Below w8.heap.size w8 wy) := HZ1.out.trans (hby.mono HZ1.out.size)
                      clear hby
                      go_wp2
                      go_roundw
                      case rel => exact ⟨j + 1, by omega, by go_num, HZ2.out⟩
                      case measure => simp [intOf]; omega
                  · have dE : (A == A') = false := by simpa using cE
                    have cB : ¬ B < B' := fun h => by rcases HMM.out.2 h with h | h <;> first | exact cA h | exact cE h.1
                    have dB : decide (B < B') = false := decide_eq_false cB
                    clear HMM
                    go_wp2_with fail
                    refine region_below (by kernel_rfl) (by kernel_rfl) ?_
                    repeat (go_big_quiet_step (first | fail))
                    refine wpQuiet_nil (belowOf_all ?_)
                    intro wz hbz
                    have hz1 := HNQ.out.trans (hbz.mono HNQ.out.size)
                    have CB1 := (hbz.cell (World.block_lt_of_cell? _ _ CB)).trans CB
                    have CB2 := (hbz.cell (World.block_lt_of_cell? _ _ CB')).trans CB'
                    have HZ1 : Hid (Below w8.heap.size w8 wz) := hz1
                    have U3 := fun q => BelowOf.cell CB1 q
                    have U4 := fun q => BelowOf.cell CB2 q
                    have hne2 := belowOf_ne wz
                    clear hbz hz1 U1 U2 hne
                    go_wp2_with fail
                    refine region_below (by kernel_rfl) (by kernel_rfl) ?_
                    repeat (go_big_quiet_step (first | fail))
                    refine wpQuiet_nil (belowOf_all ?_)
                    intro wy hby
                    have HZ2 : Hid (Below w8.heap.size w8 wy) := HZ1.out.trans (hby.mono HZ1.out.size)
                    clear hby
                    go_wp2
                    go_roundw
                    case rel => exact ⟨j + 1, by omega, by go_num, HZ2.out⟩
                    case measure => simp [intOf]; omega
              · have kJ : ¬ (j : Int) + (K : Int) < (bn : Int) := by omega
                have HMM : Hid ((A < A' ∨ (A = A' ∧ (-1 : Int) < (-1 : Int))) ↔ B < B') := HFA.out (-1 : Int) (-1 : Int) (by rw [if_neg cI]) (by rw [if_neg cJ])
                clear HFA cI cJ
                by_cases cA : A < A'
                · have cB : B < B' := HMM.out.1 (.inl cA)
                  have dA : decide (A < A') = true := decide_eq_true cA
                  have dB : decide (B < B') = true := decide_eq_true cB
                  clear HMM
                  go_wp2_with fail
                  refine region_below (by kernel_rfl) (by kernel_rfl) ?_
                  repeat (go_big_quiet_step (first | fail))
                  refine wpQuiet_nil (belowOf_all ?_)
                  intro wz hbz
                  have hz1 := HNQ.out.trans (hbz.mono HNQ.out.size)
                  have CB1 := (hbz.cell (World.block_lt_of_cell? _ _ CB)).trans CB
                  have CB2 := (hbz.cell (World.block_lt_of_cell? _ _ CB')).trans CB'
                  have HZ1 : Hid (Below w8.heap.size w8 wz) := hz1
                  have U3 := fun q => BelowOf.cell CB1 q
                  have U4 := fun q => BelowOf.cell CB2 q
                  have hne2 := belowOf_ne wz
                  clear hbz hz1 U1 U2 hne
                  go_wp2_with fail
                  refine region_below (by kernel_rfl) (by kernel_rfl) ?_
                  repeat (go_big_quiet_step (first | fail))
                  refine wpQuiet_nil (belowOf_all ?_)
                  intro wy hby
                  have HZ2 : Hid (Below w8.heap.size w8 wy) := HZ1.out.trans (hby.mono HZ1.out.size)
                  clear hby
                  go_wp2
                  go_roundw
                  case rel => exact ⟨j + 1, by omega, by go_num, HZ2.out⟩
                  case measure => simp [intOf]; omega
                · have dA : decide (A < A') = false := decide_eq_false cA
                  by_cases cE : A = A'
                  · have dE : (A == A') = true := by simpa using cE
                    by_cases cX : (-1 : Int) < (-1 : Int)
                    · have cB : B < B' := HMM.out.1 (.inr ⟨cE, cX⟩)
                      have dX : decide ((-1 : Int) < (-1 : Int)) = true := decide_eq_true cX
                      have dB : decide (B < B') = true := decide_eq_true cB
                      clear HMM
                      go_wp2_with fail
                      refine region_below (by kernel_rfl) (by kernel_rfl) ?_
                      repeat (go_big_quiet_step (first | fail))
                      refine wpQuiet_nil (belowOf_all ?_)
                      intro wz hbz
                      have hz1 := HNQ.out.trans (hbz.mono HNQ.out.size)
                      have CB1 := (hbz.cell (World.block_lt_of_cell? _ _ CB)).trans CB
                      have CB2 := (hbz.cell (World.block_lt_of_cell? _ _ CB')).trans CB'
                      have HZ1 : Hid (Below w8.heap.size w8 wz) := hz1
                      have U3 := fun q => BelowOf.cell CB1 q
                      have U4 := fun q => BelowOf.cell CB2 q
                      have hne2 := belowOf_ne wz
                      clear hbz hz1 U1 U2 hne
                      go_wp2_with fail
                      refine region_below (by kernel_rfl) (by kernel_rfl) ?_
                      repeat (go_big_quiet_step (first | fail))
                      refine wpQuiet_nil (belowOf_all ?_)
                      intro wy hby
                      have HZ2 : Hid (Below w8.heap.size w8 wy) := HZ1.out.trans (hby.mono HZ1.out.size)
                      clear hby
                      go_wp2
                      go_roundw
                      case rel => exact ⟨j + 1, by omega, by go_num, HZ2.out⟩
                      case measure => simp [intOf]; omega
                    · have cB : ¬ B < B' := fun h => by rcases HMM.out.2 h with h | h <;> first | exact cA h | exact cX h.2
                      have dX : decide ((-1 : Int) < (-1 : Int)) = false := decide_eq_false cX
                      have dB : decide (B < B') = false := decide_eq_false cB
                      clear HMM
                      go_wp2_with fail
                      refine region_below (by kernel_rfl) (by kernel_rfl) ?_
                      repeat (go_big_quiet_step (first | fail))
                      refine wpQuiet_nil (belowOf_all ?_)
                      intro wz hbz
                      have hz1 := HNQ.out.trans (hbz.mono HNQ.out.size)
                      have CB1 := (hbz.cell (World.block_lt_of_cell? _ _ CB)).trans CB
                      have CB2 := (hbz.cell (World.block_lt_of_cell? _ _ CB')).trans CB'
                      have HZ1 : Hid (Below w8.heap.size w8 wz) := hz1
                      have U3 := fun q => BelowOf.cell CB1 q
                      have U4 := fun q => BelowOf.cell CB2 q
                      have hne2 := belowOf_ne wz
                      clear hbz hz1 U1 U2 hne
                      go_wp2_with fail
                      refine region_below (by kernel_rfl) (by kernel_rfl) ?_
                      repeat (go_big_quiet_step (first | fail))
                      refine wpQuiet_nil (belowOf_all ?_)
                      intro wy hby
                      have HZ2 : Hid (Below w8.heap.size w8 wy) := HZ1.out.trans (hby.mono HZ1.out.size)
                      clear hby
                      go_wp2
                      go_roundw
                      case rel => exact ⟨j + 1, by omega, by go_num, HZ2.out⟩
                      case measure => simp [intOf]; omega
                  · have dE : (A == A') = false := by simpa using cE
                    have cB : ¬ B < B' := fun h => by rcases HMM.out.2 h with h | h <;> first | exact cA h | exact cE h.1
                    have dB : decide (B < B') = false := decide_eq_false cB
                    clear HMM
                    go_wp2_with fail
                    refine region_below (by kernel_rfl) (by kernel_rfl) ?_
                    repeat (go_big_quiet_step (first | fail))
                    refine wpQuiet_nil (belowOf_all ?_)
                    intro wz hbz
                    have hz1 := HNQ.out.trans (hbz.mono HNQ.out.size)
                    have CB1 := (hbz.cell (World.block_lt_of_cell? _ _ CB)).trans CB
                    have CB2 := (hbz.cell (World.block_lt_of_cell? _ _ CB')).trans CB'
                    have HZ1 : Hid (Below w8.heap.size w8 wz) := hz1
                    have U3 := fun q => BelowOf.cell CB1 q
                    have U4 := fun q => BelowOf.cell CB2 q
                    have hne2 := belowOf_ne wz
                    clear hbz hz1 U1 U2 hne
                    go_wp2_with fail
                    refine region_below (by kernel_rfl) (by kernel_rfl) ?_
                    repeat (go_big_quiet_step (first | fail))
                    refine wpQuiet_nil (belowOf_all ?_)
                    intro wy hby
                    have HZ2 : Hid (Below w8.heap.size w8 wy) := HZ1.out.trans (hby.mono HZ1.out.size)
                    clear hby
                    go_wp2
                    go_roundw
                    case rel => exact ⟨j + 1, by omega, by go_num, HZ2.out⟩
                    case measure => simp [intOf]; omega
          · have e2 : ¬ (j : Int) < (bn : Int) := by omega
            go_wp2
            go_roundw
            case rel => exact ⟨i + 1, by omega, by go_num, hnq⟩
            case measure => simp [intOf]; omega
      · have e1 : ¬ (i : Int) < (bn : Int) := by omega
        have HFI : Hid (Below w.heap.size w wr) := HW8.out.trans (hnx.mono HW8.out.size)
        go_wp2
        go_ret
        exact ⟨rfl, HFI.out⟩
end Go.Proofs.Ytkboblfjchkedaa
