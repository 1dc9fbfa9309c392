/- FnFound answers true at all bytes: all places of a text are found by halving, in at most twice as many looks as there are halvings. No condition. -/
import Derived.Test.YtkboblfjchkedaaSuG
import Derived.Test.YtkboblfjchkedaaSaI
import Derived.Test.YtkboblfjchkedaaSxFc
namespace Go.Proofs.Ytkboblfjchkedaa
open Go.RowKit Go.Sort
set_option linter.unusedVariables false

/-- What stands among the first i, and the others. -/
theorem fil_part (P : Nat → Bool) (i : Nat) : ∀ d, ∃ R, (List.range (i + d)).filter P = (List.range i).filter P ++ R ∧ ∀ y ∈ R, i ≤ y
  | 0 => ⟨[], by simp, fun y hy => by cases hy⟩
  | d + 1 => by
    obtain ⟨R, h1, h2⟩ := fil_part P i d
    refine ⟨R ++ [i + d].filter P, ?_, fun y hy => ?_⟩
    · rw [show i + (d + 1) = (i + d) + 1 by omega, List.range_succ, List.filter_append, h1, List.append_assoc]
    · rcases List.mem_append.1 hy with h | h
      · exact h2 y h
      · have := (List.mem_filter.1 h).1
        simp at this
        omega
theorem fil_yes {P : Nat → Bool} {i M : Nat} (hi : i < M) (h : P i = true) : ((List.range M).filter P)[((List.range i).filter P).length]? = some i ∧ ((List.range (i + 1)).filter P).length = ((List.range i).filter P).length + 1 := by
  have e : (List.range (i + 1)).filter P = (List.range i).filter P ++ [i] := by rw [List.range_succ, List.filter_append]; simp [h]
  obtain ⟨R, h1, _⟩ := fil_part P (i + 1) (M - (i + 1))
  rw [show i + 1 + (M - (i + 1)) = M by omega, e, List.append_assoc] at h1
  refine ⟨?_, by rw [e]; simp⟩
  rw [h1, List.getElem?_append_right (Nat.le_refl _)]
  simp
theorem fil_no {P : Nat → Bool} {i M : Nat} (hi : i < M) (h : P i = false) : (∀ y, ((List.range M).filter P)[((List.range i).filter P).length]? = some y → y ≠ i) ∧ ((List.range (i + 1)).filter P).length = ((List.range i).filter P).length := by
  have e : (List.range (i + 1)).filter P = (List.range i).filter P := by rw [List.range_succ, List.filter_append]; simp [h]
  obtain ⟨R, h1, h2⟩ := fil_part P (i + 1) (M - (i + 1))
  rw [show i + 1 + (M - (i + 1)) = M by omega, e] at h1
  refine ⟨fun y hy => ?_, by rw [e]⟩
  rw [h1, List.getElem?_append_right (Nat.le_refl _)] at hy
  have := h2 y (List.mem_of_getElem? hy)
  omega
/-- Whether a text stands at a place. -/
def isP (s p : ByteArray) (i : Nat) : Bool := stL (tx s) p.size i == tx p
/-- How many places lie ahead of one. -/
def cntP (s p : ByteArray) (i : Nat) : Nat := ((List.range i).filter (isP s p)).length
theorem places_is (s p : ByteArray) : placesL s p = (List.range (s.size + 1 - p.size)).filter (isP s p) := rfl
theorem cntP_le (s p : ByteArray) (i : Nat) : cntP s p i ≤ i := by
  have := List.length_filter_le (isP s p) (List.range i)
  rw [List.length_range] at this
  exact this
theorem find_looks (s p : ByteArray) : (find1 s p (sufL (tx s))).2 + (find2 s p (sufL (tx s))).2 ≤ 2 * halv s.size := by
  have h1 := hal_looks (isA1 s p (sufL (tx s))) _ 0 (sufL (tx s)).length (Nat.le_refl _)
  have h2 := hal_looks (isA2 s p (sufL (tx s))) _ (find1 s p (sufL (tx s))).1 (sufL (tx s)).length (Nat.le_refl _)
  have h3 := halv_mono _ ((sufL (tx s)).length - (find1 s p (sufL (tx s))).1) (sufL (tx s)).length (Nat.le_refl _) (by omega)
  rw [sufL_len, tx_len] at h1 h2 h3
  have e1 : hal (isA1 s p (sufL (tx s))) 0 s.size = find1 s p (sufL (tx s)) := by unfold find1; rw [sufL_len, tx_len]
  have e2 : hal (isA2 s p (sufL (tx s))) (find1 s p (sufL (tx s))).1 s.size = find2 s p (sufL (tx s)) := by unfold find2; rw [sufL_len, tx_len]
  rw [e1] at h1
  rw [e2] at h2
  simp only [Nat.sub_zero] at h1
  omega
/-- What the law asks of what was found. -/
def FouOk (s p : ByteArray) (Y : List Int) (L : Int) : Prop := s.size ≤ 120 ∧ 1 ≤ p.size ∧ Y = nts (placesL s p) ∧ 0 ≤ L ∧ L ≤ 2 * (halv s.size : Nat)
theorem fou_ok {s p : ByteArray} {l : List Int} (h : (fFindIn s l p).2.2 = true) : FouOk s p (fFindIn s l p).1 (fFindIn s l p).2.1 := by
  unfold fFindIn at h ⊢
  split
  · rename_i g
    unfold fiGood at g
    simp only [Bool.and_eq_true, decide_eq_true_eq] at g
    obtain ⟨g1, g2, g3⟩ := g
    refine ⟨(isSx_of g1).1, g2, ?_, by simp only; omega, ?_⟩
    · simp only
      rw [srtI_nts, found_places s p g2]
    · have := find_looks s p
      simp only
      omega
  · rename_i g
    rw [if_neg g] at h
    cases h
theorem fou_no {s p : ByteArray} {l : List Int} (h : (fFindIn s l p).2.2 = false) : (fFindIn s l p).1 = [] := by
  unfold fFindIn at h ⊢
  split
  · rename_i g
    rw [if_pos g] at h
    cases h
  · rfl
theorem sz_ints (l : List Int) : (kRow kInt).sz l = l.length := by
  show l.length + sums kInt.sz l = _
  have : sums kInt.sz l = 0 := by
    induction l with
    | nil => rfl
    | cons x t ih => simp only [sums]; rw [ih]; rfl
  omega
theorem isP_text (s p : ByteArray) (i : Nat) (h : i + p.size ≤ s.size) : ((s.extract i (i + p.size)).toList == p.toList) = isP s p i := by
  rw [tx_is, tx_is, tx_ext]
  unfold isP stL
  rw [show i + p.size - i = p.size by omega]
set_option maxRecDepth 100000 in
set_option maxHeartbeats 8000000 in
theorem lawFound_k (x0 : List Int) (a0 : Option Addr) (n0 c0 : Nat) (w : World) (h0 : (kRow kU8).is false w (fun _ => True) [.slice a0 n0 c0] x0) :
    Calls Try.prog 4 #[.slice a0 n0 c0] w fun e w' => e = .returned (.bool true) ∧ Below w.heap.size w w' := by
  have m0 : n0 ≤ 9223372036854775807 := by obtain ⟨_, _, _, h, _⟩ := row_form h0; rw [row_len h0]; exact h
  have H0 : Hid ((kRow kU8).is false w (fun _ => True) [.slice a0 n0 c0] x0) := h0
  clear h0
  go_enter Try.func4, Try.ntmps4
  by_cases hbig : (1048576 : Int) < (n0 : Int)
  · go_wp2
    go_ret
    exact ⟨rfl, Below.refl _ _⟩
  go_wp2_with fail
  refine (drawFindIn_k w x0 a0 n0 c0 H0.out m0).mono ?_
  rintro e w1 ⟨s, la, ln, lc, T, l, p, rfl, hs, hr, hT, hl, hp, hb⟩
  have HB1 : Hid (Below w.heap.size w w1) := hb
  have HR1 : Hid ((kRow kInt).is true w1 T [.slice la ln lc] l) := hr
  have HSZ : Hid ((kRow kInt).sz l ≤ 2 ^ 20) := by show _ ≤ _; rw [sz_ints]; omega
  obtain ⟨Y, hY⟩ : ∃ y, y = (fFindIn s l p).1 := ⟨_, rfl⟩
  obtain ⟨L, hL⟩ : ∃ y, y = (fFindIn s l p).2.1 := ⟨_, rfl⟩
  obtain ⟨ok, hok⟩ : ∃ y, y = (fFindIn s l p).2.2 := ⟨_, rfl⟩
  have HNO : Hid (ok = false → Y = []) := fun h => by rw [hY]; exact fou_no (by rw [← hok]; exact h)
  have HYES : Hid (ok = true → FouOk s p Y L) := fun h => by rw [hY, hL]; exact fou_ok (by rw [← hok]; exact h)
  have HY : Hid (Y = (fFindIn s l p).1) := hY
  have HL : Hid (L = (fFindIn s l p).2.1) := hL
  have HOK : Hid (ok = (fFindIn s l p).2.2) := hok
  clear hb hr hT hY hL hok
  go_wp2_with fail
  refine (implFindIn_k s l la ln lc T p w1 (by omega) HR1.out HSZ.out (by omega)).mono ?_
  rintro e w2 ⟨ra, rn, rc, T2, rfl, hr, _, _, _, hb⟩
  rw [← HY.out] at hr
  rw [← HOK.out, ← HL.out]
  have HA2 : Hid ((kRow kInt).is false w2 T2 [.slice ra rn rc] Y) := (kRow kInt).read hr
  have HRN : Hid (rn = Y.length) := row_len hr
  have HR2 : Hid ((kRow kInt).is true w2 T [.slice la ln lc] l) := Kd.below HR1.out hb
  have HB2 : Hid (Below w.heap.size w w2) := HB1.out.trans (hb.mono HB1.out.size)
  clear hb hr HB1 HR1
  go_wp2_with fail
  refine (specFindIn_k s l la ln lc T p w2 (by omega) HR2.out HSZ.out (by omega)).mono ?_
  rintro e w3 ⟨wa, wn, wc, T3, rfl, hr, _, _, _, hb⟩
  rw [← HY.out] at hr
  rw [← HOK.out, ← HL.out]
  obtain rfl : wn = rn := by rw [HRN.out]; exact row_len hr
  have HW3 : Hid ((kRow kInt).is false w3 T3 [.slice wa wn wc] Y) := (kRow kInt).read hr
  have HA3 : Hid ((kRow kInt).is false w3 T2 [.slice ra wn rc] Y) := Kd.below HA2.out hb
  have HB3 : Hid (Below w.heap.size w w3) := HB2.out.trans (hb.mono HB2.out.size)
  clear hb hr HB2 HR2 HA2 HY HL HOK
  go_wp2_with fail
  refine (sameInts_k Y ra wa wn rc wc _ _ w3 HA3.out HW3.out).mono ?_
  rintro e w4 ⟨rfl, hb⟩
  have HA4 : Hid ((kRow kInt).is false w4 T2 [.slice ra wn rc] Y) := Kd.below HA3.out hb
  have HB4 : Hid (Below w.heap.size w w4) := HB3.out.trans (hb.mono HB3.out.size)
  clear hb HB3 HA3 HW3
  cases ok with
  | false =>
    have hy : wn = 0 := by rw [HRN.out, HNO.out rfl]; rfl
    subst hy
    go_wp2
    go_ret
    exact ⟨rfl, HB4.out⟩
  | true =>
    obtain ⟨hs120, hp1, hYe, hL0, hL1⟩ := HYES.out rfl
    have HYE : Hid (Y = nts (placesL s p)) := hYe
    have hwn : wn = cntP s p (s.size + 1 - p.size) := by rw [HRN.out, hYe, nts_len]; rfl
    have HWN : Hid (wn = cntP s p (s.size + 1 - p.size)) := hwn
    have HLL : Hid (L ≤ 2 * (halv s.size : Nat)) := hL1
    have hwn2 : wn ≤ 121 := by have := cntP_le s p (s.size + 1 - p.size); omega
    have hL2 : L ≤ 2 * (s.size : Nat) := by have := halv_le s.size; omega
    clear hYe hwn HNO HYES HRN hL1
    go_wp2_with fail
    go_loopw [12, 13] (fun kv iv wr => ∃ k i : Nat, kv = .int .i64 k ∧ iv = .int .i64 i ∧ i ≤ s.size + 1 - p.size ∧ k ≤ i ∧ Hid (k = cntP s p i) ∧ Below w4.heap.size w4 wr) (fun _ iv _ => s.size + 1 - (intOf iv).toNat)
    case atStart => exact ⟨0, 0, rfl, rfl, Nat.zero_le _, Nat.le_refl _, rfl, Below.refl _ _⟩
    case round =>
      obtain ⟨k, i, rfl, rfl, hi, hki, HK, hnx⟩ := hrel
      by_cases hlt : i + p.size ≤ s.size
      · have e1 : (i : Int) + (p.size : Int) ≤ (s.size : Int) := by omega
        have e2 : (0 : Int) ≤ (i : Int) := by omega
        have e3 : (i : Int) ≤ (i : Int) + (p.size : Int) := by omega
        have hT := isP_text s p i hlt
        have hiM : i < s.size + 1 - p.size := by omega
        have HNX : Hid (Below w4.heap.size w4 wr) := hnx
        cases hq : isP s p i with
        | true =>
          obtain ⟨g1, g2⟩ := fil_yes hiM hq
          rw [hq] at hT
          have gk : Y[k]? = some (i : Int) := by rw [HYE.out, places_is, HK.out]; exact nts_at g1
          obtain ⟨b, o, rfl, _, _, CA⟩ := rowI_at (Kd.below HA4.out hnx) gk
          have hkn : k < wn := by
            have h1 := (List.getElem?_eq_some_iff.1 g1).1
            rw [HWN.out, HK.out]
            exact h1
          have k1 : (k : Int) < (wn : Int) := by omega
          have k2 : decide ((k : Int) < (wn : Int)) = true := decide_eq_true k1
          have k3 : decide (k < wn) = true := decide_eq_true hkn
          have k0 : (0 : Int) ≤ (k : Int) := by omega
          have HK2 : Hid (k + 1 = cntP s p (i + 1)) := by show _ = _; unfold cntP; rw [g2, HK.out]; rfl
          clear g1 g2 gk hq hnx
          go_wp2
          go_roundw
          case rel => exact ⟨k + 1, i + 1, by go_num, by go_num, by omega, by omega, HK2, HNX.out⟩
          case measure => simp only [intOf]; omega
        | false =>
          obtain ⟨g1, g2⟩ := fil_no hiM hq
          rw [hq] at hT
          have HK2 : Hid (k = cntP s p (i + 1)) := by show _ = _; unfold cntP; rw [g2, HK.out]; rfl
          clear g2 hq
          by_cases hkn : k < wn
          · obtain ⟨y, hy⟩ : ∃ y, (placesL s p)[k]? = some y := ⟨_, List.getElem?_eq_getElem (by have := HWN.out; show k < cntP s p (s.size + 1 - p.size); omega)⟩
            have hyi : y ≠ i := g1 y (by have h := hy; rw [places_is, HK.out] at h; exact h)
            have gk : Y[k]? = some (y : Int) := by rw [HYE.out]; exact nts_at hy
            obtain ⟨b, o, rfl, _, _, CA⟩ := rowI_at (Kd.below HA4.out hnx) gk
            have k1 : (k : Int) < (wn : Int) := by omega
            have k2 : decide ((k : Int) < (wn : Int)) = true := decide_eq_true k1
            have k3 : decide (k < wn) = true := decide_eq_true hkn
            have k0 : (0 : Int) ≤ (k : Int) := by omega
            have k4 : ¬ (y : Int) = (i : Int) := by omega
            have k5 : ((y : Int) == (i : Int)) = false := by simpa using k4
            clear g1 gk hy hnx
            go_wp2
            go_roundw
            case rel => exact ⟨k, i + 1, rfl, by go_num, by omega, by omega, HK2, HNX.out⟩
            case measure => simp only [intOf]; omega
          · have k1 : ¬ (k : Int) < (wn : Int) := by omega
            have k2 : decide ((k : Int) < (wn : Int)) = false := decide_eq_false k1
            have k3 : decide (k < wn) = false := decide_eq_false hkn
            clear g1 hnx
            go_wp2
            go_roundw
            case rel => exact ⟨k, i + 1, rfl, by go_num, by omega, by omega, HK2, HNX.out⟩
            case measure => simp only [intOf]; omega
      · have e1 : ¬ (i : Int) + (p.size : Int) ≤ (s.size : Int) := by omega
        obtain rfl : i = s.size + 1 - p.size := by omega
        have hkw : k = wn := by rw [HK.out, HWN.out]
        have HBX : Hid (Below w.heap.size w wr) := HB4.out.trans (hnx.mono HB4.out.size)
        obtain ⟨V, rfl⟩ : ∃ V, V = wr := ⟨_, rfl⟩
        clear hnx HK HWN
        subst hkw
        go_wp2_with fail
        go_loopw [15, 16] (fun hv nv wq => ∃ h n : Nat, hv = .int .i64 h ∧ nv = .int .i64 n ∧ h ≤ s.size ∧ n ≤ s.size ∧ Hid (halv s.size = h + halv n) ∧ wq = V) (fun _ nv _ => (intOf nv).toNat)
        case atStart => exact ⟨0, s.size, rfl, rfl, Nat.zero_le _, Nat.le_refl _, by show _ = _; omega, rfl⟩
        case round =>
          obtain ⟨h, n, rfl, rfl, hh, hn, HH, rfl⟩ := hrel
          have hhs : h ≤ 120 := by omega
          by_cases hn0 : 0 < n
          · have q1 : (0 : Int) < (n : Int) := by omega
            have HQ2 : Hid ((n : Int) / 2 = ((n / 2 : Nat) : Int)) := by show _ = _; omega
            have q3 : (0 : Int) ≤ (n : Int) := by omega
            have HH2 : Hid (halv s.size = (h + 1) + halv (n / 2)) := by show _ = _; rw [HH.out, halv_pos hn0]; omega
            have hh2 : h + 1 ≤ s.size := by have := HH2.out; have := halv_le s.size; omega
            clear HH
            go_wp2
            go_roundw
            case rel => exact ⟨h + 1, n / 2, by go_num, by first | rfl | (rw [HQ2.out]) | (congr 1), hh2, by omega, HH2, by first | rfl | trivial⟩
            case measure => simp only [intOf]; omega
          · have q1 : ¬ (0 : Int) < (n : Int) := by omega
            obtain rfl : n = 0 := by omega
            have hfin : L ≤ 2 * (h : Int) := by have h1 := HH.out; rw [halv_zero] at h1; have := HLL.out; omega
            clear HH
            go_wp2
            go_ret
            exact ⟨by simp, HBX.out⟩
end Go.Proofs.Ytkboblfjchkedaa
