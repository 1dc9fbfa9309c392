/- FnSuffixes: the law walked: endings rise, each once, and what stands twice longest is what two that are neighbours have in common. No condition. -/
import Derived.Test.YtkboblfjchkedaaSuE
import Derived.Test.YtkboblfjchkedaaSaI
import Derived.Test.YtkboblfjchkedaaSxSm
import Derived.Test.YtkboblfjchkedaaSxW
namespace Go.Proofs.Ytkboblfjchkedaa
open Go.RowKit Go.Sort
set_option linter.unusedVariables false

theorem sx_yes {s : ByteArray} (h : (fSuffixesOf s).2 = true) : s.size ≤ 120 ∧ (fSuffixesOf s).1 = nts (sufL (tx s)) := by
  unfold fSuffixesOf at h ⊢
  by_cases c : s.size ≤ 120
  · rw [if_pos c]; exact ⟨c, rfl⟩
  · rw [if_neg c] at h; cases h
theorem sx_no {s : ByteArray} (h : (fSuffixesOf s).2 = false) : (fSuffixesOf s).1 = [] := by
  unfold fSuffixesOf at h ⊢
  by_cases c : s.size ≤ 120
  · rw [if_pos c] at h; cases h
  · rw [if_neg c]
theorem lt_yes {s : ByteArray} (h : s.size ≤ 120) : (fLongestTwice s).1.size = maxC (tx s) (sufL (tx s)) s.size ∧ (fLongestTwice s).2 = decide (0 < maxC (tx s) (sufL (tx s)) s.size) := by
  unfold fLongestTwice
  rw [if_pos h]
  have e := lon_max (tx s) s.size (by rw [tx_len]; exact Nat.le_refl _)
  simp only
  rw [strL_size, e]
  refine ⟨rfl, ?_⟩
  rw [← e]
  cases lonL (tx s) (sufL (tx s)) s.size <;> simp
theorem comL_at {t : List UInt8} {l : List Nat} {i : Nat} (h : i < l.length) : (comL t l)[i]? = some (comAt t l i) := by
  unfold comL
  rw [List.getElem?_map, List.getElem?_range h]
  rfl
theorem szI (l : List Int) : (kRow kInt).sz l = l.length := by
  show l.length + sums kInt.sz l = _
  have : sums kInt.sz l = 0 := by
    induction l with
    | nil => rfl
    | cons x t ih => simp only [sums]; rw [ih]; rfl
  omega
/-- An ending, as bytes. -/
theorem end_is (s : ByteArray) (i : Nat) : s.extract i s.size = strL ((tx s).drop i) := by
  apply ByteArray.ext
  apply Array.toList_inj.1
  have h : tx (s.extract i s.size) = (tx s).drop i := tx_end s i
  simpa [tx, strL] using h
theorem strL_to (l : List UInt8) : (strL l).toList = l := by rw [ByteArray.toList_eq]; simp [strL]
theorem strL_cut (l : List UInt8) (n : Nat) : ((strL l).extract 0 n).toList = l.take n := by rw [ByteArray.toList_eq]; simp [strL]
set_option maxRecDepth 100000 in
set_option maxHeartbeats 8000000 in
theorem lawSuffixes_k (x0 : List Int) (a0 : Option Addr) (n0 c0 : Nat) (w : World) (h0 : (kRow kU8).is false w (fun _ => True) [.slice a0 n0 c0] x0) :
    Calls Try.prog 3 #[.slice a0 n0 c0] w fun e w' => e = .returned (.bool true) ∧ Below w.heap.size w w' := by
  have m0 : n0 ≤ 9223372036854775807 := by obtain ⟨_, _, _, h, _⟩ := row_form h0; rw [row_len h0]; exact h
  have H0 : Hid ((kRow kU8).is false w (fun _ => True) [.slice a0 n0 c0] x0) := h0
  clear h0
  go_enter Try.func3, Try.ntmps3
  by_cases hbig : (1048576 : Int) < (n0 : Int)
  · go_wp2
    go_ret
    exact ⟨rfl, Below.refl _ _⟩
  go_wp2_with fail
  refine (drawSuffixesOf_k w x0 a0 n0 c0 H0.out m0).mono ?_
  rintro e w1 ⟨s, rfl, hs, ha, hb⟩
  have HB1 : Hid (Below w.heap.size w w1) := hb
  clear hb ha
  obtain ⟨Y, hY⟩ : ∃ y, y = (fSuffixesOf s).1 := ⟨_, rfl⟩
  obtain ⟨ok, hok⟩ : ∃ y, y = (fSuffixesOf s).2 := ⟨_, rfl⟩
  obtain ⟨X, hX⟩ : ∃ y, y = (fLongestTwice s).1 := ⟨_, rfl⟩
  obtain ⟨one, hone⟩ : ∃ y, y = (fLongestTwice s).2 := ⟨_, rfl⟩
  have HNO : Hid (ok = false → Y = []) := fun h => by rw [hY]; exact sx_no (by rw [← hok]; exact h)
  have HYES : Hid (ok = true → s.size ≤ 120 ∧ Y = nts (sufL (tx s))) := fun h => by rw [hY]; exact sx_yes (by rw [← hok]; exact h)
  have HLT : Hid (s.size ≤ 120 → X.size = maxC (tx s) (sufL (tx s)) s.size ∧ one = decide (0 < maxC (tx s) (sufL (tx s)) s.size)) := fun h => by rw [hX, hone]; exact lt_yes h
  have HY : Hid (Y = (fSuffixesOf s).1) := hY
  have HOK : Hid (ok = (fSuffixesOf s).2) := hok
  have HX : Hid (X = (fLongestTwice s).1) := hX
  have HONE : Hid (one = (fLongestTwice s).2) := hone
  clear hY hok hX hone
  go_wp2_with fail
  refine (implSuffixesOf_k s w1 (by omega)).mono ?_
  rintro e w2 ⟨ra, rn, rc, T2, rfl, hr, _, _, hb⟩
  rw [← HY.out] at hr
  rw [← HOK.out]
  have HA2 : Hid ((kRow kInt).is false w2 T2 [.slice ra rn rc] Y) := (kRow kInt).read hr
  have HRN : Hid (rn = Y.length) := row_len hr
  have HB2 : Hid (Below w.heap.size w w2) := HB1.out.trans (hb.mono HB1.out.size)
  clear hb hr HB1
  go_wp2_with fail
  refine (specSuffixesOf_k s w2 (by omega)).mono ?_
  rintro e w3 ⟨wa, wn, wc, T3, rfl, hr, _, _, hb⟩
  rw [← HY.out] at hr
  rw [← HOK.out]
  obtain rfl : wn = rn := by rw [HRN.out]; exact row_len hr
  have HW3 : Hid ((kRow kInt).is false w3 T3 [.slice wa wn wc] Y) := (kRow kInt).read hr
  have HA3 : Hid ((kRow kInt).is false w3 T2 [.slice ra wn rc] Y) := Kd.below HA2.out hb
  have HB3 : Hid (Below w.heap.size w w3) := HB2.out.trans (hb.mono HB2.out.size)
  clear hb hr HB2 HA2 HY HOK
  go_wp2_with fail
  refine (implLongestTwice_k s w3 (by omega)).mono ?_
  rintro e w4 ⟨rfl, hx24, hb⟩
  rw [← HX.out] at hx24
  rw [← HX.out, ← HONE.out]
  have HW4 : Hid ((kRow kInt).is false w4 T3 [.slice wa wn wc] Y) := Kd.below HW3.out hb
  have HA4 : Hid ((kRow kInt).is false w4 T2 [.slice ra wn rc] Y) := Kd.below HA3.out hb
  have HB4 : Hid (Below w.heap.size w w4) := HB3.out.trans (hb.mono HB3.out.size)
  clear hb HB3 HA3 HW3
  go_wp2_with fail
  refine (specLongestTwice_k s w4 (by omega)).mono ?_
  rintro e w5 ⟨rfl, _, hb⟩
  rw [← HX.out, ← HONE.out]
  have HW5 : Hid ((kRow kInt).is false w5 T3 [.slice wa wn wc] Y) := Kd.below HW4.out hb
  have HA5 : Hid ((kRow kInt).is false w5 T2 [.slice ra wn rc] Y) := Kd.below HA4.out hb
  have HB5 : Hid (Below w.heap.size w w5) := HB4.out.trans (hb.mono HB4.out.size)
  clear hb HB4 HA4 HW4 HX HONE
  go_wp2_with fail
  refine (sameInts_k Y ra wa wn rc wc _ _ w5 HA5.out HW5.out).mono ?_
  rintro e w6 ⟨rfl, hb⟩
  have HA6 : Hid ((kRow kInt).is false w6 T2 [.slice ra wn rc] Y) := Kd.below HA5.out hb
  have HB6 : Hid (Below w.heap.size w w6) := HB5.out.trans (hb.mono HB5.out.size)
  clear hb HB5 HA5 HW5
  cases ok with
  | false =>
    have hy : wn = 0 := by rw [HRN.out, HNO.out rfl]; rfl
    subst hy
    go_wp2
    go_ret
    exact ⟨rfl, HB6.out⟩
  | true =>
    obtain ⟨hs120, hye⟩ := HYES.out rfl
    obtain ⟨hxm, hone⟩ := HLT.out hs120
    have hle : (sufL (tx s)).length = s.size := by rw [sufL_len, tx_len]
    have hsx : isSx s (nts (sufL (tx s))) = true := by unfold isSx; simp [hs120]
    have hf1 : fIsSuffixes s Y = (true, true) := by unfold fIsSuffixes; rw [hye, hsx]; simp [hs120]
    have hf2 : fCommonOf s Y = (nts (comL (tx s) (sufL (tx s))), true) := by unfold fCommonOf; rw [hye, hsx]; rfl
    have hwn : wn = s.size := by rw [HRN.out, hye, nts_len, hle]
    have HF1 : Hid (fIsSuffixes s Y = (true, true)) := hf1
    have HF2 : Hid (fCommonOf s Y = (nts (comL (tx s) (sufL (tx s))), true)) := hf2
    have HYE : Hid (Y = nts (sufL (tx s))) := hye
    have HXM : Hid (X.size = maxC (tx s) (sufL (tx s)) s.size) := hxm
    have HON : Hid (one = decide (0 < maxC (tx s) (sufL (tx s)) s.size)) := hone
    have HLE : Hid ((sufL (tx s)).length = s.size) := hle
    have HSZ : Hid ((kRow kInt).sz Y ≤ 2 ^ 20) := by show _ ≤ _; rw [szI, hye, nts_len, hle]; omega
    have HWN : Hid (wn = s.size) := hwn
    clear hye hxm hone hle hsx hf1 hf2 hwn HNO HYES HLT HRN
    have hc7 := implIsSuffixes_k s Y ra wn rc T2 w6 (by omega) HA6.out HSZ.out
    go_wp2_with fail
    refine hc7.mono ?_
    rintro e w7 ⟨rfl, hb⟩
    rw [HF1.out]
    have HA7 : Hid ((kRow kInt).is false w7 T2 [.slice ra wn rc] Y) := Kd.below HA6.out hb
    have HB7 : Hid (Below w.heap.size w w7) := HB6.out.trans (hb.mono HB6.out.size)
    clear hb HB6 HA6 hc7 HF1
    have hc8 := implCommonOf_k s Y ra wn rc T2 w7 (by omega) HA7.out HSZ.out
    go_wp2_with fail
    refine hc8.mono ?_
    rintro e w8 ⟨ca, cn, cc, T8, rfl, hr, _, _, hb⟩
    rw [HF2.out] at hr ⊢
    have hcn : cn = wn := by have := row_len hr; rw [nts_len, comL_len, HLE.out] at this; rw [this, HWN.out]
    subst hcn
    have HC8 : Hid ((kRow kInt).is false w8 T8 [.slice ca cn cc] (nts (comL (tx s) (sufL (tx s))))) := (kRow kInt).read hr
    have HA8 : Hid ((kRow kInt).is false w8 T2 [.slice ra cn rc] (nts (sufL (tx s)))) := by show (kRow kInt).is _ _ _ _ _; rw [← HYE.out]; exact Kd.below HA7.out hb
    have HB8 : Hid (Below w.heap.size w w8) := HB7.out.trans (hb.mono HB7.out.size)
    clear hb hr HB7 HA7 hc8 HF2 HSZ HYE
    have hcs : (cn : Int) = (s.size : Int) := by rw [HWN.out]
    go_wp2_with fail
    go_loopw [16, 108] (fun mv iv wr => ∃ i m : Nat, iv = .int .i64 i ∧ mv = .int .i64 m ∧ i ≤ cn ∧ m ≤ 120 ∧ Hid (m = maxC (tx s) (sufL (tx s)) i) ∧ Below w8.heap.size w8 wr) (fun _ iv _ => cn - (intOf iv).toNat)
    case atStart => exact ⟨0, 0, rfl, rfl, Nat.zero_le _, by omega, rfl, Below.refl _ _⟩
    case round =>
      obtain ⟨i, m, rfl, rfl, hi, hm, HM, hnx⟩ := hrel
      by_cases hlt : i < cn
      · have e1 : (i : Int) < (cn : Int) := by omega
        have e0 : (0 : Int) ≤ (i : Int) := by omega
        have hil : i < (sufL (tx s)).length := by rw [HLE.out, ← HWN.out]; exact hlt
        obtain ⟨y, hy⟩ : ∃ y, (sufL (tx s))[i]? = some y := ⟨_, List.getElem?_eq_getElem hil⟩
        have hcy := comL_at (t := tx s) hil
        obtain ⟨n, hn⟩ : ∃ n, n = comAt (tx s) (sufL (tx s)) i := ⟨_, rfl⟩
        rw [← hn] at hcy
        obtain ⟨b, o, rfl, _, _, CA⟩ := rowI_at (Kd.below HA8.out hnx) (nts_at hy)
        obtain ⟨b', o', rfl, _, _, CC⟩ := rowI_at (Kd.below HC8.out hnx) (nts_at hcy)
        have HM2 : Hid ((if n > m then n else m) = maxC (tx s) (sufL (tx s)) (i + 1)) := by show _ = _; rw [hn, HM.out]; rfl
        have hn120 : n ≤ 120 := by rw [hn]; have := comAt_le (tx s) (sufL (tx s)) i; rw [tx_len] at this; omega
        have HNX : Hid (Below w8.heap.size w8 wr) := hnx
        have hyl : y < s.size := by have := sufL_mem.1 (List.mem_of_getElem? hy); rwa [tx_len] at this
        by_cases h0 : i = 0
        · subst h0
          have hn0 : n = 0 := by rw [hn]; rfl
          have hm0 : m = 0 := by rw [HM.out]; rfl
          subst hn0
          subst hm0
          have HM3 : Hid (0 = maxC (tx s) (sufL (tx s)) (0 + 1)) := HM2.out
          have CC0 : wr.cell? ⟨b', o', none⟩ = some (.int .i64 0) := by simpa using CC
          clear hn HM HM2 hy hcy hnx CA CC
          go_wp2
          go_roundw
          case rel => exact ⟨1, 0, rfl, rfl, by omega, by omega, HM3, HNX.out⟩
          case measure => simp only [intOf]; omega
        · obtain ⟨x, hx⟩ : ∃ x, (sufL (tx s))[i - 1]? = some x := ⟨_, List.getElem?_eq_getElem (by omega)⟩
          obtain ⟨b2, o2, e2, _, _, CB⟩ := rowI_at (Kd.below HA8.out hnx) (nts_at hx)
          obtain ⟨rfl, rfl⟩ : b = b2 ∧ o = o2 := by simpa using e2
          have hxl : x < s.size := by have := sufL_mem.1 (List.mem_of_getElem? hx); rwa [tx_len] at this
          have hxg : (sufL (tx s)).getD (i - 1) 0 = x := getD_of hx
          have hyg : (sufL (tx s)).getD i 0 = y := getD_of hy
          obtain ⟨A, hA⟩ : ∃ A, A = (tx s).drop x := ⟨_, rfl⟩
          obtain ⟨B, hB⟩ : ∃ B, B = (tx s).drop y := ⟨_, rfl⟩
          have hncom : n = com A B := by rw [hn, hA, hB]; unfold comAt; rw [if_neg h0, hxg, hyg]
          have hless : bl A B = true := by rw [hA, hB, ← hxg, ← hyg]; exact suf_less (by omega) (by rw [tx_len, ← HLE.out]; exact hil)
          have hAe : s.extract x s.size = strL A := by rw [hA]; exact end_is s x
          have hBe : s.extract y s.size = strL B := by rw [hB]; exact end_is s y
          have hAl : A.length = s.size - x := by rw [hA, List.length_drop, tx_len]
          have hBl : B.length = s.size - y := by rw [hB, List.length_drop, tx_len]
          have hn1 : n ≤ A.length := by rw [hncom]; exact com_le1 A B
          have hn2 : n ≤ B.length := by rw [hncom]; exact com_le2 A B
          have htake : A.take n = B.take n := by rw [hncom]; exact com_take A B
          have HST : Hid (∀ u v, A[n]? = some u → B[n]? = some v → u ≠ v) := fun u v h1 h2 => by rw [hncom] at h1 h2; exact com_stop h1 h2
          obtain ⟨P, hP⟩ : ∃ P, P = strL A := ⟨_, rfl⟩
          obtain ⟨Q, hQ⟩ : ∃ Q, Q = strL B := ⟨_, rfl⟩
          have f1 : Op.bytesLess P.toList Q.toList = true := by rw [hP, hQ, strL_to, strL_to]; exact hless
          have f5 : Op.bytesLess Q.toList P.toList = false := by rw [hP, hQ, strL_to, strL_to]; exact bl_asymm hless
          have f6 : (P.toList == Q.toList) = false := by
            rw [hP, hQ, strL_to, strL_to]
            cases h : A == B with
            | false => rfl
            | true => have e : A = B := by simpa using h
                      rw [e, bl_irr] at hless; cases hless
          have f7 : (Q.toList == P.toList) = false := by
            rw [hP, hQ, strL_to, strL_to]
            cases h : B == A with
            | false => rfl
            | true => have e : B = A := by simpa using h
                      rw [e, bl_irr] at hless; cases hless
          have tP : tx P = A := by rw [hP]; simp [tx, strL]
          have tQ : tx Q = B := by rw [hQ]; simp [tx, strL]
          have HNE : Hid (∀ (h1 : n < P.size) (h2 : n < Q.size), (((P[n]'h1).toNat : Int) == ((Q[n]'h2).toNat : Int)) = false) := fun h1 h2 => by
            have a1 := tx_at P n h1
            have a2 := tx_at Q n h2
            rw [tP] at a1
            rw [tQ] at a2
            have := HST.out _ _ a1 a2
            have h3 : (P[n]'h1).toNat ≠ (Q[n]'h2).toNat := fun e => this (UInt8.toNat_inj.1 e)
            simp
            omega
          have f2 : P.size = A.length := by rw [hP, strL_size]
          have f3 : Q.size = B.length := by rw [hQ, strL_size]
          have f4 : ((P.extract 0 n).toList == (Q.extract 0 n).toList) = true := by rw [hP, hQ, strL_cut, strL_cut, htake]; simp
          rw [← hP] at hAe
          rw [← hQ] at hBe
          have j0 : (0 : Int) < (i : Int) := by omega
          have j1 : (0 : Int) ≤ (i : Int) - 1 := by omega
          have j2 : (i : Int) - 1 < (cn : Int) := by omega
          have j3 : (i : Int) - 1 = ((i - 1 : Nat) : Int) := by omega
          have j4 : (x : Int) ≤ (s.size : Int) := by omega
          have j5 : (y : Int) ≤ (s.size : Int) := by omega
          clear hn HM hy hcy hnx hx e2 hxg hyg hncom hless htake hA hB hP hQ hAl hBl tP tQ HST
          go_upto_region 24 with fail
          have hne := belowOf_ne wr
          have k1 : ¬ (A.length : Int) < (n : Int) := by omega
          have k2 : ¬ (B.length : Int) < (n : Int) := by omega
          have k3 : decide ((A.length : Int) < (n : Int)) = false := decide_eq_false k1
          have k4 : decide ((B.length : Int) < (n : Int)) = false := decide_eq_false k2
          have k5 : (n : Int) ≤ (A.length : Int) := by omega
          have k6 : (n : Int) ≤ (B.length : Int) := by omega
          have k7 : decide (A.length < n) = false := decide_eq_false (by omega)
          have k8 : decide (B.length < n) = false := decide_eq_false (by omega)
          by_cases q1 : n < A.length
          · have q1a : (n : Int) < (A.length : Int) := by omega
            have q1b : decide (n < A.length) = true := decide_eq_true q1
            by_cases q2 : n < B.length
            · have q2a : (n : Int) < (B.length : Int) := by omega
              have q2b : decide (n < B.length) = true := decide_eq_true q2
              have hnq := HNE.out (by rw [f2]; exact q1) (by rw [f3]; exact q2)
              refine region_below (by kernel_rfl) (by kernel_rfl) ?_
              repeat (go_big_quiet_step (first | fail))
              refine wpQuiet_nil (belowOf_all ?_)
              intro w9 hb9
              have HB9 : Hid (Below w8.heap.size w8 w9) := HNX.out.trans (hb9.mono HNX.out.size)
              have CC9 : w9.cell? ⟨b', o' + i, none⟩ = some (.int .i64 n) := (hb9.cell (World.block_lt_of_cell? _ _ CC)).trans CC
              clear hb9
              by_cases hnm : m < n
              · have HM3 : Hid (n = maxC (tx s) (sufL (tx s)) (i + 1)) := by show _ = _; rw [← HM2.out, if_pos hnm]
                have z1 : (m : Int) < (n : Int) := by omega
                go_wp2
                go_roundw
                case rel => exact ⟨i + 1, n, by go_num, rfl, by omega, by omega, HM3, HB9.out⟩
                case measure => simp only [intOf]; omega
              · have HM3 : Hid (m = maxC (tx s) (sufL (tx s)) (i + 1)) := by show _ = _; rw [← HM2.out, if_neg hnm]
                have z1 : ¬ (m : Int) < (n : Int) := by omega
                go_wp2
                go_roundw
                case rel => exact ⟨i + 1, m, by go_num, rfl, by omega, by omega, HM3, HB9.out⟩
                case measure => simp only [intOf]; omega
            · have q2a : ¬ (n : Int) < (B.length : Int) := by omega
              have q2b : decide (n < B.length) = false := decide_eq_false q2
              refine region_below (by kernel_rfl) (by kernel_rfl) ?_
              repeat (go_big_quiet_step (first | fail))
              refine wpQuiet_nil (belowOf_all ?_)
              intro w9 hb9
              have HB9 : Hid (Below w8.heap.size w8 w9) := HNX.out.trans (hb9.mono HNX.out.size)
              have CC9 : w9.cell? ⟨b', o' + i, none⟩ = some (.int .i64 n) := (hb9.cell (World.block_lt_of_cell? _ _ CC)).trans CC
              clear hb9
              by_cases hnm : m < n
              · have HM3 : Hid (n = maxC (tx s) (sufL (tx s)) (i + 1)) := by show _ = _; rw [← HM2.out, if_pos hnm]
                have z1 : (m : Int) < (n : Int) := by omega
                go_wp2
                go_roundw
                case rel => exact ⟨i + 1, n, by go_num, rfl, by omega, by omega, HM3, HB9.out⟩
                case measure => simp only [intOf]; omega
              · have HM3 : Hid (m = maxC (tx s) (sufL (tx s)) (i + 1)) := by show _ = _; rw [← HM2.out, if_neg hnm]
                have z1 : ¬ (m : Int) < (n : Int) := by omega
                go_wp2
                go_roundw
                case rel => exact ⟨i + 1, m, by go_num, rfl, by omega, by omega, HM3, HB9.out⟩
                case measure => simp only [intOf]; omega
          · have q1a : ¬ (n : Int) < (A.length : Int) := by omega
            have q1b : decide (n < A.length) = false := decide_eq_false q1
            refine region_below (by kernel_rfl) (by kernel_rfl) ?_
            repeat (go_big_quiet_step (first | fail))
            refine wpQuiet_nil (belowOf_all ?_)
            intro w9 hb9
            have HB9 : Hid (Below w8.heap.size w8 w9) := HNX.out.trans (hb9.mono HNX.out.size)
            have CC9 : w9.cell? ⟨b', o' + i, none⟩ = some (.int .i64 n) := (hb9.cell (World.block_lt_of_cell? _ _ CC)).trans CC
            clear hb9
            by_cases hnm : m < n
            · have HM3 : Hid (n = maxC (tx s) (sufL (tx s)) (i + 1)) := by show _ = _; rw [← HM2.out, if_pos hnm]
              have z1 : (m : Int) < (n : Int) := by omega
              go_wp2
              go_roundw
              case rel => exact ⟨i + 1, n, by go_num, rfl, by omega, by omega, HM3, HB9.out⟩
              case measure => simp only [intOf]; omega
            · have HM3 : Hid (m = maxC (tx s) (sufL (tx s)) (i + 1)) := by show _ = _; rw [← HM2.out, if_neg hnm]
              have z1 : ¬ (m : Int) < (n : Int) := by omega
              go_wp2
              go_roundw
              case rel => exact ⟨i + 1, m, by go_num, rfl, by omega, by omega, HM3, HB9.out⟩
              case measure => simp only [intOf]; omega
      · have e1 : ¬ (i : Int) < (cn : Int) := by omega
        obtain rfl : i = cn := by omega
        have HBX : Hid (Below w.heap.size w wr) := HB8.out.trans (hnx.mono HB8.out.size)
        have hxm : X.size = m := by rw [HXM.out, HM.out, HWN.out]
        have hone : one = decide (0 < m) := by rw [HON.out, HM.out, HWN.out]
        clear HM HON HXM hnx
        by_cases hpos : 0 < m
        · rw [decide_eq_true hpos] at hone
          subst hone
          go_wp2
          go_ret
          exact ⟨by simp, HBX.out⟩
        · rw [decide_eq_false hpos] at hone
          subst hone
          go_wp2
          go_ret
          exact ⟨by simp, HBX.out⟩
end Go.Proofs.Ytkboblfjchkedaa
