/- FindIn: the specification's. No condition but that texts and a list fit in memory. -/
import Derived.Test.YtkboblfjchkedaaSxFm
import Derived.Test.YtkboblfjchkedaaSxRk
namespace Go.Proofs.Ytkboblfjchkedaa
open Go.RowKit Go.Sort
set_option linter.unusedVariables false

/-- A stretch of a text, as the specification cuts it. -/
theorem cut_long (s : ByteArray) (y k : Nat) : (s.extract y s.size).extract 0 k = strL (stL (tx s) k y) := by
  apply ByteArray.ext
  apply Array.toList_inj.1
  have h : tx ((s.extract y s.size).extract 0 k) = stL (tx s) k y := by
    rw [tx_ext, tx_end]
    simp [stL]
  simpa [tx, strL] using h
theorem cut_short (s : ByteArray) (y k : Nat) (h : s.size - y ≤ k) : s.extract y s.size = strL (stL (tx s) k y) := by
  apply ByteArray.ext
  apply Array.toList_inj.1
  have h : tx (s.extract y s.size) = stL (tx s) k y := by
    rw [tx_end]
    unfold stL
    rw [List.take_of_length_le (by rw [List.length_drop, tx_len]; omega)]
  simpa [tx, strL] using h
theorem strL_list (l : List UInt8) : (strL l).toList = l := by rw [ByteArray.toList_eq]; simp [strL]
set_option maxRecDepth 100000 in
set_option maxHeartbeats 4000000 in
theorem specFindIn_k (x0 : ByteArray) (x1 : List Int) (a1 : Option Addr) (n1 c1 : Nat) (S1 : Nat → Prop) (x2 : ByteArray) (w : World) (h0 : x0.size ≤ 2 ^ 20) (h1 : (kRow kInt).is true w S1 [.slice a1 n1 c1] x1) (z1 : (kRow kInt).sz x1 ≤ 2 ^ 20) (h2 : x2.size ≤ 2 ^ 20) :
    Calls Try.prog 18 #[.string x0, .slice a1 n1 c1, .string x2] w (RFindIn x0 x1 x2 w) := by
  have hcap := row_cap h1
  replace h1 := (kRow kInt).read h1
  have hz : n1 ≤ 2 ^ 20 := by have := row_len h1; have : (kRow kInt).sz x1 = x1.length + sums kInt.sz x1 := rfl; omega
  have hcl := l12Is_k x0 x1 a1 n1 c1 S1 w h1 (by omega)
  have H1 : Hid ((kRow kInt).is false w S1 [.slice a1 n1 c1] x1) := h1
  clear h1 z1
  go_enter Try.func18, Try.ntmps18
  go_wp2_with fail
  refine hcl.mono ?_
  rintro e w1 ⟨rfl, hb⟩
  have HB1 : Hid (Below w.heap.size w w1) := hb
  have HR1 : Hid ((kRow kInt).is false w1 S1 [.slice a1 n1 c1] x1) := Kd.below H1.out hb
  clear hb hcl H1
  cases hq : isSx x0 x1 with
  | false =>
    have HF : Hid (fFindIn x0 x1 x2 = ([], 0, false)) := by show _ = _; unfold fFindIn fiGood; rw [hq]; simp
    clear hq
    go_wp2
    refine bodyPost_ret (v := .tuple #[.slice none 0 0, .int .i64 0, .bool false]) (by simp [results, Try.results18, go_sem]) rfl ?_
    unfold RFindIn
    rw [HF.out]
    exact ⟨none, 0, 0, fun _ => False, rfl, row_nil _ _ _ _ _ _, fun k hk => hk.elim, by simp [sums], by unfold IntOk; simp only; omega, HB1.out⟩
  | true =>
    obtain ⟨hs, hl⟩ := isSx_of hq
    have hc1 := l1InS_k (x2.size : Int) 1 120
    by_cases hp : (1 : Int) ≤ (x2.size : Int) ∧ (x2.size : Int) ≤ 120
    · rw [decide_eq_true hp] at hc1
      have HF : Hid (fFindIn x0 x1 x2 = (srtI (nts (foundL x0 x2 (sufL (tx x0)))), (((find1 x0 x2 (sufL (tx x0))).2 + (find2 x0 x2 (sufL (tx x0))).2 : Nat) : Int), true)) := by
        show _ = _
        unfold fFindIn
        rw [if_pos (by unfold fiGood; rw [hq]; simp; omega)]
      rw [hl] at HR1
      have HSL : Hid (∀ x ∈ sufL (tx x0), x ≤ x0.size) := suf_le x0
      have hbd := find_bd x0 x2 (sufL (tx x0))
      have hle : (sufL (tx x0)).length = x0.size := by rw [sufL_len, tx_len]
      have hn1 : n1 = (sufL (tx x0)).length := by have := row_len HR1.out; rw [nts_len] at this; exact this
      obtain ⟨l, hll⟩ : ∃ l, l = sufL (tx x0) := ⟨_, rfl⟩
      rw [← hll] at HF HR1 HSL hbd hle hn1
      clear hl hq hll
      rw [hle] at hn1 hbd
      have HLE : Hid (l.length = n1) := by show _ = _; rw [hle, hn1]
      rw [← hn1] at hbd
      have hn120 : n1 ≤ 120 := by omega
      have HE1 : Hid (find1 x0 x2 l = hal (isA1 x0 x2 l) 0 n1) := by show _ = _; unfold find1; rw [HLE.out]
      have HE2 : Hid (find2 x0 x2 l = hal (isA2 x0 x2 l) (find1 x0 x2 l).1 n1) := by show _ = _; unfold find2; rw [HLE.out]
      obtain ⟨m2, hm2⟩ : ∃ m2, m2 = x2.size := ⟨_, rfl⟩
      have HM2 : Hid (m2 = x2.size) := hm2
      have h120 : x2.size ≤ 120 := by omega
      clear hle hn1 hp hm2
      go_wp2_with fail
      refine (hc1 _).mono ?_
      rintro e w9 ⟨rfl, hw9⟩
      rw [hw9]
      clear hw9 w9 hc1
      go_wp2_with fail
      go_loopw [9, 10, 11] (fun sv lv hv wr => ∃ p h s : Nat, lv = .int .i64 p ∧ hv = .int .i64 h ∧ sv = .int .i64 s ∧ p ≤ h ∧ h ≤ n1 ∧ Hid (find1 x0 x2 l = ((hal (isA1 x0 x2 l) p h).1, (hal (isA1 x0 x2 l) p h).2 + s)) ∧ Below w1.heap.size w1 wr) (fun _ lv hv _ => (intOf hv).toNat - (intOf lv).toNat)
      case atStart => exact ⟨0, n1, 0, rfl, rfl, rfl, Nat.zero_le _, Nat.le_refl _, by show _ = _; rw [HE1.out]; rfl, Below.refl _ _⟩
      case round =>
        obtain ⟨p, h, s, rfl, rfl, rfl, hl, hh, HI, hnx⟩ := hrel
        have zw := hnx.size
        have hsb : s ≤ 2 ^ 20 := by have h1 := hbd.2.2.1; rw [HI.out] at h1; simp only at h1; omega
        by_cases hlt : p < h
        · obtain ⟨m, hm⟩ : ∃ m, m = (p + h) / 2 := ⟨_, rfl⟩
          have em : ((p : Int) + (h : Int)) / 2 = (m : Int) := by omega
          have k1 : (p : Int) < (h : Int) := by omega
          have hml : p ≤ m := by omega
          have hmh : m < h := by omega
          have HM : Hid (m = (p + h) / 2) := hm
          clear hm
          obtain ⟨y, hy⟩ : ∃ y, l[m]? = some y := ⟨_, List.getElem?_eq_getElem (by rw [HLE.out]; omega)⟩
          obtain ⟨b, o, rfl, hb, _, A2⟩ := rowI_at (Kd.below HR1.out hnx) (nts_at hy)
          have hys : y ≤ x0.size := HSL.out y (List.mem_of_getElem? hy)
          have HP : Hid (isA1 x0 x2 l m = bl ((tx x0).drop y) (tx x2)) := by show _ = _; unfold isA1; rw [getD_of hy]
          have hL : Op.bytesLess (x0.extract y x0.size).toList x2.toList = isA1 x0 x2 l m := by rw [HP.out, tx_is, tx_is, tx_end]
          have j0 : (0 : Int) ≤ (m : Int) := by omega
          have j1 : (m : Int) < (n1 : Int) := by omega
          have j2 : (y : Int) ≤ (x0.size : Int) := by omega
          clear hy HP
          cases hpm : isA1 x0 x2 l m with
          | true =>
            have HI2 : Hid (find1 x0 x2 l = ((hal (isA1 x0 x2 l) (m + 1) h).1, (hal (isA1 x0 x2 l) (m + 1) h).2 + (s + 1))) := by show _ = _; rw [HI.out, hal_up _ hlt HM.out hpm]; simp only [Prod.mk.injEq, true_and]; omega
            rw [hpm] at hL
            clear hpm
            go_wp2
            go_roundw
            case rel => exact ⟨m + 1, h, s + 1, by first | go_num | (rw [em]; go_num), rfl, by go_num, by omega, hh, HI2, hnx⟩
            case measure => simp only [intOf]; omega
          | false =>
            have HI2 : Hid (find1 x0 x2 l = ((hal (isA1 x0 x2 l) p m).1, (hal (isA1 x0 x2 l) p m).2 + (s + 1))) := by show _ = _; rw [HI.out, hal_down _ hlt HM.out hpm]; simp only [Prod.mk.injEq, true_and]; omega
            rw [hpm] at hL
            clear hpm
            go_wp2
            go_roundw
            case rel => exact ⟨p, m, s + 1, rfl, by first | rfl | rw [em], by go_num, by omega, by omega, HI2, hnx⟩
            case measure => simp only [intOf]; omega
        · have k1 : ¬ (p : Int) < (h : Int) := by omega
          have HE : Hid (find1 x0 x2 l = (p, s)) := by show _ = _; rw [HI.out, hal_done _ hlt]; simp
          have hpn : p ≤ n1 := by omega
          have HE2b : Hid (find2 x0 x2 l = hal (isA2 x0 x2 l) p n1) := by show _ = _; rw [HE2.out, HE.out]
          have HB1a : Hid (Below w1.heap.size w1 wr) := hnx
          obtain ⟨V, rfl⟩ : ∃ V, V = wr := ⟨_, rfl⟩
          clear HI HE1 HE2 hnx
          go_wp2_with fail
          go_loopw [9, 10, 14] (fun sv lv hv wq => ∃ b h u : Nat, lv = .int .i64 b ∧ hv = .int .i64 h ∧ sv = .int .i64 ((s : Int) + u) ∧ p ≤ b ∧ b ≤ h ∧ h ≤ n1 ∧ Hid (find2 x0 x2 l = ((hal (isA2 x0 x2 l) b h).1, (hal (isA2 x0 x2 l) b h).2 + u)) ∧ Below V.heap.size V wq) (fun _ lv hv _ => (intOf hv).toNat - (intOf lv).toNat)
          case atStart => exact ⟨p, n1, 0, rfl, rfl, by go_num, Nat.le_refl _, hpn, Nat.le_refl _, by show _ = _; rw [HE2b.out]; rfl, Below.refl _ _⟩
          case round =>
            obtain ⟨b, h, u, rfl, rfl, rfl, hpb, hl, hh, HI, hnx⟩ := hrel
            have zw2 := hnx.size
            have hub : u ≤ 2 ^ 20 := by have h1 := hbd.2.2.2; rw [HI.out] at h1; simp only at h1; omega
            by_cases hlt : b < h
            · obtain ⟨m, hm⟩ : ∃ m, m = (b + h) / 2 := ⟨_, rfl⟩
              have em : ((b : Int) + (h : Int)) / 2 = (m : Int) := by omega
              have k1 : (b : Int) < (h : Int) := by omega
              have hml : b ≤ m := by omega
              have hmh : m < h := by omega
              have HM : Hid (m = (b + h) / 2) := hm
              clear hm
              obtain ⟨y, hy⟩ : ∃ y, l[m]? = some y := ⟨_, List.getElem?_eq_getElem (by rw [HLE.out]; omega)⟩
              obtain ⟨bb, o, rfl, hb, _, A2⟩ := rowI_at (Kd.below HR1.out (HB1a.out.trans (hnx.mono HB1a.out.size))) (nts_at hy)
              have hys : y ≤ x0.size := HSL.out y (List.mem_of_getElem? hy)
              obtain ⟨X, hX⟩ : ∃ X, X = strL (stL (tx x0) x2.size y) := ⟨_, rfl⟩
              have hcl := cut_long x0 y x2.size
              have hcs : x0.size - y ≤ x2.size → x0.extract y x0.size = X := fun h => by rw [hX]; exact cut_short x0 y x2.size h
              rw [← hX] at hcl
              have hXl : X.toList = stL (tx x0) x2.size y := by rw [hX, strL_list]
              have hor : (Op.bytesLess X.toList x2.toList || X.toList == x2.toList) = isA2 x0 x2 l m := by
                rw [le_is, hXl, tx_is]
                unfold isA2
                rw [getD_of hy]
              have hes : (x0.extract y x0.size).size = x0.size - y := by rw [ByteArray.size_extract]; omega
              have j0 : (0 : Int) ≤ (m : Int) := by omega
              have j1 : (m : Int) < (n1 : Int) := by omega
              have j2 : (y : Int) ≤ (x0.size : Int) := by omega
              obtain ⟨q, hq⟩ : ∃ q, q = x0.size - y := ⟨_, rfl⟩
              rw [← hq] at hes hcs
              have HQ : Hid (q = x0.size - y) := hq
              clear hy hXl hX hq
              have HUP : Hid (isA2 x0 x2 l m = true → find2 x0 x2 l = ((hal (isA2 x0 x2 l) (m + 1) h).1, (hal (isA2 x0 x2 l) (m + 1) h).2 + (u + 1))) := fun hp2 => by rw [HI.out, hal_up _ hlt HM.out hp2]; simp only [Prod.mk.injEq, true_and]; omega
              have HDN : Hid (isA2 x0 x2 l m = false → find2 x0 x2 l = ((hal (isA2 x0 x2 l) b m).1, (hal (isA2 x0 x2 l) b m).2 + (u + 1))) := fun hp2 => by rw [HI.out, hal_down _ hlt HM.out hp2]; simp only [Prod.mk.injEq, true_and]; omega
              obtain ⟨c, hc⟩ : ∃ c, c = isA2 x0 x2 l m := ⟨_, rfl⟩
              rw [← hc] at hor HUP HDN
              clear hc HI
              by_cases hlong : m2 < q
              · skip
                have k6 : (m2 : Int) < (q : Int) := by omega
                have k7 : (x2.size : Int) < (q : Int) := by have := HM2.out; omega
                have k8 : (x2.size : Int) ≤ (q : Int) := by omega
                clear hcs
                cases hlt2 : Op.bytesLess X.toList x2.toList with
                | true =>
                  rw [hlt2] at hor
                  cases heq2 : X.toList == x2.toList with
                  | true =>
                    rw [heq2] at hor
                    obtain rfl : c = true := by rw [← hor]; rfl
                    clear hor
                    go_wp2
                    go_roundw
                    case rel => exact ⟨m + 1, h, u + 1, by first | go_num | (rw [em]; go_num), rfl, by go_num, by omega, by omega, hh, HUP.out rfl, hnx⟩
                    case measure => simp only [intOf]; omega
                  | false =>
                    rw [heq2] at hor
                    obtain rfl : c = true := by rw [← hor]; rfl
                    clear hor
                    go_wp2
                    go_roundw
                    case rel => exact ⟨m + 1, h, u + 1, by first | go_num | (rw [em]; go_num), rfl, by go_num, by omega, by omega, hh, HUP.out rfl, hnx⟩
                    case measure => simp only [intOf]; omega
                | false =>
                  rw [hlt2] at hor
                  cases heq2 : X.toList == x2.toList with
                  | true =>
                    rw [heq2] at hor
                    obtain rfl : c = true := by rw [← hor]; rfl
                    clear hor
                    go_wp2
                    go_roundw
                    case rel => exact ⟨m + 1, h, u + 1, by first | go_num | (rw [em]; go_num), rfl, by go_num, by omega, by omega, hh, HUP.out rfl, hnx⟩
                    case measure => simp only [intOf]; omega
                  | false =>
                    rw [heq2] at hor
                    obtain rfl : c = false := by rw [← hor]; rfl
                    clear hor
                    go_wp2
                    go_roundw
                    case rel => exact ⟨b, m, u + 1, rfl, by first | rfl | rw [em], by go_num, by omega, by omega, by omega, HDN.out rfl, hnx⟩
                    case measure => simp only [intOf]; omega
              · skip
                have k6 : ¬ (m2 : Int) < (q : Int) := by omega
                have k7 : ¬ (x2.size : Int) < (q : Int) := by have := HM2.out; omega
                have hcs2 := hcs (by have := HM2.out; omega)
                clear hcs hcl
                rw [hcs2] at hes
                cases hlt2 : Op.bytesLess X.toList x2.toList with
                | true =>
                  rw [hlt2] at hor
                  cases heq2 : X.toList == x2.toList with
                  | true =>
                    rw [heq2] at hor
                    obtain rfl : c = true := by rw [← hor]; rfl
                    clear hor
                    go_wp2
                    go_roundw
                    case rel => exact ⟨m + 1, h, u + 1, by first | go_num | (rw [em]; go_num), rfl, by go_num, by omega, by omega, hh, HUP.out rfl, hnx⟩
                    case measure => simp only [intOf]; omega
                  | false =>
                    rw [heq2] at hor
                    obtain rfl : c = true := by rw [← hor]; rfl
                    clear hor
                    go_wp2
                    go_roundw
                    case rel => exact ⟨m + 1, h, u + 1, by first | go_num | (rw [em]; go_num), rfl, by go_num, by omega, by omega, hh, HUP.out rfl, hnx⟩
                    case measure => simp only [intOf]; omega
                | false =>
                  rw [hlt2] at hor
                  cases heq2 : X.toList == x2.toList with
                  | true =>
                    rw [heq2] at hor
                    obtain rfl : c = true := by rw [← hor]; rfl
                    clear hor
                    go_wp2
                    go_roundw
                    case rel => exact ⟨m + 1, h, u + 1, by first | go_num | (rw [em]; go_num), rfl, by go_num, by omega, by omega, hh, HUP.out rfl, hnx⟩
                    case measure => simp only [intOf]; omega
                  | false =>
                    rw [heq2] at hor
                    obtain rfl : c = false := by rw [← hor]; rfl
                    clear hor
                    go_wp2
                    go_roundw
                    case rel => exact ⟨b, m, u + 1, rfl, by first | rfl | rw [em], by go_num, by omega, by omega, by omega, HDN.out rfl, hnx⟩
                    case measure => simp only [intOf]; omega
            · have k1 : ¬ (b : Int) < (h : Int) := by omega
              have HEE : Hid (find2 x0 x2 l = (b, u)) := by show _ = _; rw [HI.out, hal_done _ hlt]; simp
              have HFL : Hid (foundL x0 x2 l = (l.take b).drop p) := by show _ = _; unfold foundL; rw [HEE.out, HE.out]
              have HFF : Hid (fFindIn x0 x1 x2 = (srtI (nts (foundL x0 x2 l)), (s : Int) + (u : Int), true)) := by show _ = _; rw [HF.out, HEE.out, HE.out]; simp
              have HB2 : Hid (Below w1.heap.size w1 wr) := HB1a.out.trans (hnx.mono HB1a.out.size)
              have hbn : b ≤ n1 := by omega
              have HRW : Hid ((kRow kInt).is false wr S1 [.slice a1 n1 c1] (nts l)) := Kd.below HR1.out HB2.out
              have HBW : Hid (Below w.heap.size w wr) := HB1.out.trans (HB2.out.mono HB1.out.size)
              have HSLF : Hid (∀ x ∈ foundL x0 x2 l, x ≤ 120) := fun x hx => by
                rw [HFL.out] at hx
                have := HSL.out x (List.mem_of_mem_take (List.mem_of_mem_drop hx))
                omega
              have HFN : Hid ((foundL x0 x2 l).length = b - p) := by show _ = _; rw [HFL.out, List.length_drop, List.length_take, HLE.out]; omega
              have hsb2 : s ≤ 2 ^ 20 := by have h1 := hbd.2.2.1; rw [HE.out] at h1; simp only at h1; omega
              have hub2 : u ≤ 2 ^ 20 := hub
              obtain ⟨G, hG⟩ : ∃ G, G = foundL x0 x2 l := ⟨_, rfl⟩
              rw [← hG] at HFL HFF HSLF HFN
              clear hG HI HEE HE HE2b HM2 HSL hbd hnx HB1a HR1 HF HB2
              obtain ⟨V2, rfl⟩ : ∃ V2, V2 = wr := ⟨_, rfl⟩
              by_cases hbp : p < b
              · obtain ⟨y0, hy0⟩ : ∃ y, l[p]? = some y := ⟨_, List.getElem?_eq_getElem (by rw [HLE.out]; omega)⟩
                obtain ⟨bb, o, rfl, _, _, _⟩ := rowI_at HRW.out (nts_at hy0)
                have HMID : Hid ((kRow kInt).is false V2 S1 [.slice (some ⟨bb, o + p, none⟩) (b - p) (c1 - p)] (nts G)) := by
                  show (kRow kInt).is _ _ _ _ _
                  rw [HFL.out, ← nts_drop, ← nts_take]
                  exact row_mid HRW.out (by omega) hbn
                obtain ⟨d, hd⟩ : ∃ d, d = b - p := ⟨_, rfl⟩
                rw [← hd] at HMID HFN
                have hd1 : (b : Int) - (p : Int) = (d : Int) := by omega
                have hd120 : d ≤ 120 := by omega
                have g0 : (0 : Int) ≤ (p : Int) := by omega
                have g1 : (p : Int) ≤ (b : Int) := by omega
                have g2 : (b : Int) ≤ (c1 : Int) := by omega
                have g3 : ¬ p = c1 := by omega
                have g4 : ¬ (p : Int) = (c1 : Int) := by omega
                clear hy0 hd HRW
                go_wp2_with fail
                go_loopw [17, 92] (fun ov iv wr => ∃ m : Nat, m ≤ d ∧ iv = .int .i64 m ∧ Hid (OwnL inC 3 1 wr V2.heap.size ov (nts (srtN (G.take m)))) ∧ Below V2.heap.size V2 wr) (fun _ iv _ => d - (intOf iv).toNat)
                case atStart => exact ⟨0, Nat.zero_le _, rfl, OwnL.nil _ _ _ _ _, Below.refl _ _⟩
                case round =>
                  obtain ⟨m, hm, rfl, HO, hnx⟩ := hrel
                  have zw3 := hnx.size
                  obtain ⟨oa, oc, hov, hoc⟩ := HO.out.form
                  have HSL : Hid ((nts (srtN (G.take m))).length = m) := by show _ = _; rw [nts_len, (srtN_perm _).length_eq, List.length_take, HFN.out]; omega
                  rw [HSL.out] at hov hoc
                  subst hov
                  by_cases hlt : m < d
                  · obtain ⟨i, hi⟩ : ∃ i, G[m]? = some i := ⟨_, List.getElem?_eq_getElem (by rw [HFN.out]; exact hlt)⟩
                    obtain ⟨bi, oi, ei, _, _, CI⟩ := rowI_at (Kd.below HMID.out hnx) (nts_at hi)
                    obtain ⟨rfl, rfl⟩ : bb = bi ∧ o + p = oi := by simpa using ei
                    have hi120 : i ≤ 120 := HSLF.out i (List.mem_of_getElem? hi)
                    have HNXT : Hid (srtN (G.take (m + 1)) = putN i (srtN (G.take m))) := srtN_next hi
                    have n0 : (m : Int) < (d : Int) := by omega
                    have n1' : (0 : Int) ≤ (m : Int) := by omega
                    obtain ⟨N, hN⟩ : ∃ N, N = 121 := ⟨_, rfl⟩
                    clear hi ei
                    obtain ⟨F, hF⟩ : ∃ F, F = srtN (G.take m) := ⟨_, rfl⟩
                    have HFM : Hid (∀ z ∈ F, z < N) := fun z hz => by have := HSLF.out z (List.mem_of_mem_take ((srtN_perm _).mem_iff.1 (hF ▸ hz))); omega
                    have HF : Hid (F = srtN (G.take m)) := hF
                    rw [← hF] at HO HSL
                    have HR : Hid ((kRow kInt).is true wr (fun k => V2.heap.size ≤ k) [.slice oa m oc] (nts F)) := own_intK HO.out (by rw [HSL.out]; omega) (nts_ok fun k hk => by have := HFM.out k hk; omega)
                    have HLF : Hid (F.length = m) := by have := HSL.out; rwa [nts_len] at this
                    clear hF
                    obtain ⟨V, rfl⟩ : ∃ V, V = wr := ⟨_, rfl⟩
                    go_wp2_with fail
                    go_loopw [20] (fun kv wq => ∃ p : Nat, p ≤ m ∧ kv = .int .i64 p ∧ Hid (posN i F = p + posN i (F.drop p)) ∧ Below V.heap.size V wq) (fun kv _ => m - (intOf kv).toNat)
                    case atStart => exact ⟨0, Nat.zero_le _, rfl, by show _ = _; simp, Below.refl _ _⟩
                    case round =>
                      obtain ⟨p, hp, rfl, HP, hnq⟩ := hrel
                      have zq := hnq.size
                      by_cases hpm : p < m
                      · obtain ⟨y, hy⟩ : ∃ y, F[p]? = some y := ⟨_, List.getElem?_eq_getElem (by rw [HLF.out]; exact hpm)⟩
                        have hyN : y < N := HFM.out y (List.mem_of_getElem? hy)
                        obtain ⟨b, off, rfl, hb, _, hc⟩ := rowI_at (Kd.below HR.out hnq) (nts_at hy)
                        have HD : Hid (posN i (F.drop p) = if decide (y < i) = true then posN i (F.drop (p + 1)) + 1 else 0) := by have h := posN_drop (i := i) hy; show _ = _; simpa using h
                        have p0 : (0 : Int) ≤ (p : Int) := by omega
                        have p1 : (p : Int) < (m : Int) := by omega
                        have y0 : (0 : Int) ≤ (y : Int) := by omega
                        skip
                        have hle : decide ((y : Int) < (i : Int)) = decide (y < i) := by simp
                        cases hq : decide (y < i) with
                        | true =>
                          have HE : Hid (posN i F = (p + 1) + posN i (F.drop (p + 1))) := by show _ = _; rw [HP.out, HD.out, if_pos hq]; omega
                          rw [hq] at hle
                          have hb2 : Below wr.heap.size wr wr := Below.refl _ _
                          go_wp2
                          go_roundw
                          case rel => exact ⟨p + 1, by omega, by go_num, HE, hnq.trans (hb2.mono zq)⟩
                          case measure => simp [intOf]; omega
                        | false =>
                        have HE : Hid (posN i F = p) := by show _ = _; rw [HP.out, HD.out, if_neg (by rw [hq]; exact Bool.false_ne_true)]; omega
                        rw [hq] at hle
                        have hb2 : Below wr.heap.size wr wr := Below.refl _ _
                        have HB2 : Hid (Below V.heap.size V wr) := hnq.trans (hb2.mono zq)
                        have zv := HB2.out.size
                        have p2 : (p : Int) ≤ (oc : Int) := by omega
                        have p3 : (p : Int) ≤ (m : Int) := by omega
                        have HR2 : Hid ((kRow kInt).is true wr (fun k => k < wr.heap.size) [.slice (some ⟨b, off, none⟩) m oc] (nts F)) := (kRow kInt).tight (Kd.below HR.out HB2.out) (fun k hk _ => hk)
                        have HT2 : Hid ((kRow kInt).is false wr (fun k => k < wr.heap.size) [.slice (some ⟨b, off, none⟩) p oc] (nts (F.take p))) := by
                          show (kRow kInt).is _ _ _ _ _
                          rw [← nts_take]
                          exact (kRow kInt).read (row_take HR2.out (by omega))
                        have HLT : Hid ((nts (F.take p)).length = p) := by show _ = _; rw [nts_len, List.length_take, HLF.out]; omega
                        go_wp2_with (at_builtin; refine app_ints rfl _ _ rfl wr.heap.size _ [] rfl (OwnL.nil _ _ _ _ _) _ _ _ _ (nts (F.take p)) rfl HT2.out (by rw [HLT.out]; simp; omega) (Nat.le_refl _) ?_)
                        intro v3 w3 ho3 hb3 _
                        have HO3 : Hid (OwnL inC 3 1 w3 wr.heap.size v3 (nts (F.take p))) := ho3
                        obtain ⟨W3, rfl⟩ : ∃ W3, W3 = w3 := ⟨_, rfl⟩
                        have HB3 : Hid (Below wr.heap.size wr W3) := hb3
                        have z3 := hb3.size
                        clear ho3 hb3
                        go_wp2_with (at_builtin; refine app_int rfl _ _ rfl wr.heap.size _ (nts (F.take p)) rfl (OwnL.below HO3.out (below_a1r _ _)) _ (i : Int) rfl (by simp [World.cell?_alloc_new]) (by rw [HLT.out]; omega) (by simp; omega) ?_)
                        intro v4 w4 ho4 hb4 _
                        have HO4 : Hid (OwnL inC 3 1 w4 wr.heap.size v4 (nts (F.take p) ++ [(i : Int)])) := ho4
                        have HB4 : Hid (Below wr.heap.size wr w4) := (HB3.out.alloc (by omega) _).trans hb4
                        have z4 := HB4.out.size
                        have HR4 : Hid ((kRow kInt).is true w4 (fun k => k < wr.heap.size) [.slice (some ⟨b, off, none⟩) m oc] (nts F)) := (kRow kInt).keep HR2.out z4 (fun k _ hk => HB4.out.block k hk)
                        clear ho4 hb4
                        have HD4 : Hid ((kRow kInt).is false w4 (fun k => k < wr.heap.size) [.slice (some ⟨b, off + p, none⟩) (m - p) (oc - p)] (nts (F.drop p))) := by
                          show (kRow kInt).is _ _ _ _ _
                          rw [← nts_drop]
                          exact (kRow kInt).read (row_dropA HR4.out (by omega))
                        have HLD : Hid ((nts (F.drop p)).length = m - p) := by show _ = _; rw [nts_len, List.length_drop, HLF.out]
                        have e1 : (m : Int) - (p : Int) = ((m - p : Nat) : Int) := by omega
                        have e2 : (oc : Int) - (p : Int) = ((oc - p : Nat) : Int) := by omega
                        go_wp2_with (at_builtin; refine app_ints rfl _ _ rfl wr.heap.size _ (nts (F.take p) ++ [(i : Int)]) rfl HO4.out _ _ _ _ (nts (F.drop p)) rfl HD4.out (by rw [HLD.out, List.length_append, HLT.out]; simp; omega) (by omega) ?_)
                        intro v5 w5 ho5 hb5 _
                        have HO5 : Hid (OwnL inC 3 1 w5 V2.heap.size v5 (nts (srtN (G.take (m + 1))))) := by
                          show OwnL _ _ _ _ _ _ _
                          rw [HNXT.out, ← HF.out, putN, HE.out]
                          have e : nts (F.take p ++ i :: F.drop p) = nts (F.take p) ++ (i : Int) :: nts (F.drop p) := by simp [nts]
                          rw [e]
                          exact OwnL.mono ho5 (by omega)
                        have HB5 : Hid (Below V2.heap.size V2 w5) := hnx.trans ((HB2.out.trans ((HB4.out.trans hb5).mono zv)).mono zw3)
                        clear ho5 hb5
                        go_wp2
                        go_roundw
                        case rel => exact ⟨m + 1, by omega, by go_num, HO5, HB5.out⟩
                        case measure => simp only [intOf]; omega
                      · have p1 : ¬ (p : Int) < (m : Int) := by omega
                        have p1a : decide ((p : Int) < (m : Int)) = false := decide_eq_false p1
                        have p1b : decide (p < m) = false := decide_eq_false hpm
                        have HE : Hid (posN i F = p) := by show _ = _; rw [HP.out, List.drop_of_length_le (by rw [HLF.out]; omega)]; simp [posN]
                        have hoo : (oa = none ∧ m = 0 ∧ oc = 0) ∨ ∃ b off, oa = some ⟨b, off, none⟩ := by
                          rcases HO.out.2 with ⟨e, e0⟩ | ⟨g, cap, cur, e, _⟩
                          · left; simpa using e
                          · right; injection e with e1; exact ⟨g, 0, e1⟩
                        have hb2 : Below wr.heap.size wr wr := Below.refl _ _
                        rcases hoo with ⟨rfl, rfl, rfl⟩ | ⟨b, off, rfl⟩
                        · obtain rfl : p = 0 := by omega
                          have HB2 : Hid (Below V.heap.size V wr) := hnq.trans (hb2.mono zq)
                          have zv := HB2.out.size
                          have HF0 : Hid (F = []) := List.eq_nil_of_length_eq_zero HLF.out
                          go_wp2_with (at_builtin; refine app_int rfl _ _ rfl wr.heap.size _ [] rfl (OwnL.nil _ _ _ _ _) _ (i : Int) rfl (by simp [World.cell?_alloc_new]) (by simp) (by simp) ?_)
                          intro v4 w4 ho4 hb4 _
                          have HO4 : Hid (OwnL inC 3 1 w4 wr.heap.size v4 [(i : Int)]) := ho4
                          have HB4 : Hid (Below wr.heap.size wr w4) := ((Below.refl _ _).alloc (by omega) _).trans hb4
                          have z4 := HB4.out.size
                          clear ho4 hb4
                          go_wp2_with (at_builtin; refine app_ints rfl _ _ rfl wr.heap.size _ [(i : Int)] rfl HO4.out _ _ _ (fun _ => True) [] rfl (row_nil _ _ _ _ _ _) (by simp) (by omega) ?_)
                          intro v5 w5 ho5 hb5 _
                          have HO5 : Hid (OwnL inC 3 1 w5 V2.heap.size v5 (nts (srtN (G.take (0 + 1))))) := by
                            show OwnL _ _ _ _ _ _ _
                            rw [HNXT.out, ← HF.out, HF0.out, show putN i ([] : List Nat) = [i] from rfl]
                            exact OwnL.mono ho5 (by omega)
                          have HB5 : Hid (Below V2.heap.size V2 w5) := hnx.trans ((HB2.out.trans ((HB4.out.trans hb5).mono zv)).mono zw3)
                          clear ho5 hb5
                          go_wp2
                          go_roundw
                          case rel => exact ⟨0 + 1, by omega, by go_num, HO5, HB5.out⟩
                          case measure => simp only [intOf]; omega
                        · have HB2 : Hid (Below V.heap.size V wr) := hnq.trans (hb2.mono zq)
                          have zv := HB2.out.size
                          have p2 : (p : Int) ≤ (oc : Int) := by omega
                          have p3 : (p : Int) ≤ (m : Int) := by omega
                          have HR2 : Hid ((kRow kInt).is true wr (fun k => k < wr.heap.size) [.slice (some ⟨b, off, none⟩) m oc] (nts F)) := (kRow kInt).tight (Kd.below HR.out HB2.out) (fun k hk _ => hk)
                          have HT2 : Hid ((kRow kInt).is false wr (fun k => k < wr.heap.size) [.slice (some ⟨b, off, none⟩) p oc] (nts (F.take p))) := by
                            show (kRow kInt).is _ _ _ _ _
                            rw [← nts_take]
                            exact (kRow kInt).read (row_take HR2.out (by omega))
                          have HLT : Hid ((nts (F.take p)).length = p) := by show _ = _; rw [nts_len, List.length_take, HLF.out]; omega
                          go_wp2_with (at_builtin; refine app_ints rfl _ _ rfl wr.heap.size _ [] rfl (OwnL.nil _ _ _ _ _) _ _ _ _ (nts (F.take p)) rfl HT2.out (by rw [HLT.out]; simp; omega) (Nat.le_refl _) ?_)
                          intro v3 w3 ho3 hb3 _
                          have HO3 : Hid (OwnL inC 3 1 w3 wr.heap.size v3 (nts (F.take p))) := ho3
                          obtain ⟨W3, rfl⟩ : ∃ W3, W3 = w3 := ⟨_, rfl⟩
                          have HB3 : Hid (Below wr.heap.size wr W3) := hb3
                          have z3 := hb3.size
                          clear ho3 hb3
                          go_wp2_with (at_builtin; refine app_int rfl _ _ rfl wr.heap.size _ (nts (F.take p)) rfl (OwnL.below HO3.out (below_a1r _ _)) _ (i : Int) rfl (by simp [World.cell?_alloc_new]) (by rw [HLT.out]; omega) (by simp; omega) ?_)
                          intro v4 w4 ho4 hb4 _
                          have HO4 : Hid (OwnL inC 3 1 w4 wr.heap.size v4 (nts (F.take p) ++ [(i : Int)])) := ho4
                          have HB4 : Hid (Below wr.heap.size wr w4) := (HB3.out.alloc (by omega) _).trans hb4
                          have z4 := HB4.out.size
                          have HR4 : Hid ((kRow kInt).is true w4 (fun k => k < wr.heap.size) [.slice (some ⟨b, off, none⟩) m oc] (nts F)) := (kRow kInt).keep HR2.out z4 (fun k _ hk => HB4.out.block k hk)
                          clear ho4 hb4
                          have HD4 : Hid (∀ a c, (kRow kInt).is false w4 (fun k => k < wr.heap.size) [.slice a (m - p) c] (nts (F.drop p))) := fun a c => by
                            have e : nts (F.drop p) = [] := by rw [List.drop_of_length_le (by rw [HLF.out]; omega)]; rfl
                            rw [e, show m - p = 0 by omega]
                            exact row_nil _ _ _ _ _ _
                          have HLD : Hid ((nts (F.drop p)).length = m - p) := by show _ = _; rw [nts_len, List.length_drop, HLF.out]
                          have e1 : (m : Int) - (p : Int) = ((m - p : Nat) : Int) := by omega
                          have e2 : (oc : Int) - (p : Int) = ((oc - p : Nat) : Int) := by omega
                          rcases Nat.lt_or_ge p oc with hpo | hpo
                          · have hpo1 : ¬ (p : Int) = (oc : Int) := by omega
                            have hpo2 : ¬ p = oc := by omega
                            go_wp2_with (at_builtin; refine app_ints rfl _ _ rfl wr.heap.size _ (nts (F.take p) ++ [(i : Int)]) rfl HO4.out _ _ _ _ (nts (F.drop p)) rfl (HD4.out _ _) (by rw [HLD.out, List.length_append, HLT.out]; simp; omega) (by omega) ?_)
                            intro v5 w5 ho5 hb5 _
                            have HO5 : Hid (OwnL inC 3 1 w5 V2.heap.size v5 (nts (srtN (G.take (m + 1))))) := by
                              show OwnL _ _ _ _ _ _ _
                              rw [HNXT.out, ← HF.out, putN, HE.out]
                              have e : nts (F.take p ++ i :: F.drop p) = nts (F.take p) ++ (i : Int) :: nts (F.drop p) := by simp [nts]
                              rw [e]
                              exact OwnL.mono ho5 (by omega)
                            have HB5 : Hid (Below V2.heap.size V2 w5) := hnx.trans ((HB2.out.trans ((HB4.out.trans hb5).mono zv)).mono zw3)
                            clear ho5 hb5
                            go_wp2
                            go_roundw
                            case rel => exact ⟨m + 1, by omega, by go_num, HO5, HB5.out⟩
                            case measure => simp only [intOf]; omega
                          · obtain rfl : p = m := by omega
                            obtain rfl : oc = p := by omega
                            have HD5 : Hid (∀ a c, (kRow kInt).is false w4 (fun k => k < wr.heap.size) [.slice a 0 c] (nts (F.drop oc))) := fun a c => by
                              have := HD4.out a c
                              rwa [show oc - oc = 0 by omega] at this
                            clear e1 e2
                            go_wp2_with (at_builtin; refine app_ints rfl _ _ rfl wr.heap.size _ (nts (F.take oc) ++ [(i : Int)]) rfl HO4.out _ _ _ _ (nts (F.drop oc)) rfl (HD5.out _ _) (by rw [HLD.out, List.length_append, HLT.out]; simp; omega) (by omega) ?_)
                            intro v5 w5 ho5 hb5 _
                            have HO5 : Hid (OwnL inC 3 1 w5 V2.heap.size v5 (nts (srtN (G.take (oc + 1))))) := by
                              show OwnL _ _ _ _ _ _ _
                              rw [HNXT.out, ← HF.out, putN, HE.out]
                              have e : nts (F.take oc ++ i :: F.drop oc) = nts (F.take oc) ++ (i : Int) :: nts (F.drop oc) := by simp [nts]
                              rw [e]
                              exact OwnL.mono ho5 (by omega)
                            have HB5 : Hid (Below V2.heap.size V2 w5) := hnx.trans ((HB2.out.trans ((HB4.out.trans hb5).mono zv)).mono zw3)
                            clear ho5 hb5
                            go_wp2
                            go_roundw
                            case rel => exact ⟨oc + 1, by omega, by go_num, HO5, HB5.out⟩
                            case measure => simp only [intOf]; omega
                  · obtain rfl : m = d := by omega
                    have n0 : ¬ (m : Int) < (m : Int) := by omega
                    have HG : Hid (G.take m = G) := by show _ = _; rw [← HFN.out, List.take_length]
                    have HR : Hid ((kRow kInt).is true wr (fun k => V2.heap.size ≤ k) [.slice oa m oc] (srtI (nts G))) := by
                      show (kRow kInt).is _ _ _ _ _
                      rw [srtI_nts, ← HG.out]
                      exact own_intK HO.out (by rw [HSL.out]; omega) (nts_ok fun k hk => by have := HSLF.out k (List.mem_of_mem_take ((srtN_perm _).mem_iff.1 hk)); omega)
                    have HCN : Hid (sums kInt.cnt (srtI (nts G)) ≤ 2 ^ 26) := by
                      show _ ≤ _
                      rw [cnt_ints, srtI_nts, nts_len, (srtN_perm _).length_eq, HFN.out]
                      omega
                    clear HO
                    go_wp2
                    refine bodyPost_ret (v := .tuple #[.slice oa m oc, .int .i64 ((s : Int) + (u : Int)), .bool true]) (by simp [results, Try.results18, go_sem]) rfl ?_
                    unfold RFindIn
                    rw [HFF.out]
                    exact ⟨_, _, _, _, rfl, HR.out, fun k hk => by have := HBW.out.size; omega, HCN.out, by unfold IntOk; simp only; omega, HBW.out.trans (hnx.mono HBW.out.size)⟩
              · obtain rfl : p = b := by omega
                have HFE : Hid (fFindIn x0 x1 x2 = ([], (s : Int) + (u : Int), true)) := by
                  show _ = _
                  rw [HFF.out, HFL.out]
                  have e : (l.take p).drop p = [] := by simp
                  rw [e]
                  simp [srtI, nts]
                have hpc : (p : Int) ≤ (c1 : Int) := by omega
                have g0 : (0 : Int) ≤ (p : Int) := by omega
                have g5 : p ≤ c1 := by omega
                clear hbp HFF HFL HRW HSLF HFN
                have hcap2 : p < c1 ∨ p = c1 := by omega
                cases a1 with
                | none =>
                  go_wp2_with fail
                  go_loopw [17, 92] (fun ov iv wq => ov = .slice none 0 0 ∧ iv = .int .i64 0 ∧ wq = V2) (fun _ _ _ => 0)
                  case atStart => exact ⟨rfl, rfl, rfl⟩
                  case round =>
                    obtain ⟨rfl, rfl, rfl⟩ := hrel
                    go_wp2
                    refine bodyPost_ret (v := .tuple #[.slice none 0 0, .int .i64 ((s : Int) + (u : Int)), .bool true]) (by simp [results, Try.results18, go_sem]) rfl ?_
                    unfold RFindIn
                    rw [HFE.out]
                    exact ⟨none, 0, 0, fun _ => False, rfl, row_nil _ _ _ _ _ _, fun k hk => hk.elim, by simp [sums], by unfold IntOk; simp only; omega, HBW.out⟩
                | some x =>
                  rcases hcap2 with g6 | g6
                  · skip
                    go_wp2_with fail
                    go_loopw [17, 92] (fun ov iv wq => ov = .slice none 0 0 ∧ iv = .int .i64 0 ∧ wq = V2) (fun _ _ _ => 0)
                    case atStart => exact ⟨rfl, rfl, rfl⟩
                    case round =>
                      obtain ⟨rfl, rfl, rfl⟩ := hrel
                      go_wp2
                      refine bodyPost_ret (v := .tuple #[.slice none 0 0, .int .i64 ((s : Int) + (u : Int)), .bool true]) (by simp [results, Try.results18, go_sem]) rfl ?_
                      unfold RFindIn
                      rw [HFE.out]
                      exact ⟨none, 0, 0, fun _ => False, rfl, row_nil _ _ _ _ _ _, fun k hk => hk.elim, by simp [sums], by unfold IntOk; simp only; omega, HBW.out⟩
                  · skip
                    go_wp2_with fail
                    go_loopw [17, 92] (fun ov iv wq => ov = .slice none 0 0 ∧ iv = .int .i64 0 ∧ wq = V2) (fun _ _ _ => 0)
                    case atStart => exact ⟨rfl, rfl, rfl⟩
                    case round =>
                      obtain ⟨rfl, rfl, rfl⟩ := hrel
                      go_wp2
                      refine bodyPost_ret (v := .tuple #[.slice none 0 0, .int .i64 ((s : Int) + (u : Int)), .bool true]) (by simp [results, Try.results18, go_sem]) rfl ?_
                      unfold RFindIn
                      rw [HFE.out]
                      exact ⟨none, 0, 0, fun _ => False, rfl, row_nil _ _ _ _ _ _, fun k hk => hk.elim, by simp [sums], by unfold IntOk; simp only; omega, HBW.out⟩
    · rw [decide_eq_false hp] at hc1
      have HF : Hid (fFindIn x0 x1 x2 = ([], 0, false)) := by show _ = _; unfold fFindIn fiGood; rw [decide_eq_false (by omega)]; simp
      clear hq hl hp
      go_wp2_with fail
      refine (hc1 _).mono ?_
      rintro e w9 ⟨rfl, hw9⟩
      rw [hw9]
      clear hw9 w9 hc1
      go_wp2
      refine bodyPost_ret (v := .tuple #[.slice none 0 0, .int .i64 0, .bool false]) (by simp [results, Try.results18, go_sem]) rfl ?_
      unfold RFindIn
      rw [HF.out]
      exact ⟨none, 0, 0, fun _ => False, rfl, row_nil _ _ _ _ _ _, fun k hk => hk.elim, by simp [sums], by unfold IntOk; simp only; omega, HB1.out⟩
end Go.Proofs.Ytkboblfjchkedaa
