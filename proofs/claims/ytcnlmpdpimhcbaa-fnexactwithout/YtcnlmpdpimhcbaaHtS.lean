/- How many of the words each text has: the specification's l10Marks. No condition but that they fit in memory. -/
import Derived.Test.YtcnlmpdpimhcbaaHtM
namespace Go.Proofs.Ytcnlmpdpimhcbaa
open Go.RowKit
set_option linter.unusedVariables false

theorem sz_str {ws : List ByteArray} {i : Nat} {x : ByteArray} (h : ws[i]? = some x) : x.size ≤ (kRow kStr).sz ws := by
  have h1 := sums_ge kStr.sz ws i x h
  have h2 : kStr.sz x = x.size := rfl
  have h3 : (kRow kStr).sz ws = ws.length + sums kStr.sz ws := rfl
  omega
/-- What the marks are. -/
def RMarks (x : DWords) (ws : List ByteArray) (w : World) (e : Ending) (w' : World) : Prop :=
  (fMarks x ws = none ∧ e = .returned (.tuple #[.slice none 0 0, .bool false]) ∧ Below w.heap.size w w') ∨
  ∃ g M, fMarks x ws = some M ∧ e = .returned (.tuple #[.slice (some ⟨g, 0, none⟩) M.length M.length, .bool true]) ∧ w.heap.size ≤ g ∧ MkAt w' g M ∧ BndM M (2 ^ 30) ∧ M.length ≤ 40 ∧ Below w.heap.size w w'

set_option maxRecDepth 100000 in
set_option maxHeartbeats 4000000 in
theorem l10Marks_k (x0 : DWords) (C0 : List Value) (S0 S1 : Nat → Prop) (ws : List ByteArray) (a1 : Option Addr) (n1 c1 : Nat) (w : World) (h0 : kWords.is false w S0 C0 x0) (z0 : kWords.sz x0 ≤ 2 ^ 20) (h1 : (kRow kStr).is false w S1 [.slice a1 n1 c1] ws) (z1 : (kRow kStr).sz ws ≤ 2 ^ 20) :
    Calls Try.prog 82 #[.agg C0.toArray, .slice a1 n1 c1] w (RMarks x0 ws w) := by
  obtain ⟨tx, es⟩ := x0
  have HK : Hid (kWords.is false w S0 C0 (tx, es)) := h0
  obtain ⟨a, c, T, rfl, g0, hmx, hr, _⟩ := kWords_open h0
  have HZ0 : Hid (kWords.sz (tx, es) ≤ 2 ^ 20) := z0
  have HZ : Hid ((kRow kEntry).sz es ≤ 2 ^ 20) := by have : kWords.sz (tx, es) = 0 + (kRow kEntry).sz es := rfl; show _ ≤ _; omega
  have HZ1 : Hid ((kRow kStr).sz ws ≤ 2 ^ 20) := z1
  have HRW : Hid ((kRow kEntry).is false w T [.slice a es.length c] es) := hr
  have HW : Hid ((kRow kStr).is false w S1 [.slice a1 n1 c1] ws) := h1
  have hn1 : n1 = ws.length := row_len h1
  have HN1 : Hid (n1 = ws.length) := hn1
  have hn20 : n1 ≤ 2 ^ 20 := by have h3 : (kRow kStr).sz ws = ws.length + sums kStr.sz ws := rfl; omega
  obtain ⟨G, hG⟩ : ∃ G, G = fMarks (tx, es) ws := ⟨_, rfl⟩
  have HF : Hid (G = if (fGoodWords (tx, es) && decide (ws.length ≤ 20)) = true then markL es (List.replicate tx.toNat 0) ws else none) := hG
  have HG : Hid (G = fMarks (tx, es) ws) := hG
  clear h0 z0 hr h1 z1 hn1 hG
  show Calls Try.prog 82 #[.agg #[.int .i64 tx, .slice a es.length c], .slice a1 n1 c1] w _
  go_enter Try.func82, Try.ntmps82
  go_wp2_with fail
  refine (specGoodWords_k (tx, es) [.int .i64 tx, .slice a es.length c] S0 _ (Kd.below HK.out (below_a1 _ _)) HZ0.out).mono ?_
  rintro e w1 ⟨rfl, hb1⟩
  have X0 : w1.cell? ⟨w.heap.size, 0, none⟩ = some (.int .i64 tx) := by rw [hb1.cell (by simp)]; simp [go_sem]
  have X1 : w1.cell? ⟨w.heap.size, 1, none⟩ = some (.slice a es.length c) := by rw [hb1.cell (by simp)]; simp [go_sem]
  have HB1 : Hid (Below w.heap.size w w1) := (below_a1 _ _).trans (hb1.mono (by simp))
  have zw1 : w.heap.size < w1.heap.size := by have := hb1.size; simp at this; omega
  clear hb1
  cases hg : fGoodWords (tx, es) with
  | false =>
    have HNO : Hid (G = none) := by have := HF.out; rw [hg] at this; exact this
    clear hg
    go_wp2
    refine bodyPost_ret (v := .tuple #[.slice none 0 0, .bool false]) (by simp [results, Try.results82, go_sem]) rfl ?_
    exact .inl ⟨by rw [← HG.out, HNO.out], rfl, HB1.out⟩
  | true =>
    obtain ⟨t0, t40⟩ := good_texts hg
    have HFU : Hid (Full es) := good_full hg
    have HIN : Hid (∀ s, InT tx (findL s es)) := good_in hg
    by_cases h20 : (20 : Int) < (n1 : Int)
    · have HNO : Hid (G = none) := by have := HF.out; rw [hg, decide_eq_false (by rw [← HN1.out]; omega)] at this; exact this
      clear hg
      go_wp2
      refine bodyPost_ret (v := .tuple #[.slice none 0 0, .bool false]) (by simp [results, Try.results82, go_sem]) rfl ?_
      exact .inl ⟨by rw [← HG.out, HNO.out], rfl, HB1.out⟩
    · have HF1 : Hid (markL es (List.replicate tx.toNat 0) ws = G) := by have := HF.out; rw [hg, decide_eq_true (by rw [← HN1.out]; omega)] at this; exact this.symm
      clear hg HF
      obtain ⟨t, rfl⟩ : ∃ t : Nat, tx = t := ⟨tx.toNat, by omega⟩
      have hmw := makeIntS t (by omega) w1
      obtain ⟨W, hW⟩ : ∃ W, W = w1.alloc (.cells (madeCells #[.int .i64 0] t) 3) := ⟨_, rfl⟩
      have HM0 : Hid (MkAt W w1.heap.size (List.replicate t 0)) := by rw [hW]; exact MkAt.start _ _ _
      have BW : Below w1.heap.size w1 W := by rw [hW]; exact below_a1 _ _
      have zW : w1.heap.size < W.heap.size := by rw [hW]; simp
      have Y0 := cell_later BW X0
      have Y1 := cell_later BW X1
      have HBW : Hid (Below w.heap.size w W) := HB1.out.trans (BW.mono HB1.out.size)
      rw [← hW] at hmw
      obtain ⟨g, hg⟩ : ∃ g, g = w1.heap.size := ⟨_, rfl⟩
      rw [← hg] at hmw HM0 zW
      have hgw : w.heap.size < g := by omega
      clear hW BW hg
      go_wp2_with fail
      go_loopw [24] (fun iv wr => ∃ (k : Nat) (M : List Int), k ≤ n1 ∧ iv = .int .i64 k ∧ M.length = t ∧ Hid (markL es M (ws.drop k) = G) ∧ Hid (MkAt wr g M) ∧ BndM M (2 ^ 20 * k) ∧ KeptO (fun q => q = g) W wr) (fun iv _ => n1 - (intOf iv).toNat)
      case atStart => exact ⟨0, List.replicate t 0, Nat.zero_le _, rfl, by simp, HF1, HM0, (BndM.zero t).mono (by omega), KeptO.refl _ _⟩
      case round =>
        obtain ⟨k, M, hk, rfl, hMt, HI, HM, hbn, hkp⟩ := hrel
        have hkb : Below w.heap.size w wr := HBW.out.trans (hkp.below (by omega) (fun q hq e => by omega))
        have Z0 := cell_keptO hkp Y0 (by omega)
        have Z1 := cell_keptO hkp Y1 (by omega)
        have zr := hkp.size
        by_cases hlt : k < n1
        · obtain ⟨s, hs⟩ : ∃ s, ws[k]? = some s := ⟨_, List.getElem?_eq_getElem (by rw [← HN1.out]; exact hlt)⟩
          obtain ⟨b, off, B, C, rfl, hb, _, hi, _, hc⟩ := row_at (Kd.below HW.out hkb) hs
          obtain ⟨rfl, _⟩ := hi
          have A0 : wr.cell? ⟨b, off + k, none⟩ = some (.string s) := by have := (hc 0 _ rfl).1; simpa [kInt, kStr, kBool] using this
          have i0 : (0 : Int) ≤ (k : Int) := by omega
          have i1 : (k : Int) < (n1 : Int) := by omega
          have HI1 : Hid ((if isWordB s = true then markL es (addL M (findL s es)) (ws.drop (k + 1)) else none) = G) := by have := HI.out; rw [mark_drop hs] at this; exact this
          have HS : Hid (s.size ≤ 2 ^ 20) := Nat.le_trans (sz_str hs) HZ1.out
          have HKP : Hid (KeptO (fun q => q = g) W wr) := hkp
          have HBR : Hid (Below w.heap.size w wr) := hkb
          have HBN : Hid (BndM M (2 ^ 20 * k)) := hbn
          clear HI hc hs hkp hkb hbn
          go_wp2_with fail
          refine (l10Word_k s _ HS.out).mono ?_
          rintro e w2 ⟨rfl, hb2⟩
          have V0 := cell_later hb2 Z0
          have V1 := cell_later hb2 Z1
          have HM2 : Hid (MkAt w2 g M) := HM.out.below hb2
          have HB2 : Hid (Below w.heap.size w w2) := HBR.out.trans (hb2.mono HBR.out.size)
          have HKP2 : Hid (KeptO (fun q => q = g) W w2) := HKP.out.trans (KeptO.of hb2)
          have z2 : wr.heap.size ≤ w2.heap.size := hb2.size
          clear hb2 HM HKP HBR Z0 Z1
          cases hw : isWordB s with
          | false =>
            have HNO : Hid (G = none) := by have := HI1.out; rw [hw] at this; exact this.symm
            clear hw HI1
            go_wp2
            refine bodyPost_ret (v := .tuple #[.slice none 0 0, .bool false]) (by simp [results, Try.results82, go_sem]) rfl ?_
            exact .inl ⟨by rw [← HG.out, HNO.out], rfl, HB2.out⟩
          | true =>
            have HI2 : Hid (markL es (addL M (findL s es)) (ws.drop (k + 1)) = G) := by have := HI1.out; rw [hw] at this; exact this
            clear hw HI1
            go_wp2_with fail
            refine (l10Postings_k t es s a es.length c T _ (Kd.below HRW.out HB2.out) HZ.out HFU.out).mono ?_
            rintro e w3 ⟨la, ln, lc, rfl, hl3, hb3⟩
            obtain ⟨l, hl⟩ : ∃ l, l = findL s es := ⟨_, rfl⟩
            have hll : l.length ≤ 2 ^ 20 := by have := findL_len s es; have h3 : (kRow kEntry).sz es = es.length + sums kEntry.sz es := rfl; have := HZ.out; rw [hl]; omega
            have HIT : Hid (InT (t : Int) l) := by rw [hl]; exact HIN.out s
            rw [← hl] at hl3 HI2
            have hln : ln = l.length := row_len hl3
            have HL3 : Hid ((kRow kPosting).is false w3 (fun q => w2.heap.size ≤ q) [.slice la ln lc] l) := Kd.read _ hl3
            have HLN : Hid (ln = l.length) := hln
            have U0 := cell_later hb3 V0
            have U1 := cell_later hb3 V1
            have HM3 : Hid (MkAt w3 g M) := HM2.out.below hb3
            have HKP3 : Hid (KeptO (fun q => q = g) W w3) := HKP2.out.trans (KeptO.of hb3)
            have z3 : w2.heap.size ≤ w3.heap.size := hb3.size
            have hln20 : ln ≤ 2 ^ 20 := by omega
            clear hl hl3 hln hb3 HM2 HKP2 V0 V1
            go_wp2_with fail
            go_loopw [35] (fun iv wq => ∃ (j : Nat) (N : List Int), j ≤ ln ∧ iv = .int .i64 j ∧ N.length = t ∧ Hid (addL N (l.drop j) = addL M l) ∧ Hid (MkAt wq g N) ∧ BndM N (2 ^ 20 * k + j) ∧ KeptO (fun q => q = g) w3 wq) (fun iv _ => ln - (intOf iv).toNat)
            case atStart => exact ⟨0, M, Nat.zero_le _, rfl, hMt, rfl, HM3, HBN.out.mono (by omega), KeptO.refl _ _⟩
            case round =>
              obtain ⟨j, N, hj, rfl, hNt, HJ, HN, hbj, hkj⟩ := hrel
              have zq := hkj.size
              by_cases hjl : j < ln
              · obtain ⟨⟨p0, p1⟩, hp⟩ : ∃ p, l[j]? = some p := ⟨_, List.getElem?_eq_getElem (by rw [← HLN.out]; exact hjl)⟩
                obtain ⟨q0, q1⟩ := HIT.out _ (List.mem_of_getElem? hp)
                simp only at q0 q1
                obtain ⟨p, rfl⟩ : ∃ p : Nat, p0 = p := ⟨p0.toNat, by omega⟩
                have hrow := Kd.kept HL3.out hkj (fun q hq h2 h3 => by have h4 : w2.heap.size ≤ q := h2; have h5 : q = g := h3; omega)
                obtain ⟨b', off', B', C', rfl, hb', _, hi', _, hc'⟩ := row_at hrow hp
                obtain ⟨rfl, _, _⟩ := kPosting_open hi'
                have D0 : wr.cell? ⟨b', off' + j * 2, none⟩ = some (.int .i64 p) := (hc' 0 _ rfl).1
                have D1 : wr.cell? ⟨b', off' + j * 2 + 1, none⟩ = some (.int .i64 p1) := (hc' 1 _ rfl).1
                obtain ⟨y, hy⟩ : ∃ y, N[p]? = some y := ⟨_, List.getElem?_eq_getElem (by omega)⟩
                obtain ⟨y0, y1⟩ := hbj.at hy
                have E0 := (HN.out.2 p y hy).1
                have E1 := (HN.out.2 p y hy).2
                have hb1 : Below wr.heap.size wr (wr.alloc (.cells #[.int .i64 p, .int .i64 p1] 84)) := below_a1 _ _
                have HMX : Hid (MkAt ((wr.setCell ⟨g, p, none⟩ (.int .i64 (y + 1))).alloc (.cells #[.int .i64 p, .int .i64 p1] 84)) g (N.modify p (· + 1))) := (HN.out.put hy).below (below_a1 _ _)
                have HKX : Hid (KeptO (fun q => q = g) w3 ((wr.setCell ⟨g, p, none⟩ (.int .i64 (y + 1))).alloc (.cells #[.int .i64 p, .int .i64 p1] 84))) := (hkj.trans (kept_set _ _ _ _)).trans (KeptO.of (below_a1 _ _))
                have HJX : Hid (addL (N.modify p (· + 1)) (l.drop (j + 1)) = addL M l) := by have := HJ.out; rw [addL_drop hp] at this; exact this
                have HBX : Hid (BndM (N.modify p (· + 1)) (2 ^ 20 * k + j + 1)) := hbj.step p
                have F0 := cell_later hb1 E0
                have F1 : (wr.alloc (.cells #[.int .i64 p, .int .i64 p1] 84)).frozen? ⟨g, p, none⟩ = false := frozen_later hb1 E0 E1
                have j0 : (0 : Int) ≤ (j : Int) := by omega
                have j1 : (j : Int) < (ln : Int) := by omega
                have p0' : (0 : Int) ≤ (p : Int) := by omega
                have hgr : g < wr.heap.size := HN.out.1
                clear hrow hi' hc' hp hy hb1 HJ HN hbj hkj
                go_wp2
                go_roundw
                case rel => exact ⟨j + 1, N.modify p (· + 1), by omega, by rfl, by simpa using hNt, HJX, HMX, HBX.out.mono (by omega), HKX.out⟩
                case measure => simp only [intOf]; omega
              · have HE : Hid (N = addL M l) := by have := HJ.out; rw [List.drop_eq_nil_of_le (by rw [← HLN.out]; omega)] at this; exact this
                have HKO : Hid (KeptO (fun q => q = g) W wr) := HKP3.out.trans hkj
                have hjn : j = ln := by omega
                have HBO : Hid (BndM N (2 ^ 20 * (k + 1 : Nat))) := hbj.mono (by omega)
                have HIO : Hid (markL es N (ws.drop (k + 1)) = G) := by rw [HE.out]; exact HI2.out
                have j1 : ¬ (j : Int) < (ln : Int) := by omega
                clear HJ hbj hkj HE
                go_wp2
                go_roundw
                case rel => exact ⟨k + 1, N, by omega, by rfl, hNt, HIO, HN, HBO.out, HKO.out⟩
                case measure => simp only [intOf]; omega
        · have HE : Hid (G = some M) := by have := HI.out; rw [List.drop_eq_nil_of_le (by rw [← HN1.out]; omega)] at this; exact this.symm
          have i1 : ¬ (k : Int) < (n1 : Int) := by omega
          have HBO : Hid (BndM M (2 ^ 30)) := hbn.mono (by omega)
          have HBR : Hid (Below w.heap.size w wr) := hkb
          clear HI hkb hbn hkp
          go_wp2
          refine bodyPost_ret (v := .tuple #[.slice (some ⟨g, 0, none⟩) t t, .bool true]) (by simp [results, Try.results82, go_sem]) rfl ?_
          exact .inr ⟨g, M, by rw [← HG.out, HE.out], by rw [hMt], by omega, HM.out, HBO.out, by omega, HBR.out⟩
end Go.Proofs.Ytcnlmpdpimhcbaa
