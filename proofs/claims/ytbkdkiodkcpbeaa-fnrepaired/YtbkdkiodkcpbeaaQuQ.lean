/- GoodVoting: the specification's. No condition but that rows fit in memory. -/
import Derived.Test.YtbkdkiodkcpbeaaQuP
import Derived.Test.YtbkdkiodkcpbeaaQuN
namespace Go.Proofs.Ytbkdkiodkcpbeaa
open Go.RowKit
set_option linter.unusedVariables false

set_option maxRecDepth 100000 in
set_option maxHeartbeats 4000000 in
theorem goodS_k (l : List DCopy) (a : Option Addr) (n c : Nat) (S : Nat → Prop) (r s : Int) (w : World) (h : (kRow kCopy).is false w S [.slice a n c] l) (hcap : n ≤ c) :
    Calls Try.prog 18 #[.agg #[.slice a n c, .int .i64 r, .int .i64 s]] w (RGoodVoting (l, r, s) w) := by
  have HNL : Hid (n = l.length) := row_len h
  have hmx := row_max h
  have HFG : Hid (fGoodVoting (l, r, s) = (arC l n && (decide (MeetOk (allW l) r s) && decide (s ≤ newW l)))) := by
    show fGoodVoting (l, r, s) = _
    unfold fGoodVoting arC
    rw [HNL.out, Bool.and_assoc]
  have H : Hid ((kRow kCopy).is false w S [.slice a n c] l) := h
  clear h
  have fin : ∀ q : Bool, (arC l n && (decide (MeetOk (allW l) r s) && decide (s ≤ newW l))) = q → Hid (fGoodVoting (l, r, s) = q) := fun q h => by show _ = _; rw [HFG.out, h]
  have HNO : Hid (okTil l n = false → fGoodVoting (l, r, s) = false) := fun h => (fin false (by unfold arC; rw [h, Bool.and_false, Bool.false_and])).out
  clear HFG
  go_enter Try.func18, Try.ntmps18
  go_wp2_with fail
  obtain ⟨W0, hW0⟩ : ∃ W, W = w.alloc (.cells #[.slice a n c, .int .i64 r, .int .i64 s] 25) := ⟨_, rfl⟩
  have C : W0.cell? ⟨w.heap.size, 0, none⟩ = some (.slice a n c) ∧ W0.cell? ⟨w.heap.size, 1, none⟩ = some (.int .i64 r) ∧ W0.cell? ⟨w.heap.size, 2, none⟩ = some (.int .i64 s) := by rw [hW0]; simp [go_sem]
  have HB0 : Hid (Below w.heap.size w W0) := by show Below _ _ _; rw [hW0]; exact below_a1q _ _
  rw [← hW0]
  clear hW0
  obtain ⟨C0, C1, C2⟩ := C
  have hg0 : w.heap.size < W0.heap.size := World.block_lt_of_cell? _ _ C0
  go_loopw [13] (fun iv wr => ∃ k : Nat, k ≤ n ∧ iv = .int .i64 k ∧ Hid (okTil l k = true) ∧ Below W0.heap.size W0 wr) (fun iv _ => n - (intOf iv).toNat)
  case atStart => exact ⟨0, Nat.zero_le _, rfl, rfl, Below.refl _ _⟩
  case round =>
    obtain ⟨k, hk, rfl, HI, hB⟩ := hrel
    have zw := hB.size
    have D0 : wr.cell? ⟨w.heap.size, 0, none⟩ = some (.slice a n c) := (hB.cell (p := ⟨w.heap.size, 0, none⟩) hg0).trans C0
    have D1 : wr.cell? ⟨w.heap.size, 1, none⟩ = some (.int .i64 r) := (hB.cell (p := ⟨w.heap.size, 1, none⟩) hg0).trans C1
    have D2 : wr.cell? ⟨w.heap.size, 2, none⟩ = some (.int .i64 s) := (hB.cell (p := ⟨w.heap.size, 2, none⟩) hg0).trans C2
    have HBw : Hid (Below w.heap.size w wr) := HB0.out.trans (hB.mono HB0.out.size)
    by_cases hlt : k < n
    · obtain ⟨b, o, rfl, hb, j1, j2, j3, A0, A1, A2⟩ := rowC_at (Kd.below H.out HBw.out) hlt
      have HO : Hid (okTil l (k + 1) = (decide (CpOk (cp l k)) && !(l.take k).any (cpUn (cp l k)))) := by show (okTil l k && cpAt l k) = _; rw [HI.out, ← not_any]; rfl
      have HNO2 : Hid (okTil l (k + 1) = false → okTil l n = false) := fun h => by
        cases e : okTil l n with
        | false => rfl
        | true => rw [okTil_le e (show k + 1 ≤ n by omega)] at h; cases h
      obtain ⟨d, hd⟩ : ∃ d, d = cp l k := ⟨_, rfl⟩
      rw [← hd] at A0 A1 A2 HO j1 j2 j3
      clear hd
      obtain ⟨d1, d2, d3⟩ := d
      simp only at A0 A1 A2 j1 j2 j3
      have i0 : (0 : Int) ≤ (k : Int) := by omega
      have i1 : (k : Int) < (n : Int) := by omega
      have i2 : (k : Int) ≤ (c : Int) := by omega
      have hz0 : w.heap.size < wr.heap.size := by omega
      have HB1 : Hid (Below W0.heap.size W0 (wr.alloc (.cells #[.int .i64 d1, .int .i64 d2, .string d3] 40))) := hB.trans ((below_a1q _ _).mono zw)
      by_cases c1 : 1 ≤ d1 ∧ d1 ≤ 10
      · have H1 : Hid (decide (1 ≤ d1 ∧ d1 ≤ 10) = true) := decide_eq_true c1
        by_cases c2 : 0 ≤ d2 ∧ d2 ≤ 1000000
        · have H2 : Hid (decide (0 ≤ d2 ∧ d2 ≤ 1000000) = true) := decide_eq_true c2
          by_cases c3 : d3.size ≤ 12
          · have hq' : Hid (okTil l (k + 1) = !(l.take k).any (cpUn (d1, d2, d3))) := by show _ = _; rw [HO.out, decide_eq_true (show CpOk (d1, d2, d3) from ⟨c1.1, c1.2, c2.1, c2.2, c3⟩), Bool.true_and]
            have k3 : ¬ (12 : Int) < (d3.size : Int) := by omega
            obtain ⟨g1, g2⟩ := c1
            obtain ⟨g3, g4⟩ := c2
            go_wp2_with (first | (go_at_call 55; refine (in1_k _ _ _ _).mono ?_; rintro e w' ⟨rfl, rfl⟩; first | rw [H1.out] | rw [H2.out]))
            obtain ⟨W1, hW1⟩ : ∃ W, W = wr.alloc (.cells #[.int .i64 d1, .int .i64 d2, .string d3] 40) := ⟨_, rfl⟩
            have hC := alloc_cp wr (d1, d2, d3) 40
            simp only at hC
            rw [← hW1] at hC HB1 ⊢
            clear hW1
            have HBW : Hid (Below w.heap.size w W1) := HB0.out.trans (HB1.out.mono HB0.out.size)
            have HT1 : Hid ((kRow kCopy).is false W1 S [.slice (some ⟨b, o, none⟩) k c] (l.take k)) := row_take (Kd.below H.out HBW.out) hk
            have hlen : (l.take k).length = k := by rw [List.length_take, ← HNL.out]; omega
            have HLT : Hid ((l.take k).length = k) := hlen
            generalize l.take k = t at *
            clear A0 A1 A2 D0 D1 D2 H1 H2 hlen
            have C0' := hC.c0
            have C1' := hC.c1
            have C2' := hC.c2
            simp only at C0' C1' C2'
            have hgd := hC.lt
            obtain ⟨gd, hgd'⟩ : ∃ gd, gd = wr.heap.size := ⟨_, rfl⟩
            rw [← hgd'] at C0' C1' C2' hgd ⊢
            clear hgd' hC
            obtain ⟨V, rfl⟩ : ∃ V, V = wr := ⟨_, rfl⟩
            go_loopw [39] (fun jv wq => ∃ j : Nat, j ≤ k ∧ jv = .int .i64 j ∧ Hid ((t.take j).any (cpUn (d1, d2, d3)) = false) ∧ Below W1.heap.size W1 wq) (fun jv _ => k - (intOf jv).toNat)
            case atStart => exact ⟨0, Nat.zero_le _, rfl, rfl, Below.refl _ _⟩
            case round =>
              obtain ⟨j, hj, rfl, HJ, hq⟩ := hrel
              have zq := hq.size
              have E1 : wr.cell? ⟨gd, 1, none⟩ = some (.int .i64 d2) := (hq.cell (p := ⟨gd, 1, none⟩) hgd).trans C1'
              have E2 : wr.cell? ⟨gd, 2, none⟩ = some (.string d3) := (hq.cell (p := ⟨gd, 2, none⟩) hgd).trans C2'
              by_cases hlj : j < k
              · obtain ⟨b', o', e', hb', y1, y2, y3, B0, B1, B2⟩ := rowC_at (Kd.below HT1.out hq) hlj
                injection e' with e'; injection e' with eb eo; subst eb eo
                have HY : Hid (t[j]? = some (cp t j)) := cp_at (by rw [HLT.out]; exact hlj)
                obtain ⟨x, hx⟩ : ∃ x, x = cp t j := ⟨_, rfl⟩
                rw [← hx] at B0 B1 B2 HY y1 y2 y3
                clear hx
                obtain ⟨x1, x2, x3⟩ := x
                simp only at B0 B1 B2
                have i3 : (0 : Int) ≤ (j : Int) := by omega
                have i4 : (j : Int) < (k : Int) := by omega
                have hgq : gd < wr.heap.size := by omega
                have HQ2 : Hid (Below W1.heap.size W1 (wr.alloc (.cells #[.int .i64 x1, .int .i64 x2, .string x3] 40))) := hq.trans ((below_a1q _ _).mono zq)
                have HNX : Hid (cpUn (d1, d2, d3) (x1, x2, x3) = false → (t.take (j + 1)).any (cpUn (d1, d2, d3)) = false) := fun h => by
                  rw [List.take_add_one, HY.out, List.any_append, HJ.out]
                  simp [h]
                have HYS : Hid (cpUn (d1, d2, d3) (x1, x2, x3) = true → fGoodVoting (l, r, s) = false) := fun h => HNO.out (HNO2.out (by rw [hq'.out, List.any_eq_true.2 ⟨_, List.mem_of_getElem? HY.out, h⟩]; rfl))
                by_cases e1 : x2 = d2
                · by_cases e2 : x3 = d3
                  · have HN : Hid ((t.take (j + 1)).any (cpUn (d1, d2, d3)) = false) := HNX.out (decide_eq_false fun h => h.2 e2.symm)
                    have k2 : (x3.toList == d3.toList) = true := by rw [tl_eq]; exact decide_eq_true e2
                    subst e1 e2
                    clear HNX HYS
                    go_wp2
                    go_roundw
                    case rel => exact ⟨j + 1, by omega, by go_num, HN, HQ2.out⟩
                    case measure => simp [intOf]; omega
                  · have HF : Hid (fGoodVoting (l, r, s) = false) := HYS.out (decide_eq_true ⟨e1.symm, fun h => e2 h.symm⟩)
                    have k2 : (x3.toList == d3.toList) = false := by rw [tl_eq]; exact decide_eq_false e2
                    subst e1
                    clear HNX HYS
                    go_wp2
                    go_ret
                    unfold RGoodVoting
                    rw [HF.out]
                    exact ⟨rfl, HBW.out.trans (HQ2.out.mono HBW.out.size)⟩
                · have HN : Hid ((t.take (j + 1)).any (cpUn (d1, d2, d3)) = false) := HNX.out (decide_eq_false fun h => e1 h.1.symm)
                  have k2 : (x2 == d2) = false := by simpa using e1
                  clear HNX HYS
                  go_wp2
                  go_roundw
                  case rel => exact ⟨j + 1, by omega, by go_num, HN, HQ2.out⟩
                  case measure => simp [intOf]; omega
              · obtain rfl : j = k := by omega
                have i3 : ¬ (j : Int) < (j : Int) := by omega
                have HN : Hid (okTil l (j + 1) = true) := by
                  show _ = _
                  have := HJ.out
                  rw [List.take_of_length_le (by rw [HLT.out]; exact Nat.le_refl _)] at this
                  rw [hq'.out, this]
                  rfl
                have HQ3 : Hid (Below W0.heap.size W0 wr) := HB1.out.trans (hq.mono HB1.out.size)
                go_wp2
                go_roundw
                case rel => exact ⟨j + 1, by omega, by go_num, HN, HQ3.out⟩
                case measure => simp [intOf]; omega
          · have HF := HNO.out (HNO2.out (by rw [HO.out, decide_eq_false (show ¬ CpOk (d1, d2, d3) from fun h => c3 h.2.2.2.2)]; rfl))
            have HF2 : Hid (fGoodVoting (l, r, s) = false) := HF
            have k3 : (12 : Int) < (d3.size : Int) := by omega
            clear HF
            go_wp2_with (first | (go_at_call 55; refine (in1_k _ _ _ _).mono ?_; rintro e w' ⟨rfl, rfl⟩; first | rw [H1.out] | rw [H2.out]))
            go_ret
            unfold RGoodVoting
            rw [HF2.out]
            exact ⟨rfl, HB0.out.trans (HB1.out.mono HB0.out.size)⟩
        · have H2 : Hid (decide (0 ≤ d2 ∧ d2 ≤ 1000000) = false) := decide_eq_false c2
          have HF2 : Hid (fGoodVoting (l, r, s) = false) := HNO.out (HNO2.out (by rw [HO.out, decide_eq_false (show ¬ CpOk (d1, d2, d3) from fun h => c2 ⟨h.2.2.1, h.2.2.2.1⟩)]; rfl))
          go_wp2_with (first | (go_at_call 55; refine (in1_k _ _ _ _).mono ?_; rintro e w' ⟨rfl, rfl⟩; first | rw [H1.out] | rw [H2.out]))
          go_ret
          unfold RGoodVoting
          rw [HF2.out]
          exact ⟨rfl, HB0.out.trans (HB1.out.mono HB0.out.size)⟩
      · have H1 : Hid (decide (1 ≤ d1 ∧ d1 ≤ 10) = false) := decide_eq_false c1
        have HF2 : Hid (fGoodVoting (l, r, s) = false) := HNO.out (HNO2.out (by rw [HO.out, decide_eq_false (show ¬ CpOk (d1, d2, d3) from fun h => c1 ⟨h.1, h.2.1⟩)]; rfl))
        go_wp2_with (first | (go_at_call 55; refine (in1_k _ _ _ _).mono ?_; rintro e w' ⟨rfl, rfl⟩; rw [H1.out]))
        go_ret
        unfold RGoodVoting
        rw [HF2.out]
        exact ⟨rfl, HB0.out.trans (HB1.out.mono HB0.out.size)⟩
    · obtain rfl : k = n := by omega
      have i1 : ¬ (k : Int) < (k : Int) := by omega
      have HIN : ∀ q, decide (1 ≤ (k : Int) ∧ (k : Int) ≤ 7) = q → Hid (decide (1 ≤ (k : Int) ∧ (k : Int) ≤ 7) = q) := fun q h => h
      by_cases hr7 : 1 ≤ k ∧ k ≤ 7
      · have H1 := HIN true (decide_eq_true (by omega))
        have hA : arC l k = true := by unfold arC; rw [decide_eq_true hr7, HI.out]; rfl
        rw [hA] at fin
        have HAL : Hid (∀ W, Below wr.heap.size wr W → Calls Try.prog 56 #[.agg #[.slice a k c, .int .i64 r, .int .i64 s]] W fun e w' => e = .returned (.int .i64 (allW l)) ∧ Below W.heap.size W w') := fun W hb => all14_k l a k c S r s W (Kd.below (Kd.below H.out HBw.out) hb) hr7.2 HI.out
        have HNW : Hid (∀ W, Below wr.heap.size wr W → Calls Try.prog 57 #[.agg #[.slice a k c, .int .i64 r, .int .i64 s]] W fun e w' => e = .returned (.tuple #[.int .i64 (tp l k), .int .i64 (newW l)]) ∧ Below W.heap.size W w') := fun W hb => newest14_k l a k c S r s W (Kd.below (Kd.below H.out HBw.out) hb) hr7.2 HI.out
        obtain ⟨z0, z1⟩ := ws_bd (p := fun _ => true) HI.out
        rw [show ws (fun _ => true) l k = allW l by unfold allW; rw [← HNL.out]] at z0 z1
        generalize allW l = z at *
        generalize newW l = y at *
        have z2 : z ≤ 70 := by omega
        clear z1 HI hA
        go_wp2_with (first | (go_at_call 55; refine (in1_k _ _ _ _).mono ?_; rintro e w' ⟨rfl, rfl⟩; rw [H1.out]))
        refine (HAL.out _ (Below.refl _ _)).mono ?_
        rintro e w3 ⟨rfl, hb3⟩
        have E0 := (hb3.cell (World.block_lt_of_cell? _ _ D0)).trans D0
        have E1 := (hb3.cell (World.block_lt_of_cell? _ _ D1)).trans D1
        have E2 := (hb3.cell (World.block_lt_of_cell? _ _ D2)).trans D2
        have HB3 : Hid (Below w.heap.size w w3) := HBw.out.trans (hb3.mono HBw.out.size)
        by_cases c1 : 1 ≤ r ∧ r ≤ z
        · have K1 : Hid (decide (1 ≤ r ∧ r ≤ z) = true) := decide_eq_true c1
          by_cases c2 : 1 ≤ s ∧ s ≤ z
          · have K2 : Hid (decide (1 ≤ s ∧ s ≤ z) = true) := decide_eq_true c2
            have c1a := c1.1
            have c1b := c1.2
            have c2a := c2.1
            have c2b := c2.2
            by_cases c3 : r + s ≤ z
            · have HF : Hid (fGoodVoting (l, r, s) = false) := (fin false (by rw [decide_eq_false (show ¬ MeetOk z r s from fun h => by have := h.2.2.2.2.1; omega)]; rfl)).out
              go_wp2_with (first | (go_at_call 55; refine (in1_k _ _ _ _).mono ?_; rintro e w' ⟨rfl, rfl⟩; first | rw [K1.out] | rw [K2.out]))
              go_ret
              unfold RGoodVoting
              rw [HF.out]
              exact ⟨rfl, HB3.out⟩
            · by_cases c4 : 2 * s ≤ z
              · have HF : Hid (fGoodVoting (l, r, s) = false) := (fin false (by rw [decide_eq_false (show ¬ MeetOk z r s from fun h => by have := h.2.2.2.2.2; omega)]; rfl)).out
                go_wp2_with (first | (go_at_call 55; refine (in1_k _ _ _ _).mono ?_; rintro e w' ⟨rfl, rfl⟩; first | rw [K1.out] | rw [K2.out]))
                go_ret
                unfold RGoodVoting
                rw [HF.out]
                exact ⟨rfl, HB3.out⟩
              · have HF : Hid (fGoodVoting (l, r, s) = decide (s ≤ y)) := (fin (decide (s ≤ y)) (by rw [decide_eq_true (show MeetOk z r s from ⟨c1.1, c1.2, c2.1, c2.2, by omega, by omega⟩)]; rfl)).out
                go_wp2_with (first | (go_at_call 55; refine (in1_k _ _ _ _).mono ?_; rintro e w' ⟨rfl, rfl⟩; first | rw [K1.out] | rw [K2.out]))
                refine (HNW.out _ hb3).mono ?_
                rintro e w5 ⟨rfl, hb5⟩
                have F2 := (hb5.cell (World.block_lt_of_cell? _ _ E2)).trans E2
                have HB5 : Hid (Below w.heap.size w w5) := HB3.out.trans (hb5.mono HB3.out.size)
                go_wp2
                go_ret
                unfold RGoodVoting
                rw [HF.out]
                exact ⟨rfl, HB5.out⟩
          · have K2 : Hid (decide (1 ≤ s ∧ s ≤ z) = false) := decide_eq_false c2
            have HF : Hid (fGoodVoting (l, r, s) = false) := (fin false (by rw [decide_eq_false (show ¬ MeetOk z r s from fun h => c2 ⟨h.2.2.1, h.2.2.2.1⟩)]; rfl)).out
            go_wp2_with (first | (go_at_call 55; refine (in1_k _ _ _ _).mono ?_; rintro e w' ⟨rfl, rfl⟩; first | rw [K1.out] | rw [K2.out]))
            go_ret
            unfold RGoodVoting
            rw [HF.out]
            exact ⟨rfl, HB3.out⟩
        · have K1 : Hid (decide (1 ≤ r ∧ r ≤ z) = false) := decide_eq_false c1
          have HF : Hid (fGoodVoting (l, r, s) = false) := (fin false (by rw [decide_eq_false (show ¬ MeetOk z r s from fun h => c1 ⟨h.1, h.2.1⟩)]; rfl)).out
          go_wp2_with (first | (go_at_call 55; refine (in1_k _ _ _ _).mono ?_; rintro e w' ⟨rfl, rfl⟩; rw [K1.out]))
          go_ret
          unfold RGoodVoting
          rw [HF.out]
          exact ⟨rfl, HB3.out⟩
      · have H1 := HIN false (decide_eq_false (by omega))
        have HF : Hid (fGoodVoting (l, r, s) = false) := (fin false (by unfold arC; rw [decide_eq_false hr7]; rfl)).out
        go_wp2_with (first | (go_at_call 55; refine (in1_k _ _ _ _).mono ?_; rintro e w' ⟨rfl, rfl⟩; rw [H1.out]))
        go_ret
        unfold RGoodVoting
        rw [HF.out]
        exact ⟨rfl, HBw.out⟩
theorem specGoodVoting_k (x0 : DVoting) (C0 : List Value) (S0 : Nat → Prop) (w : World) (h0 : kVoting.is true w S0 C0 x0) (z0 : kVoting.sz x0 ≤ 2 ^ 20) :
    Calls Try.prog 18 #[.agg C0.toArray] w (RGoodVoting x0 w) := by
  obtain ⟨a, n, c, T, rfl, hn, hr, _, _, _⟩ := vot_open h0
  obtain ⟨l, r, s⟩ := x0
  exact goodS_k l a n c T r s w ((kRow kCopy).read hr) (row_cap hr)
end Go.Proofs.Ytbkdkiodkcpbeaa
