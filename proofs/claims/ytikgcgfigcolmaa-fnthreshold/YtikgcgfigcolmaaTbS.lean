/- The best of several lists, found ahead of their ends: the specification's. No condition but that they fit in memory. -/
import Derived.Test.YtikgcgfigcolmaaTbI
import Derived.Test.YtikgcgfigcolmaaSbS
namespace Go.Proofs.Ytikgcgfigcolmaa
open Go.RowKit
set_option linter.unusedVariables false

theorem outD_len (ls : List DRanking) (d : Nat) (h5 : ls.length ≤ 5) (hd : d ≤ 60) : (outD ls d).length ≤ 300 := by
  rw [← (metD_perm ls d).length_eq]
  exact metD_len ls d h5 hd
theorem topD_is {ls : List DRanking} (hg : fGoodRankings ls = true) {t : Nat} (ht : 1 ≤ t) : topI ls t 61 0 = topD ls t 61 0 :=
  top_same ls t ht 60 0 (by show ¬ t ≤ cntA [] 0; rw [cntA]; omega) (by rw [Nat.zero_add]; exact atDp_none (good_len hg).2)
theorem RTopBest.zero {x0 : List DRanking} {w w' : World} (h : fGoodRankings x0 = true) (hb : Below w.heap.size w w') : RTopBest x0 0 w (.returned (.tuple #[.slice none 0 0, .int .i64 0, .bool true])) w' := by
  have e : topI x0 0 61 0 = 0 := by rw [topI, if_pos (Nat.zero_le _)]
  exact RTopBest.yes (t := 0) h (by omega) e (B := w.heap.size) (row_nil _ _ _ _ _ _) (Nat.le_refl _) hb
theorem mapFst_append (a : List DScored) (x : DScored) : (a ++ [x]).map (·.1) = a.map (·.1) ++ [x.1] := by simp

set_option maxRecDepth 100000 in
set_option maxHeartbeats 8000000 in
theorem specTopBest_k (x0 : List DRanking) (a0 : Option Addr) (n0 c0 : Nat) (S0 : Nat → Prop) (x1 : Int) (w : World) (h0 : (kRow kRanking).is true w S0 [.slice a0 n0 c0] x0) (z0 : (kRow kRanking).sz x0 ≤ 2 ^ 20) (h1 : IntOk x1) :
    Calls Try.prog 25 #[.slice a0 n0 c0, .int .i64 x1] w (RTopBest x0 x1 w) := by
  have H : Hid ((kRow kRanking).is true w S0 [.slice a0 n0 c0] x0) := h0
  have HZ : Hid ((kRow kRanking).sz x0 ≤ 2 ^ 20) := z0
  have HN : Hid (n0 = x0.length) := row_len h0
  clear h0 z0 h1
  go_enter Try.func25, Try.ntmps25
  go_wp2_with fail
  refine (specGoodRankings_k x0 a0 n0 c0 S0 _ H.out HZ.out).mono ?_
  rintro e w1 ⟨rfl, hb1⟩
  have HB1 : Hid (Below w.heap.size w w1) := hb1
  clear hb1
  cases hg : fGoodRankings x0 with
  | false =>
    have HNO : Hid ((fGoodRankings x0 && decide (0 ≤ x1 ∧ x1 ≤ 60)) = false) := by show _ = _; rw [hg]; rfl
    clear hg
    go_wp2
    refine bodyPost_ret (v := .tuple #[.slice none 0 0, .int .i64 0, .bool false]) (by simp [results, Try.results25, go_sem]) rfl ?_
    exact RTopBest.no HNO.out HB1.out
  | true =>
    have HG : Hid (fGoodRankings x0 = true) := hg
    clear hg
    go_wp2_with fail
    refine (l1In_k x1 0 60 _).mono ?_
    rintro e w2 ⟨rfl, rfl⟩
    by_cases hk : 0 ≤ x1 ∧ x1 ≤ 60
    case neg =>
      rw [decide_eq_false hk]
      have HNO : Hid ((fGoodRankings x0 && decide (0 ≤ x1 ∧ x1 ≤ 60)) = false) := by show _ = _; rw [decide_eq_false hk, Bool.and_false]
      clear hk
      go_wp2
      refine bodyPost_ret (v := .tuple #[.slice none 0 0, .int .i64 0, .bool false]) (by simp [results, Try.results25, go_sem]) rfl ?_
      exact RTopBest.no HNO.out HB1.out
    rw [decide_eq_true hk]
    by_cases hk0 : x1 = 0
    · subst hk0
      clear hk
      go_wp2
      refine bodyPost_ret (v := .tuple #[.slice none 0 0, .int .i64 0, .bool true]) (by simp [results, Try.results25, go_sem]) rfl ?_
      exact RTopBest.zero HG.out HB1.out
    · obtain ⟨t, rfl⟩ : ∃ t : Nat, x1 = t := ⟨x1.toNat, by omega⟩
      have ht : t ≤ 60 := by omega
      have ht1 : 1 ≤ t := by omega
      have hk0' : ((t : Int) == 0) = false := by simpa using hk0
      have h5 : n0 ≤ 5 := by rw [HN.out]; exact (good_len HG.out).1
      have H5 : Hid (x0.length ≤ 5) := (good_len HG.out).1
      have z2 : w.heap.size ≤ w2.heap.size := HB1.out.size
      have HR2 : Hid ((kRow kRanking).is false w2 S0 [.slice a0 n0 c0] x0) := Kd.below (Kd.read _ H.out) HB1.out
      have HTD : Hid (topI x0 t 61 0 = topD x0 t 61 0) := topD_is HG.out ht1
      clear hk hk0
      go_wp2_with fail
      go_loopw [7, 8] (fun sv dv wr => ∃ (d : Nat) (oa : Option Addr) (om oc : Nat), d ≤ 60 ∧ dv = .int .i64 d ∧ sv = .slice oa om oc ∧ Hid (topD x0 t (61 - d) d = topI x0 t 61 0) ∧ Hid ((kRow kScored).is true wr (fun q => w2.heap.size ≤ q) [.slice oa om oc] (outD x0 d)) ∧ Below w2.heap.size w2 wr) (fun _ dv _ => 61 - (intOf dv).toNat)
      case atStart => exact ⟨0, none, 0, 0, by omega, rfl, rfl, HTD.out.symm, row_nil _ _ _ _ _ _, Below.refl _ _⟩
      case round =>
        obtain ⟨d, oa, om, oc, hd, rfl, rfl, HT, HO, hnx⟩ := hrel
        have HT1 : Hid (topD x0 t (60 - d + 1) d = topI x0 t 61 0) := by have := HT.out; rw [show 61 - d = 60 - d + 1 by omega] at this; exact this
        have HBR : Hid (Below w2.heap.size w2 wr) := hnx
        obtain ⟨W1, hW1⟩ : ∃ W1, W1 = wr := ⟨_, rfl⟩
        have HW1 : Hid (W1 = wr) := hW1
        rw [← hW1] at HO HBR
        have z1 : w2.heap.size ≤ W1.heap.size := HBR.out.size
        have HOL : Hid ((outD x0 d).length ≤ 300) := outD_len x0 d H5.out hd
        clear HT hnx hW1
        go_wp2_with fail
        rw [← HW1.out]
        clear HW1
        go_loopw [7, 9, 10, 28] (fun sv uv bv iv wq => ∃ (k : Nat) (pa : Option Addr) (pm pc : Nat) (P : List DScored) (u : Int) (q : Bool), k ≤ n0 ∧ iv = .int .i64 k ∧ sv = .slice pa pm pc ∧ uv = .int .i64 u ∧ bv = .bool q ∧ Hid (P = putIds (sumL x0) (outD x0 d) ((atDp (x0.take k) d).map (·.1))) ∧ Hid (u = sumSc (atDp (x0.take k) d)) ∧ Hid (q = !decide (atDp (x0.take k) d = [])) ∧ (0 ≤ u ∧ u ≤ 1000000 * k) ∧ Hid (P.length ≤ 300 + k) ∧ Hid ((kRow kScored).is true wq (fun q => w2.heap.size ≤ q) [.slice pa pm pc] P) ∧ Below W1.heap.size W1 wq) (fun _ _ _ iv _ => n0 - (intOf iv).toNat)
        case atStart => exact ⟨0, oa, om, oc, outD x0 d, 0, false, Nat.zero_le _, rfl, rfl, rfl, rfl, rfl, rfl, by show _ = _; rw [decide_eq_true (by simp [atDp])]; rfl, by omega, HOL.out, HO, Below.refl _ _⟩
        case round =>
          obtain ⟨k, pa, pm, pc, P, u, q, hk, rfl, rfl, rfl, rfl, HJ, HU, HQ, hu, HPL, HP, hnq⟩ := hrel
          obtain ⟨u1, u2⟩ := hu
          have HBQ : Hid (Below w2.heap.size w2 wr) := HBR.out.trans (hnq.mono z1)
          have zq := hnq.size
          by_cases hlt : k < n0
          · obtain ⟨x, hx⟩ : ∃ x, x0[k]? = some x := ⟨_, List.getElem?_eq_getElem (by rw [← HN.out]; exact hlt)⟩
            obtain ⟨b, off, B, C, rfl, hb, _, hi, _, hc⟩ := row_at (Kd.below HR2.out HBQ.out) hx
            obtain ⟨la, lc, T, rfl, hm, hl, _⟩ := kRanking_open hi
            have A0 : wr.cell? ⟨b, off + k, none⟩ = some (.slice la x.length lc) := cell1 (hc 0 _ rfl).1
            have i0 : (0 : Int) ≤ (k : Int) := by omega
            have i1 : (k : Int) < (n0 : Int) := by omega
            have hxl : x ∈ x0 := List.mem_of_getElem? hx
            have HAT : Hid (atDp (x0.take (k + 1)) d = atDp (x0.take k) d ++ (match x[d]? with | none => [] | some y => [y])) := atDp_take hx
            have HXB : Hid (∀ y ∈ x, (1 ≤ y.2 ∧ y.2 ≤ 1000000) ∧ (0 ≤ y.1 ∧ y.1 ≤ 1000)) := good_sc HG.out x hxl
            obtain ⟨W2, hW2⟩ : ∃ W2, W2 = wr.alloc (.cells #[.slice la x.length lc] 58) := ⟨_, rfl⟩
            have B2 : Below wr.heap.size wr W2 := by rw [hW2]; exact below_a1r _ _
            have HL : Hid ((kRow kScored).is false W2 T [.slice la x.length lc] x) := Kd.below hl B2
            have X2 : W2.cell? ⟨wr.heap.size, 0, none⟩ = some (.slice la x.length lc) := by rw [hW2]; simp [go_sem]
            have HB2 : Hid (Below W1.heap.size W1 W2) := hnq.trans (B2.mono hnq.size)
            have HP2 : Hid ((kRow kScored).is true W2 (fun q => w2.heap.size ≤ q) [.slice pa pm pc] P) := Kd.below HP.out B2
            obtain ⟨m, hm'⟩ : ∃ m, m = x.length := ⟨_, rfl⟩
            have HM : Hid (m = x.length) := hm'
            have hm2 : m ≤ 9223372036854775807 := by rw [hm']; exact hm
            rw [← hm'] at A0 HL hW2 X2
            clear hc hi hx hl hnq B2 hm' hm hxl HP
            by_cases hdm : d < m
            · obtain ⟨⟨i, s⟩, hy⟩ : ∃ y, x[d]? = some y := ⟨_, List.getElem?_eq_getElem (by rw [← HM.out]; exact hdm)⟩
              obtain ⟨b3, off3, B3, C3, rfl, hb3, _, hi3, _, hc3⟩ := row_at HL.out hy
              obtain ⟨rfl, g0, g1⟩ := kScored_open hi3
              have D0 : W2.cell? ⟨b3, off3 + d * 2, none⟩ = some (.int .i64 i) := (hc3 0 _ rfl).1
              have D1 : W2.cell? ⟨b3, off3 + d * 2 + 1, none⟩ = some (.int .i64 s) := (hc3 1 _ rfl).1
              have hib := HXB.out (i, s) (List.mem_of_getElem? hy)
              simp only at hib
              obtain ⟨⟨s1, s2⟩, hib2⟩ := hib
              have HAT2 : Hid (atDp (x0.take (k + 1)) d = atDp (x0.take k) d ++ [(i, s)]) := by show _ = _; rw [HAT.out, hy]
              obtain ⟨W3, hW3⟩ : ∃ W3, W3 = W2.alloc (.cells #[.int .i64 i, .int .i64 s] 60) := ⟨_, rfl⟩
              have B3' : Below W2.heap.size W2 W3 := by rw [hW3]; exact below_a1r _ _
              have E0 : W3.cell? ⟨W2.heap.size, 0, none⟩ = some (.int .i64 i) := by rw [hW3]; simp [go_sem]
              have E1 : W3.cell? ⟨W2.heap.size, 1, none⟩ = some (.int .i64 s) := by rw [hW3]; simp [go_sem]
              have hzW : W2.heap.size = wr.heap.size + 1 := by rw [hW2]; simp
              rw [hzW] at E0 E1
              clear hzW
              have HBJ : Hid (Below W1.heap.size W1 W3) := HB2.out.trans (B3'.mono HB2.out.size)
              have HB3 : Hid (Below w2.heap.size w2 W3) := HBR.out.trans (HBJ.out.mono z1)
              obtain ⟨sm, hsm⟩ : ∃ sm, sm = sumL x0 i := ⟨_, rfl⟩
              have HSM : Hid (sm = sumL x0 i) := hsm
              have HC1 : Hid (Calls Try.prog 68 #[.slice (some ⟨b, off, none⟩) n0 c0, .int .i64 i] W3.drew fun e w' => e = .returned (.int .i64 sm) ∧ Below W3.drew.heap.size W3.drew w') := by rw [hsm]; exact l11Sum_k x0 _ n0 c0 S0 i _ (Kd.below HR2.out HB3.out.drew) (good_sumOk HG.out)
              have HC2 : Hid (∀ W, Below W3.heap.size W3 W → Calls Try.prog 67 #[.slice pa pm pc, .agg #[.int .i64 i, .int .i64 sm]] W (RPut P (i, sm) (fun q => w2.heap.size ≤ q) W)) := fun W hW => l11Put_k P pa pm pc _ i sm W (Kd.below HP2.out (B3'.trans (hW.mono B3'.size))) (by have := HPL.out; omega) (by unfold IntOk; omega) (by rw [hsm]; exact sum_ok HG.out i)
              have HDR : Hid (Below W3.heap.size W3 W3.drew) := (Below.refl _ _).drew
              have z3 : w2.heap.size ≤ W3.heap.size := HB3.out.size
              have dm : (d : Int) < (m : Int) := by omega
              have d0 : (0 : Int) ≤ (d : Int) := by omega
              have D0' := D0
              have D1' := D1
              rw [hW2] at D0' D1'
              clear hc3 hi3 hy B3' hsm
              go_wp2_with fail
              rw [← hW2]
              rw [← hW3]
              clear hW2 hW3 D0' D1'
              go_region_with (first
                | (go_at_call 68; go_fit HC1.out; rintro e w5 ⟨rfl, hb5⟩; have HB5 : Hid (Below W3.heap.size W3 w5) := HDR.out.trans hb5; have E5 := cell_later HB5.out E0; clear hb5)
                | (go_at_call 67; go_fit (HC2.out _ HB5.out); rintro e w6 ⟨a6, n6, c6, rfl, hr6, hb6⟩))
              all_goals
                have HR6 : Hid ((kRow kScored).is true w6 (fun q => w2.heap.size ≤ q) [.slice a6 n6 c6] (putL P (i, sm))) := Kd.mono hr6 (fun q hq => by rcases hq with h | h; exact h; have := HB5.out.size; omega)
                have HB6 : Hid (Below W1.heap.size W1 w6) := HBJ.out.trans ((HB5.out.trans (hb6.mono HB5.out.size)).mono HBJ.out.size)
                clear hr6 hb6
                go_wp2
                go_roundw
                case rel => exact ⟨k + 1, a6, n6, c6, putL P (i, sm), u + s, true, by omega, by go_num, rfl, by first | rfl | go_num, rfl, by show _ = _; rw [HAT2.out, mapFst_append, putIds_append, ← HJ.out, HSM.out]; rfl, by show _ = _; rw [HAT2.out, sumSc_append, ← HU.out]; simp [sumSc], by show _ = _; rw [HAT2.out, decide_eq_false (by simp)]; rfl, by omega, by have := HPL.out; have h2 := putL_length P (i, sm); show _ ≤ _; omega, HR6, HB6.out⟩
                case measure => simp [intOf]; omega
            · have dm : ¬ (d : Int) < (m : Int) := by omega
              have HAT2 : Hid (atDp (x0.take (k + 1)) d = atDp (x0.take k) d) := by show _ = _; rw [HAT.out, List.getElem?_eq_none (by rw [← HM.out]; omega)]; simp
              go_wp2
              rw [← hW2]
              clear hW2
              go_roundw
              case rel => exact ⟨k + 1, pa, pm, pc, P, u, q, by omega, by go_num, rfl, rfl, rfl, by show _ = _; rw [HAT2.out]; exact HJ.out, by show _ = _; rw [HAT2.out]; exact HU.out, by show _ = _; rw [HAT2.out]; exact HQ.out, by omega, by have := HPL.out; show _ ≤ _; omega, HP2, HB2.out⟩
              case measure => simp [intOf]; omega
          · have i1 : ¬ (k : Int) < (n0 : Int) := by omega
            have hat : atDp (x0.take k) d = atDp x0 d := by rw [List.take_of_length_le (by rw [← HN.out]; omega)]
            have HBF : Hid (Below w.heap.size w wr) := HB1.out.trans (HBQ.out.mono z2)
            have HBX : Hid (Below w2.heap.size w2 wr) := HBQ.out
            have zf : w2.heap.size ≤ wr.heap.size := HBQ.out.size
            clear hnq
            by_cases hemp : atDp x0 d = []
            · have HEND : Hid (topI x0 t 61 0 = d) := by have := HT1.out; rw [topD, if_pos hemp] at this; exact this.symm
              have HPD : Hid (P = outD x0 d) := by show _ = _; rw [HJ.out, hat, hemp]; rfl
              have hq : q = false := by rw [HQ.out, hat, decide_eq_true hemp]; rfl
              subst hq
              clear hemp hat HJ HU HQ HT1
              go_wp2_with fail
              refine (l11First_k P pa pm pc _ t _ HP.out (by have := HPL.out; omega) ht).mono ?_
              rintro e w7 ⟨a7, n7, c7, rfl, hr7, hb7⟩
              have HR7 : Hid ((kRow kScored).is true w7 (fun q => wr.heap.size ≤ q) [.slice a7 n7 c7] ((outD x0 d).take t)) := by rw [← HPD.out]; exact hr7
              have HB7 : Hid (Below w.heap.size w w7) := HBF.out.trans (hb7.mono HBF.out.size)
              clear hr7 hb7
              go_wp2
              refine bodyPost_ret (v := .tuple #[.slice a7 n7 c7, .int .i64 d, .bool true]) (by simp [results, Try.results25, go_sem]) rfl ?_
              exact RTopBest.yes HG.out ht HEND.out HR7.out HBF.out.size HB7.out
            · have HPD : Hid (P = outD x0 (d + 1)) := by show _ = _; rw [HJ.out, hat, outD_next]; rfl
              have HUD : Hid (u = thrD x0 d) := by show _ = _; rw [HU.out, hat]; rfl
              have hq : q = true := by rw [HQ.out, hat, decide_eq_false hemp]; rfl
              have hd60 : d < 60 := by
                rcases Nat.lt_or_ge d 60 with h | h
                · exact h
                · exact absurd (atDp_none fun r hr => Nat.le_trans ((good_len HG.out).2 r hr) h) hemp
              have HT2 : Hid ((if reach P t u = true then d + 1 else topD x0 t (60 - d) (d + 1)) = topI x0 t 61 0) := by have := HT1.out; rw [topD, if_neg hemp] at this; show _ = _; rw [HPD.out, HUD.out]; exact this
              subst hq
              have hpm : pm = P.length := row_len HP.out
              have HPM : Hid (pm = P.length) := hpm
              have pm1 : pm ≤ 1000 := by have := HPL.out; omega
              clear hemp hat HJ HU HQ HT1 hpm
              by_cases hlen : t ≤ pm
              · obtain ⟨⟨i, s⟩, hy⟩ : ∃ y, P[t - 1]? = some y := ⟨_, List.getElem?_eq_getElem (by rw [← HPM.out]; omega)⟩
                obtain ⟨b3, off3, B3, C3, rfl, hb3, _, hi3, _, hc3⟩ := row_at HP.out hy
                obtain ⟨rfl, g0, g1⟩ := kScored_open hi3
                have D1 : wr.cell? ⟨b3, off3 + (t - 1) * 2 + 1, none⟩ = some (.int .i64 s) := ((hc3 1 _ rfl).1)
                have HRE : Hid (reach P t u = decide (u + 1 ≤ s)) := by show _ = _; unfold reach; rw [hy]
                have l1 : (t : Int) ≤ (pm : Int) := by omega
                obtain ⟨v, hv⟩ : ∃ v, v = t - 1 := ⟨_, rfl⟩
                rw [← hv] at D1
                have l2 : (t : Int) - 1 = (v : Int) := by omega
                have l3 : (v : Int) < (pm : Int) := by omega
                have l4 : (0 : Int) ≤ (v : Int) := by omega
                clear hc3 hi3 hy hv hlen
                by_cases hsc : u + 1 ≤ s
                · have HEND : Hid (topI x0 t 61 0 = d + 1) := by have := HT2.out; rw [HRE.out, decide_eq_true hsc, if_pos rfl] at this; exact this.symm
                  go_wp2_with fail
                  refine (l11First_k P _ pm pc _ t _ HP.out (by have := HPL.out; omega) ht).mono ?_
                  rintro e w7 ⟨a7, n7, c7, rfl, hr7, hb7⟩
                  have HR7 : Hid ((kRow kScored).is true w7 (fun q => wr.heap.size ≤ q) [.slice a7 n7 c7] ((outD x0 (d + 1)).take t)) := by rw [← HPD.out]; exact hr7
                  have HB7 : Hid (Below w.heap.size w w7) := HBF.out.trans (hb7.mono HBF.out.size)
                  clear hr7 hb7
                  go_wp2
                  refine bodyPost_ret (v := .tuple #[.slice a7 n7 c7, .int .i64 ((d + 1 : Nat) : Int), .bool true]) (by simp [results, Try.results25, go_sem]) rfl ?_
                  exact RTopBest.yes HG.out ht HEND.out HR7.out HBF.out.size HB7.out
                · have HT3 : Hid (topD x0 t (61 - (d + 1)) (d + 1) = topI x0 t 61 0) := by have := HT2.out; rw [HRE.out, decide_eq_false hsc, if_neg Bool.false_ne_true] at this; show _ = _; rw [show 61 - (d + 1) = 60 - d by omega]; exact this
                  have HPO : Hid ((kRow kScored).is true wr (fun q => w2.heap.size ≤ q) [.slice (some ⟨b3, off3, none⟩) pm pc] (outD x0 (d + 1))) := by rw [← HPD.out]; exact HP.out
                  go_wp2
                  go_roundw
                  case rel => exact ⟨d + 1, _, pm, pc, by omega, by go_num, rfl, HT3, HPO, HBX.out⟩
                  case measure => simp [intOf]; omega
              · have l1 : ¬ (t : Int) ≤ (pm : Int) := by omega
                have HT3 : Hid (topD x0 t (61 - (d + 1)) (d + 1) = topI x0 t 61 0) := by
                  have := HT2.out
                  rw [show reach P t u = false by unfold reach; rw [List.getElem?_eq_none (by rw [← HPM.out]; omega)], if_neg Bool.false_ne_true] at this
                  show _ = _
                  rw [show 61 - (d + 1) = 60 - d by omega]
                  exact this
                have HPO : Hid ((kRow kScored).is true wr (fun q => w2.heap.size ≤ q) [.slice pa pm pc] (outD x0 (d + 1))) := by rw [← HPD.out]; exact HP.out
                go_wp2
                go_roundw
                case rel => exact ⟨d + 1, pa, pm, pc, by omega, by go_num, rfl, HT3, HPO, HBX.out⟩
                case measure => simp [intOf]; omega
end Go.Proofs.Ytikgcgfigcolmaa
