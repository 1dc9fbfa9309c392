/- Rankings that are good: the specification's. No condition but that they fit in memory. -/
import Derived.Test.YtikgcgfigcolmaaRkG
namespace Go.Proofs.Ytikgcgfigcolmaa
open Go.RowKit
set_option linter.unusedVariables false

theorem noId_drop {l : List DScored} {k : Nat} {x : DScored} (h : l[k]? = some x) (i : Int) : noId (l.drop k) i = (!decide (x.1 = i) && noId (l.drop (k + 1)) i) := by
  have hk := (List.getElem?_eq_some_iff.1 h)
  rw [List.drop_eq_getElem_cons hk.1, hk.2, noId]

set_option maxRecDepth 100000 in
set_option maxHeartbeats 4000000 in
theorem specGoodRankings_k (x0 : List DRanking) (a0 : Option Addr) (n0 c0 : Nat) (S0 : Nat → Prop) (w : World) (h0 : (kRow kRanking).is true w S0 [.slice a0 n0 c0] x0) (z0 : (kRow kRanking).sz x0 ≤ 2 ^ 20) :
    Calls Try.prog 29 #[.slice a0 n0 c0] w (RGoodRankings x0 w) := by
  have hnl := row_len h0
  have hmx : n0 ≤ 9223372036854775807 := by obtain ⟨_, _, _, h, _⟩ := row_form h0; rw [hnl]; exact h
  have HNL : Hid (n0 = x0.length) := hnl
  have H : Hid ((kRow kRanking).is true w S0 [.slice a0 n0 c0] x0) := h0
  obtain ⟨q, hq⟩ : ∃ q, q = fGoodRankings x0 := ⟨_, rfl⟩
  have HQ : Hid (((x0.drop 0).all rkGood && decide (x0.length ≤ 5)) = q) := hq.symm
  unfold RGoodRankings
  rw [← hq]
  clear h0 hnl hq z0
  go_enter Try.func29, Try.ntmps29
  go_wp2_with fail
  go_loopw [11] (fun iv wr => ∃ (k : Nat), k ≤ n0 ∧ iv = .int .i64 k ∧ Hid (((x0.drop k).all rkGood && decide (x0.length ≤ 5)) = q) ∧ Below w.heap.size w wr) (fun iv _ => n0 - (intOf iv).toNat)
  case atStart => exact ⟨0, Nat.zero_le _, rfl, HQ, Below.refl _ _⟩
  case round =>
    obtain ⟨k, hk, rfl, HI, hnx⟩ := hrel
    have zw := hnx.size
    by_cases hlt : k < n0
    · obtain ⟨x, hx⟩ : ∃ x, x0[k]? = some x := ⟨_, List.getElem?_eq_getElem (by rw [← HNL.out]; exact hlt)⟩
      obtain ⟨b, off, B, C, rfl, hb, _, hi, _, hc⟩ := row_at (Kd.below H.out hnx) hx
      obtain ⟨la, lc, T, rfl, hm, hl, _⟩ := kRanking_open hi
      have A0 : wr.cell? ⟨b, off + k, none⟩ = some (.slice la x.length lc) := cell1 (hc 0 _ rfl).1
      have hnc : x.length ≤ lc := by obtain ⟨_, _, e, _, h⟩ := row_form hl; simp only [List.cons.injEq, Value.slice.injEq, and_true] at e; have := h rfl; omega
      have i0 : (0 : Int) ≤ (k : Int) := by omega
      have i1 : (k : Int) < (n0 : Int) := by omega
      obtain ⟨R, hR⟩ : ∃ R, R = ((x0.drop (k + 1)).all rkGood && decide (x0.length ≤ 5)) := ⟨_, rfl⟩
      have HI1 : Hid ((rkOk (x.take 0) (x.drop 0) && (decide (x.length ≤ 60) && R)) = q) := by
        have := HI.out
        rw [all_drop hx, Bool.and_assoc, ← hR] at this
        unfold rkGood at this
        rw [Bool.and_assoc] at this
        exact this
      have HR : Hid (R = ((x0.drop (k + 1)).all rkGood && decide (x0.length ≤ 5))) := hR
      obtain ⟨W1, hW1⟩ : ∃ W1, W1 = wr.alloc (.cells #[.slice la x.length lc] 58) := ⟨_, rfl⟩
      have B1 : Below wr.heap.size wr W1 := by rw [hW1]; exact below_a1r _ _
      have HL : Hid ((kRow kScored).is false W1 T [.slice la x.length lc] x) := Kd.below (Kd.read _ hl) B1
      have HB1 : Hid (Below w.heap.size w W1) := hnx.trans (B1.mono hnx.size)
      have X1 : W1.cell? ⟨wr.heap.size, 0, none⟩ = some (.slice la x.length lc) := by rw [hW1]; simp [go_sem]
      clear hc hi hx HI hl hnx hR B1
      obtain ⟨m, hm'⟩ : ∃ m, m = x.length := ⟨_, rfl⟩
      have HM : Hid (m = x.length) := hm'
      rw [← hm'] at A0 HL X1 hW1 hm hnc
      have HI2 : Hid ((rkOk (x.take 0) (x.drop 0) && (decide (m ≤ 60) && R)) = q) := by show _ = _; rw [hm']; exact HI1.out
      clear hm' HI1
      have hm2 : m ≤ 9223372036854775807 := hm
      go_wp2_with fail
      rw [← hW1]
      clear hW1
      go_loopw [18] (fun jv wq => ∃ (j : Nat), j ≤ m ∧ jv = .int .i64 j ∧ Hid ((rkOk (x.take j) (x.drop j) && (decide (m ≤ 60) && R)) = q) ∧ Below W1.heap.size W1 wq) (fun jv _ => m - (intOf jv).toNat)
      case atStart => exact ⟨0, Nat.zero_le _, rfl, HI2, Below.refl _ _⟩
      case round =>
        obtain ⟨j, hj, rfl, HJ, hnq⟩ := hrel
        have HBQ : Hid (Below w.heap.size w wr) := HB1.out.trans (hnq.mono HB1.out.size)
        have Y1 := cell_later hnq X1
        have zq := hnq.size
        by_cases hjl : j < m
        · obtain ⟨⟨i, s⟩, hy⟩ : ∃ y, x[j]? = some y := ⟨_, List.getElem?_eq_getElem (by rw [← HM.out]; exact hjl)⟩
          obtain ⟨b2, off2, B2, C2, rfl, hb2, _, hi2, _, hc2⟩ := row_at (Kd.below HL.out hnq) hy
          obtain ⟨rfl, g0, g1⟩ := kScored_open hi2
          have D0 : wr.cell? ⟨b2, off2 + j * 2, none⟩ = some (.int .i64 i) := (hc2 0 _ rfl).1
          have D1 : wr.cell? ⟨b2, off2 + j * 2 + 1, none⟩ = some (.int .i64 s) := (hc2 1 _ rfl).1
          have j0 : (0 : Int) ≤ (j : Int) := by omega
          have j1 : (j : Int) < (m : Int) := by omega
          have HY : Hid (x[j]? = some (i, s)) := hy
          obtain ⟨R2, hR2⟩ : ∃ R2, R2 = (rkOk (x.take (j + 1)) (x.drop (j + 1)) && (decide (m ≤ 60) && R)) := ⟨_, rfl⟩
          have HR2 : Hid (R2 = (rkOk (x.take (j + 1)) (x.drop (j + 1)) && (decide (m ≤ 60) && R))) := hR2
          have HJ1 : Hid ((scOk (i, s) && (lastA (x.take j) (i, s) && (noId (x.take j) i && R2))) = q) := by
            have := HJ.out
            rw [rk_drop hy] at this
            simp only [Bool.and_assoc] at this
            show _ = _
            rw [hR2, ← this]
          obtain ⟨W2, hW2⟩ : ∃ W2, W2 = wr.alloc (.cells #[.int .i64 i, .int .i64 s] 60) := ⟨_, rfl⟩
          have B2 : Below wr.heap.size wr W2 := by rw [hW2]; exact below_a1r _ _
          have HB2 : Hid (Below w.heap.size w W2) := HBQ.out.trans (B2.mono HBQ.out.size)
          have HBJ : Hid (Below W1.heap.size W1 W2) := hnq.trans (B2.mono hnq.size)
          have Z1 := cell_later B2 Y1
          have E0 : W2.cell? ⟨wr.heap.size, 0, none⟩ = some (.int .i64 i) := by rw [hW2]; simp [go_sem]
          have E1 : W2.cell? ⟨wr.heap.size, 1, none⟩ = some (.int .i64 s) := by rw [hW2]; simp [go_sem]
          have HRT : Hid ((kRow kScored).is false W2 T [.slice (some ⟨b2, off2, none⟩) j lc] (x.take j)) := Kd.below (row_take HL.out hj) HBJ.out
          have HSC : Hid (scOk (i, s) = decide ((1 ≤ s ∧ s ≤ 1000000) ∧ (0 ≤ i ∧ i ≤ 1000))) := rfl
          have hz : (wr.heap.size : Int) ≤ (wr.heap.size : Int) := Int.le_refl _
          clear hc2 hi2 hy HJ hnq B2 hR2
          by_cases c1 : 1 ≤ s ∧ s ≤ 1000000
          · have HC1 : Hid (∀ w, Calls Try.prog 59 #[.int .i64 s, .int .i64 1, .int .i64 1000000] w fun e w' => e = .returned (.bool true) ∧ w' = w) := fun w => l1In_is w (decide_eq_true c1)
            by_cases c2 : 0 ≤ i ∧ i ≤ 1000
            · have HC2 : Hid (∀ w, Calls Try.prog 59 #[.int .i64 i, .int .i64 0, .int .i64 1000] w fun e w' => e = .returned (.bool true) ∧ w' = w) := fun w => l1In_is w (decide_eq_true c2)
              have HJ2 : Hid ((lastA (x.take j) (i, s) && (noId (x.take j) i && R2)) = q) := by have := HJ1.out; rw [HSC.out, decide_eq_true ⟨c1, c2⟩] at this; exact this
              clear c1 c2 HJ1 HSC
              go_wp2_with fail
              refine (HC1.out _).mono ?_
              rintro e w' ⟨rfl, rfl⟩
              go_wp2_with fail
              refine (HC2.out _).mono ?_
              rintro e w' ⟨rfl, rfl⟩
              go_wp2_with fail
              rw [← hW2]
              clear hW2 HC1 HC2
              have U0 : ∀ p : BelowOf W2, p.v.cell? _ = some _ := BelowOf.cell Z1
              have U1 : ∀ p : BelowOf W2, p.v.cell? _ = some _ := BelowOf.cell E0
              have U2 : ∀ p : BelowOf W2, p.v.cell? _ = some _ := BelowOf.cell E1
              have hne := belowOf_ne W2
              by_cases jz : j = 0
              · have HJ3 : Hid ((noId (x.take j) i && R2) = q) := by have := HJ2.out; rw [show lastA (x.take j) (i, s) = true by rw [jz]; rfl, Bool.true_and] at this; exact this
                have kpb : decide (0 < j) = false := decide_eq_false (by omega)
                clear jz HJ2
                refine region_below (by kernel_rfl) (by kernel_rfl) ?_
                repeat (go_big_quiet_step (fail))
                refine wpQuiet_nil (belowOf_all ?_)
                intro w3 hb3
                have F0 := cell_later hb3 Z1
                have F1 := cell_later hb3 E0
                have F2 := cell_later hb3 E1
                have H3 : Hid (Below W2.heap.size W2 w3) := hb3
                clear hb3 U0 U1 U2 Z1 E0 E1 hne kpb
                have HRT3 : Hid ((kRow kScored).is false w3 T [.slice (some ⟨b2, off2, none⟩) j lc] (x.take j)) := Kd.below HRT.out H3.out
                have HB3 : Hid (Below w.heap.size w w3) := HB2.out.trans (H3.out.mono HB2.out.size)
                have HBK : Hid (Below W1.heap.size W1 w3) := HBJ.out.trans (H3.out.mono HBJ.out.size)
                have HN0 : Hid ((noId ((x.take j).drop 0) i && R2) = q) := HJ3
                have jc : (j : Int) ≤ (lc : Int) := by omega
                clear HJ3
                go_wp2_with fail
                go_loopw [51] (fun pv wp => ∃ (p : Nat), p ≤ j ∧ pv = .int .i64 p ∧ Hid ((noId ((x.take j).drop p) i && R2) = q) ∧ Below w3.heap.size w3 wp) (fun pv _ => j - (intOf pv).toNat)
                case atStart => exact ⟨0, Nat.zero_le _, rfl, HN0, Below.refl _ _⟩
                case round =>
                  obtain ⟨p, hp, rfl, HP, hnp⟩ := hrel
                  have HBP : Hid (Below w.heap.size w wr) := HB3.out.trans (hnp.mono HB3.out.size)
                  have HBPK : Hid (Below W1.heap.size W1 wr) := HBK.out.trans (hnp.mono HBK.out.size)
                  have G0 := cell_later hnp F0
                  have G1 := cell_later hnp F1
                  have G2 := cell_later hnp F2
                  have zp := hnp.size
                  by_cases hpj : p < j
                  · obtain ⟨⟨u, v⟩, hu⟩ : ∃ y, (x.take j)[p]? = some y := ⟨_, List.getElem?_eq_getElem (by rw [List.length_take, ← HM.out]; omega)⟩
                    obtain ⟨b4, off4, B4, C4, hab4, hb4, _, hi4, _, hc4⟩ := row_at (Kd.below HRT3.out hnp) hu
                    obtain ⟨rfl, g4, g5⟩ := kScored_open hi4
                    obtain ⟨rfl, rfl⟩ : b2 = b4 ∧ off2 = off4 := by injection hab4 with e; injection e with e1 e2; exact ⟨e1, e2⟩
                    have I0 : wr.cell? ⟨b2, off2 + p * 2, none⟩ = some (.int .i64 u) := (hc4 0 _ rfl).1
                    have I1 : wr.cell? ⟨b2, off2 + p * 2 + 1, none⟩ = some (.int .i64 v) := (hc4 1 _ rfl).1
                    have G3 := cell_later (below_a1r wr (.cells #[.int .i64 u, .int .i64 v] 60)) G1
                    have p0 : (0 : Int) ≤ (p : Int) := by omega
                    have p1 : (p : Int) < (j : Int) := by omega
                    have HP1 : Hid (((!decide (u = i) && noId ((x.take j).drop (p + 1)) i) && R2) = q) := by have := HP.out; rw [noId_drop hu] at this; exact this
                    clear hc4 hi4 hu hab4 hb4 HP
                    by_cases hui : u = i
                    · have HF : Hid (q = false) := by have := HP1.out; rw [decide_eq_true hui] at this; exact this.symm
                      subst hui
                      clear HP1
                      go_wp2
                      go_ret
                      exact ⟨by rw [HF.out]; rfl, HBP.out.alloc (by have := HBP.out.size; omega) _⟩
                    · have HP2 : Hid ((noId ((x.take j).drop (p + 1)) i && R2) = q) := by have := HP1.out; rw [decide_eq_false hui] at this; exact this
                      have hui' : (u == i) = false := by simpa using hui
                      clear HP1
                      go_wp2
                      go_roundw
                      case rel => exact ⟨p + 1, by omega, by go_num, HP2, hnp.alloc (by omega) _⟩
                      case measure => simp [intOf]; omega
                  · have p1 : ¬ (p : Int) < (j : Int) := by omega
                    have HE : Hid ((rkOk (x.take (j + 1)) (x.drop (j + 1)) && (decide (m ≤ 60) && R)) = q) := by
                      have := HP.out
                      rw [List.drop_eq_nil_of_le (by rw [List.length_take]; omega), noId, Bool.true_and, HR2.out] at this
                      exact this
                    clear HP
                    go_wp2
                    go_roundw
                    case rel => exact ⟨j + 1, by omega, by go_num, HE, HBPK.out⟩
                    case measure => simp [intOf]; omega
              · obtain ⟨j', hj'⟩ : ∃ j', j = j' + 1 := ⟨j - 1, by omega⟩
                obtain ⟨⟨i', s'⟩, hy'⟩ : ∃ y, x[j']? = some y := ⟨_, List.getElem?_eq_getElem (by rw [← HM.out]; omega)⟩
                obtain ⟨b5, off5, B5, C5, hab5, hb5, _, hi5, _, hc5⟩ := row_at (Kd.below HL.out HBJ.out) hy'
                obtain ⟨rfl, g6, g7⟩ := kScored_open hi5
                obtain ⟨rfl, rfl⟩ : b2 = b5 ∧ off2 = off5 := by injection hab5 with e; injection e with e1 e2; exact ⟨e1, e2⟩
                have U3 : ∀ p : BelowOf W2, p.v.cell? ⟨b2, off2 + j' * 2, none⟩ = some (.int .i64 i') := BelowOf.cell (hc5 0 _ rfl).1
                have U4 : ∀ p : BelowOf W2, p.v.cell? ⟨b2, off2 + j' * 2 + 1, none⟩ = some (.int .i64 s') := BelowOf.cell (hc5 1 _ rfl).1
                have HLA : Hid (lastA (x.take j) (i, s) = ahd (i', s') (i, s)) := by show _ = _; rw [hj']; exact lastA_at hy' (i, s)
                have HLS : Hid (∀ w, Calls Try.prog 71 #[.agg #[.int .i64 i', .int .i64 s'], .agg #[.int .i64 i, .int .i64 s]] w fun e w' => e = .returned (.bool (ahd (i', s') (i, s))) ∧ Below w.heap.size w w') := l11Less_k i' s' i s
                have jn : (j : Int) - 1 = (j' : Int) := by omega
                have kpb : decide (0 < j) = true := decide_eq_true (by omega)
                have j2 : (j' : Int) < (m : Int) := by omega
                have j3 : (0 : Int) ≤ (j' : Int) := by omega
                clear hc5 hi5 hy' hab5 hb5 hj' jz
                cases hah : ahd (i', s') (i, s) with
                | false =>
                  have HF : Hid (q = false) := by have := HJ2.out; rw [HLA.out, hah] at this; exact this.symm
                  rw [hah] at HLS
                  clear hah HJ2 HLA
                  refine region_below (by kernel_rfl) (by kernel_rfl) ?_
                  repeat (go_big_quiet_step (first | (go_at_call 71; exact BelowOf.calls (HLS.out _))))
                  refine wpQuiet_nil (belowOf_all ?_)
                  intro w3 hb3
                  go_wp2
                  go_ret
                  exact ⟨by rw [HF.out]; rfl, HB2.out.trans (hb3.mono HB2.out.size)⟩
                | true =>
                  have HJ3 : Hid ((noId (x.take j) i && R2) = q) := by have := HJ2.out; rw [HLA.out, hah] at this; exact this
                  rw [hah] at HLS
                  clear hah HJ2 HLA
                  refine region_below (by kernel_rfl) (by kernel_rfl) ?_
                  repeat (go_big_quiet_step (first | (go_at_call 71; exact BelowOf.calls (HLS.out _))))
                  refine wpQuiet_nil (belowOf_all ?_)
                  intro w3 hb3
                  have F0 := cell_later hb3 Z1
                  have F1 := cell_later hb3 E0
                  have F2 := cell_later hb3 E1
                  have H3 : Hid (Below W2.heap.size W2 w3) := hb3
                  clear hb3 U0 U1 U2 U3 U4 Z1 E0 E1 hne kpb
                  have HRT3 : Hid ((kRow kScored).is false w3 T [.slice (some ⟨b2, off2, none⟩) j lc] (x.take j)) := Kd.below HRT.out H3.out
                  have HB3 : Hid (Below w.heap.size w w3) := HB2.out.trans (H3.out.mono HB2.out.size)
                  have HBK : Hid (Below W1.heap.size W1 w3) := HBJ.out.trans (H3.out.mono HBJ.out.size)
                  have HN0 : Hid ((noId ((x.take j).drop 0) i && R2) = q) := HJ3
                  have jc : (j : Int) ≤ (lc : Int) := by omega
                  clear HJ3
                  go_wp2_with fail
                  go_loopw [51] (fun pv wp => ∃ (p : Nat), p ≤ j ∧ pv = .int .i64 p ∧ Hid ((noId ((x.take j).drop p) i && R2) = q) ∧ Below w3.heap.size w3 wp) (fun pv _ => j - (intOf pv).toNat)
                  case atStart => exact ⟨0, Nat.zero_le _, rfl, HN0, Below.refl _ _⟩
                  case round =>
                    obtain ⟨p, hp, rfl, HP, hnp⟩ := hrel
                    have HBP : Hid (Below w.heap.size w wr) := HB3.out.trans (hnp.mono HB3.out.size)
                    have HBPK : Hid (Below W1.heap.size W1 wr) := HBK.out.trans (hnp.mono HBK.out.size)
                    have G0 := cell_later hnp F0
                    have G1 := cell_later hnp F1
                    have G2 := cell_later hnp F2
                    have zp := hnp.size
                    by_cases hpj : p < j
                    · obtain ⟨⟨u, v⟩, hu⟩ : ∃ y, (x.take j)[p]? = some y := ⟨_, List.getElem?_eq_getElem (by rw [List.length_take, ← HM.out]; omega)⟩
                      obtain ⟨b4, off4, B4, C4, hab4, hb4, _, hi4, _, hc4⟩ := row_at (Kd.below HRT3.out hnp) hu
                      obtain ⟨rfl, g4, g5⟩ := kScored_open hi4
                      obtain ⟨rfl, rfl⟩ : b2 = b4 ∧ off2 = off4 := by injection hab4 with e; injection e with e1 e2; exact ⟨e1, e2⟩
                      have I0 : wr.cell? ⟨b2, off2 + p * 2, none⟩ = some (.int .i64 u) := (hc4 0 _ rfl).1
                      have I1 : wr.cell? ⟨b2, off2 + p * 2 + 1, none⟩ = some (.int .i64 v) := (hc4 1 _ rfl).1
                      have G3 := cell_later (below_a1r wr (.cells #[.int .i64 u, .int .i64 v] 60)) G1
                      have p0 : (0 : Int) ≤ (p : Int) := by omega
                      have p1 : (p : Int) < (j : Int) := by omega
                      have HP1 : Hid (((!decide (u = i) && noId ((x.take j).drop (p + 1)) i) && R2) = q) := by have := HP.out; rw [noId_drop hu] at this; exact this
                      clear hc4 hi4 hu hab4 hb4 HP
                      by_cases hui : u = i
                      · have HF : Hid (q = false) := by have := HP1.out; rw [decide_eq_true hui] at this; exact this.symm
                        subst hui
                        clear HP1
                        go_wp2
                        go_ret
                        exact ⟨by rw [HF.out]; rfl, HBP.out.alloc (by have := HBP.out.size; omega) _⟩
                      · have HP2 : Hid ((noId ((x.take j).drop (p + 1)) i && R2) = q) := by have := HP1.out; rw [decide_eq_false hui] at this; exact this
                        have hui' : (u == i) = false := by simpa using hui
                        clear HP1
                        go_wp2
                        go_roundw
                        case rel => exact ⟨p + 1, by omega, by go_num, HP2, hnp.alloc (by omega) _⟩
                        case measure => simp [intOf]; omega
                    · have p1 : ¬ (p : Int) < (j : Int) := by omega
                      have HE : Hid ((rkOk (x.take (j + 1)) (x.drop (j + 1)) && (decide (m ≤ 60) && R)) = q) := by
                        have := HP.out
                        rw [List.drop_eq_nil_of_le (by rw [List.length_take]; omega), noId, Bool.true_and, HR2.out] at this
                        exact this
                      clear HP
                      go_wp2
                      go_roundw
                      case rel => exact ⟨j + 1, by omega, by go_num, HE, HBPK.out⟩
                      case measure => simp [intOf]; omega
            · have HC2 : Hid (∀ w, Calls Try.prog 59 #[.int .i64 i, .int .i64 0, .int .i64 1000] w fun e w' => e = .returned (.bool false) ∧ w' = w) := fun w => l1In_is w (decide_eq_false c2)
              have HF : Hid (q = false) := by have := HJ1.out; rw [HSC.out, decide_eq_false (fun h => c2 h.2)] at this; exact this.symm
              clear c1 c2 HJ1 HSC
              go_wp2_with fail
              refine (HC1.out _).mono ?_
              rintro e w' ⟨rfl, rfl⟩
              go_wp2_with fail
              refine (HC2.out _).mono ?_
              rintro e w' ⟨rfl, rfl⟩
              go_wp2
              go_ret
              exact ⟨by rw [HF.out]; rfl, by rw [← hW2]; exact HB2.out⟩
          · have HC1 : Hid (∀ w, Calls Try.prog 59 #[.int .i64 s, .int .i64 1, .int .i64 1000000] w fun e w' => e = .returned (.bool false) ∧ w' = w) := fun w => l1In_is w (decide_eq_false c1)
            have HF : Hid (q = false) := by have := HJ1.out; rw [HSC.out, decide_eq_false (fun h => c1 h.1)] at this; exact this.symm
            clear c1 HJ1 HSC
            go_wp2_with fail
            refine (HC1.out _).mono ?_
            rintro e w' ⟨rfl, rfl⟩
            go_wp2
            go_ret
            exact ⟨by rw [HF.out]; rfl, by rw [← hW2]; exact HB2.out⟩
        · have j1 : ¬ (j : Int) < (m : Int) := by omega
          have HE : Hid ((decide (m ≤ 60) && R) = q) := by
            have := HJ.out
            rw [show j = x.length by rw [← HM.out]; omega, List.drop_length, rkOk] at this
            exact this
          clear HJ
          by_cases c60 : (60 : Int) < (m : Int)
          · have HF : Hid (q = false) := by have := HE.out; rw [decide_eq_false (by omega)] at this; exact this.symm
            clear HE
            go_wp2
            go_ret
            exact ⟨by rw [HF.out]; rfl, HBQ.out⟩
          · have HG : Hid (((x0.drop (k + 1)).all rkGood && decide (x0.length ≤ 5)) = q) := by have := HE.out; rw [decide_eq_true (by omega), Bool.true_and, HR.out] at this; exact this
            clear HE
            go_wp2
            go_roundw
            case rel => exact ⟨k + 1, by omega, by go_num, HG, HBQ.out⟩
            case measure => simp [intOf]; omega
    · have i1 : ¬ (k : Int) < (n0 : Int) := by omega
      have HE : Hid (decide (n0 ≤ 5) = q) := by
        have := HI.out
        rw [show k = x0.length by rw [← HNL.out]; omega, List.drop_length, ← HNL.out] at this
        exact this
      by_cases c5 : (n0 : Int) ≤ 5
      · have HF : Hid (q = true) := by have := HE.out; rw [decide_eq_true (by omega)] at this; exact this.symm
        clear HE
        go_wp2
        go_ret
        exact ⟨by rw [HF.out]; rfl, hnx⟩
      · have HF : Hid (q = false) := by have := HE.out; rw [decide_eq_false (by omega)] at this; exact this.symm
        clear HE
        go_wp2
        go_ret
        exact ⟨by rw [HF.out]; rfl, hnx⟩
end Go.Proofs.Ytikgcgfigcolmaa
