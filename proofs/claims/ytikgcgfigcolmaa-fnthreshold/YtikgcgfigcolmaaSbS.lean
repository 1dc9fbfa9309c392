/- The best of several lists, by going through all: the specification's. No condition but that they fit in memory. -/
import Derived.Test.YtikgcgfigcolmaaSbI
import Derived.Deep.RegionWith
namespace Go.Proofs.Ytikgcgfigcolmaa
open Go.RowKit
set_option linter.unusedVariables false

theorem idsAll_take {ls : List DRanking} {k : Nat} {r : DRanking} (h : ls[k]? = some r) : idsAll (ls.take (k + 1)) = idsAll (ls.take k) ++ r.map (·.1) := by
  rw [List.take_add_one, h]
  unfold idsAll
  rw [List.flatMap_append]
  simp
theorem sum_ok {ls : List DRanking} (hg : fGoodRankings ls = true) (i : Int) : IntOk (sumL ls i) := by
  have h3 := sumL_bnd (fun r hr y hy => (good_sc hg r hr y hy).1) i
  have h4 := (good_len hg).1
  unfold IntOk
  omega

set_option maxRecDepth 100000 in
set_option maxHeartbeats 4000000 in
theorem l11All_k (ls : List DRanking) (a : Option Addr) (n c : Nat) (S : Nat → Prop) (t : Nat) (w : World) (h : (kRow kRanking).is false w S [.slice a n c] ls) (hg : fGoodRankings ls = true) (ht : t ≤ 60) :
    Calls Try.prog 76 #[.slice a n c, .int .i64 t] w (RScs ((allD ls).take t) w) := by
  have hnl := row_len h
  have h5 : n ≤ 5 := by rw [hnl]; exact (good_len hg).1
  have HNL : Hid (n = ls.length) := hnl
  have H : Hid ((kRow kRanking).is false w S [.slice a n c] ls) := h
  have HG : Hid (fGoodRankings ls = true) := hg
  clear h hnl hg
  go_enter Try.func76, Try.ntmps76
  go_wp2_with fail
  go_loopw [5, 12] (fun sv iv wr => ∃ (k : Nat) (oa : Option Addr) (om oc : Nat) (M : List DScored), k ≤ n ∧ iv = .int .i64 k ∧ sv = .slice oa om oc ∧ Hid (M = putIds (sumL ls) [] (idsAll (ls.take k))) ∧ Hid (M.length ≤ 60 * k) ∧ Hid ((kRow kScored).is true wr (fun q => w.heap.size ≤ q) [.slice oa om oc] M) ∧ Below w.heap.size w wr) (fun _ iv _ => n - (intOf iv).toNat)
  case atStart => exact ⟨0, none, 0, 0, [], Nat.zero_le _, rfl, rfl, by show _ = _; simp [idsAll, putIds, putAll], Nat.zero_le _, row_nil _ _ _ _ _ _, Below.refl _ _⟩
  case round =>
    obtain ⟨k, oa, om, oc, M, hk, rfl, rfl, HI, HML, HO, hnx⟩ := hrel
    have zw := hnx.size
    by_cases hlt : k < n
    · obtain ⟨x, hx⟩ : ∃ x, ls[k]? = some x := ⟨_, List.getElem?_eq_getElem (by rw [← HNL.out]; exact hlt)⟩
      obtain ⟨b, off, B, C, rfl, hb, _, hi, _, hc⟩ := row_at (Kd.below H.out hnx) hx
      obtain ⟨la, lc, T, rfl, hm, hl, _⟩ := kRanking_open hi
      have A0 : wr.cell? ⟨b, off + k, none⟩ = some (.slice la x.length lc) := cell1 (hc 0 _ rfl).1
      have i0 : (0 : Int) ≤ (k : Int) := by omega
      have i1 : (k : Int) < (n : Int) := by omega
      have hxl : x ∈ ls := List.mem_of_getElem? hx
      have q60 := (good_len HG.out).2 x hxl
      have HXB : Hid (∀ y ∈ x, (1 ≤ y.2 ∧ y.2 ≤ 1000000) ∧ (0 ≤ y.1 ∧ y.1 ≤ 1000)) := good_sc HG.out x hxl
      have HIT : Hid (idsAll (ls.take (k + 1)) = idsAll (ls.take k) ++ x.map (·.1)) := idsAll_take hx
      obtain ⟨W1, hW1⟩ : ∃ W1, W1 = wr.alloc (.cells #[.slice la x.length lc] 58) := ⟨_, rfl⟩
      have B1 : Below wr.heap.size wr W1 := by rw [hW1]; exact below_a1r _ _
      have HL : Hid ((kRow kScored).is false W1 T [.slice la x.length lc] x) := Kd.below hl B1
      have HB1 : Hid (Below w.heap.size w W1) := hnx.trans (B1.mono hnx.size)
      have HO1 : Hid ((kRow kScored).is true W1 (fun q => w.heap.size ≤ q) [.slice oa om oc] M) := Kd.below HO.out B1
      obtain ⟨m, hm'⟩ : ∃ m, m = x.length := ⟨_, rfl⟩
      have HM : Hid (m = x.length) := hm'
      rw [← hm'] at A0 HL hW1 q60
      have HI0 : Hid (M = putIds (sumL ls) [] (idsAll (ls.take k) ++ (x.take 0).map (·.1))) := by show _ = _; rw [HI.out]; simp
      have HML0 : Hid (M.length ≤ 60 * k + 0) := HML.out
      have z1 : w.heap.size ≤ W1.heap.size := HB1.out.size
      clear hc hi hx hl hnx B1 hm' hm hxl HI HML HO
      go_wp2_with fail
      rw [← hW1]
      clear hW1
      go_loopw [5, 19] (fun sv jv wq => ∃ (j : Nat) (pa : Option Addr) (pm pc : Nat) (P : List DScored), j ≤ m ∧ jv = .int .i64 j ∧ sv = .slice pa pm pc ∧ Hid (P = putIds (sumL ls) [] (idsAll (ls.take k) ++ (x.take j).map (·.1))) ∧ Hid (P.length ≤ 60 * k + j) ∧ Hid ((kRow kScored).is true wq (fun q => w.heap.size ≤ q) [.slice pa pm pc] P) ∧ Below W1.heap.size W1 wq) (fun _ jv _ => m - (intOf jv).toNat)
      case atStart => exact ⟨0, oa, om, oc, M, Nat.zero_le _, rfl, rfl, HI0, HML0, HO1, Below.refl _ _⟩
      case round =>
        obtain ⟨j, pa, pm, pc, P, hj, rfl, rfl, HJ, HPL, HP, hnq⟩ := hrel
        have HBQ : Hid (Below w.heap.size w wr) := HB1.out.trans (hnq.mono z1)
        have zq := hnq.size
        by_cases hjl : j < m
        · obtain ⟨⟨i, s⟩, hu⟩ : ∃ y, x[j]? = some y := ⟨_, List.getElem?_eq_getElem (by rw [← HM.out]; exact hjl)⟩
          obtain ⟨b2, off2, B2, C2, rfl, hb2, _, hi2, _, hc2⟩ := row_at (Kd.below HL.out hnq) hu
          obtain ⟨rfl, g0, g1⟩ := kScored_open hi2
          have D0 : wr.cell? ⟨b2, off2 + j * 2, none⟩ = some (.int .i64 i) := (hc2 0 _ rfl).1
          have D1 : wr.cell? ⟨b2, off2 + j * 2 + 1, none⟩ = some (.int .i64 s) := (hc2 1 _ rfl).1
          have j0 : (0 : Int) ≤ (j : Int) := by omega
          have j1 : (j : Int) < (m : Int) := by omega
          have hib := HXB.out (i, s) (List.mem_of_getElem? hu)
          simp only at hib
          have HTK : Hid ((x.take (j + 1)).map (·.1) = (x.take j).map (·.1) ++ [i]) := by show _ = _; rw [List.take_add_one, hu]; simp
          obtain ⟨W2, hW2⟩ : ∃ W2, W2 = wr.alloc (.cells #[.int .i64 i, .int .i64 s] 60) := ⟨_, rfl⟩
          have B2' : Below wr.heap.size wr W2 := by rw [hW2]; exact below_a1r _ _
          have E0 : W2.cell? ⟨wr.heap.size, 0, none⟩ = some (.int .i64 i) := by rw [hW2]; simp [go_sem]
          have HB2 : Hid (Below w.heap.size w W2) := HBQ.out.trans (B2'.mono HBQ.out.size)
          have HBJ : Hid (Below W1.heap.size W1 W2) := hnq.trans (B2'.mono hnq.size)
          obtain ⟨sm, hsm⟩ : ∃ sm, sm = sumL ls i := ⟨_, rfl⟩
          have HSM : Hid (sm = sumL ls i) := hsm
          have HC1 : Hid (Calls Try.prog 68 #[.slice (some ⟨b, off, none⟩) n c, .int .i64 i] W2.drew fun e w' => e = .returned (.int .i64 sm) ∧ Below W2.drew.heap.size W2.drew w') := by rw [hsm]; exact l11Sum_k ls _ n c S i _ (Kd.below H.out HB2.out.drew) (good_sumOk HG.out)
          have HC2 : Hid (∀ W, Below W2.heap.size W2 W → Calls Try.prog 67 #[.slice pa pm pc, .agg #[.int .i64 i, .int .i64 sm]] W (RPut P (i, sm) (fun q => w.heap.size ≤ q) W)) := fun W hW => l11Put_k P pa pm pc _ i sm W (Kd.below HP.out (B2'.trans (hW.mono B2'.size))) (by have := HPL.out; omega) (by unfold IntOk; omega) (by rw [hsm]; exact sum_ok HG.out i)
          have HDR : Hid (Below W2.heap.size W2 W2.drew) := (Below.refl _ _).drew
          have z2 : w.heap.size ≤ W2.heap.size := HB2.out.size
          clear hc2 hi2 hu hnq B2' hsm hib
          go_wp2_with fail
          rw [← hW2]
          clear hW2
          go_region_with (first
            | (go_at_call 68; go_fit HC1.out; rintro e w3 ⟨rfl, hb3⟩; have HB3 : Hid (Below W2.heap.size W2 w3) := HDR.out.trans hb3; have E3 := cell_later HB3.out E0; clear hb3)
            | (go_at_call 67; go_fit (HC2.out _ HB3.out); rintro e w4 ⟨a4, n4, c4, rfl, hr4, hb4⟩))
          all_goals
            have HR4 : Hid ((kRow kScored).is true w4 (fun q => w.heap.size ≤ q) [.slice a4 n4 c4] (putL P (i, sm))) := Kd.mono hr4 (fun q hq => by rcases hq with h | h; exact h; have := HB3.out.size; omega)
            have HB4 : Hid (Below W1.heap.size W1 w4) := HBJ.out.trans ((HB3.out.trans (hb4.mono HB3.out.size)).mono HBJ.out.size)
            clear hr4 hb4
            go_wp2
            go_roundw
            case rel => exact ⟨j + 1, a4, n4, c4, putL P (i, sm), by omega, by go_num, rfl, by show _ = _; rw [HTK.out, ← List.append_assoc, putIds_append, ← HJ.out, HSM.out]; rfl, by have := HPL.out; have h2 := putL_length P (i, sm); show _ ≤ _; omega, HR4, HB4.out⟩
            case measure => simp [intOf]; omega
        · have j1 : ¬ (j : Int) < (m : Int) := by omega
          have HE : Hid (P = putIds (sumL ls) [] (idsAll (ls.take (k + 1)))) := by show _ = _; rw [HJ.out, HIT.out, show x.take j = x from List.take_of_length_le (by rw [← HM.out]; omega)]
          have HEL : Hid (P.length ≤ 60 * (k + 1)) := by have := HPL.out; show _ ≤ _; omega
          clear HJ HPL
          go_wp2
          go_roundw
          case rel => exact ⟨k + 1, pa, pm, pc, P, by omega, by go_num, rfl, HE, HEL, HP, HBQ.out⟩
          case measure => simp [intOf]; omega
    · have i1 : ¬ (k : Int) < (n : Int) := by omega
      have HE : Hid (M = allD ls) := by show _ = _; rw [HI.out, show k = ls.length by rw [← HNL.out]; omega, List.take_length]; rfl
      have HBX : Hid (Below w.heap.size w wr) := hnx
      clear HI hnx
      go_wp2_with fail
      refine (l11First_k M oa om oc _ t _ HO.out (by have := HML.out; omega) ht).mono ?_
      rintro e w2 ⟨a2, n2, c2, rfl, hr2, hb2⟩
      have HR2 : Hid ((kRow kScored).is true w2 (fun q => w.heap.size ≤ q) [.slice a2 n2 c2] ((allD ls).take t)) := by rw [← HE.out]; exact Kd.mono hr2 (fun q hq => Nat.le_trans zw hq)
      have HB2 : Hid (Below w.heap.size w w2) := HBX.out.trans (hb2.mono zw)
      clear hr2 hb2
      go_wp2
      go_ret
      exact ⟨a2, n2, c2, rfl, HR2.out, HB2.out⟩

end Go.Proofs.Ytikgcgfigcolmaa
