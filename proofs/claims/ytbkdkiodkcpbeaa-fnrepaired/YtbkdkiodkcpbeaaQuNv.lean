/- NewVoting: both sides. No condition but that rows fit in memory. -/
import Derived.Test.YtbkdkiodkcpbeaaQuX
namespace Go.Proofs.Ytbkdkiodkcpbeaa
open Go.RowKit
set_option linter.unusedVariables false

/-- NewVoting. -/
def fNewVoting (x0 : List Int) (x1 x2 : Int) : DVoting × Bool := if fGoodVoting (x0.map fun x => (x, 0, ⟨#[]⟩), x1, x2) = true then ((x0.map fun x => (x, 0, ⟨#[]⟩), x1, x2), true) else (noV, false)
/-- What NewVoting answers. -/
def RNewVoting (x0 : List Int) (x1 : Int) (x2 : Int) (w : World) (e : Ending) (w' : World) : Prop := ∃ (C0 : List Value) (T0 : Nat → Prop), e = .returned (.tuple #[.agg C0.toArray, .bool (fNewVoting x0 x1 x2).2]) ∧ kVoting.is true w' T0 C0 (fNewVoting x0 x1 x2).1 ∧ (∀ k, T0 k → w.heap.size ≤ k) ∧ hVoting_cnt (fNewVoting x0 x1 x2).1 ≤ 2 ^ 26 ∧ Below w.heap.size w w'
theorem new_no {x0 : List Int} {x1 x2 : Int} (h : fGoodVoting (x0.map fun x => (x, 0, ⟨#[]⟩), x1, x2) = false) : fNewVoting x0 x1 x2 = (noV, false) := if_neg (by simp [h])
theorem new_yes {x0 : List Int} {x1 x2 : Int} (h : fGoodVoting (x0.map fun x => (x, 0, ⟨#[]⟩), x1, x2) = true) : fNewVoting x0 x1 x2 = ((x0.map fun x => (x, 0, ⟨#[]⟩), x1, x2), true) := if_pos h
def nvL (x0 : List Int) (k : Nat) : List DCopy := (x0.take k).map fun x => (x, 0, ⟨#[]⟩)
theorem nvL_len {x0 : List Int} {k : Nat} (h : k ≤ x0.length) : (nvL x0 k).length = k := by unfold nvL; rw [List.length_map, List.length_take]; omega
theorem nvL_next {x0 : List Int} {k : Nat} (h : k < x0.length) : nvL x0 (k + 1) = nvL x0 k ++ [(x0.getD k 0, 0, ⟨#[]⟩)] := by
  unfold nvL
  rw [List.take_add_one, getD_at h, List.map_append]
  rfl
structure NvAt (w wr : World) (a : Option Addr) (k c : Nat) (r t : Int) (L : List DCopy) : Prop where
  own : OwnL cpC 40 3 wr (w.heap.size + 2) (.slice a k c) L
  box : Tri wr (w.heap.size + 1) (.slice a k c) (.int .i64 r) (.int .i64 t)
  res : Tri wr w.heap.size (.slice none 0 0) (.int .i64 0) (.int .i64 0)
  bel : Below w.heap.size w wr
  siz : w.heap.size + 2 ≤ wr.heap.size
theorem NvAt.put {w wr w3 : World} {a a' : Option Addr} {k k' c c' : Nat} {r t : Int} {L L' : List DCopy} (h : NvAt w wr a k c r t L) (hb : Below (w.heap.size + 2) wr w3) (ho : OwnL cpC 40 3 w3 (w.heap.size + 2) (.slice a' k' c') L') : NvAt w (w3.setCell ⟨w.heap.size + 1, 0, none⟩ (.slice a' k' c')) a' k' c' r t L' := by
  have hs := h.siz
  have hz := hb.size
  have b1 : Tri w3 (w.heap.size + 1) (.slice a k c) (.int .i64 r) (.int .i64 t) := h.box.keep (hb.block _ (by omega))
  have b2 : Tri w3 w.heap.size (.slice none 0 0) (.int .i64 0) (.int .i64 0) := h.res.keep (hb.block _ (by omega))
  refine ⟨OwnL.kept (S := fun q => q = w.heap.size + 1) ho ⟨rfl, rfl, rfl, by simp, fun q hq hn => heap_set_ne hn⟩ (fun q hq e => by omega), ⟨set_same b1.c0, set_other b1.c1 (by omega), set_other b1.c2 (by omega), frozen_set b1.f0, frozen_set b1.f1, frozen_set b1.f2⟩, b2.keep (heap_set_ne (by omega)), ?_, by simp; omega⟩
  have hkk : KeptO (fun q => q = w.heap.size + 1) w3 (w3.setCell ⟨w.heap.size + 1, 0, none⟩ (.slice a' k' c')) := ⟨rfl, rfl, rfl, by simp, fun q hq hn => heap_set_ne hn⟩
  exact (h.bel.trans (hb.mono (by omega))).trans (hkk.below (by omega) (fun q hq e => by omega))
set_option maxRecDepth 100000 in
set_option maxHeartbeats 4000000 in
theorem implNewVoting_k (x0 : List Int) (a0 : Option Addr) (n0 c0 : Nat) (S0 : Nat → Prop) (x1 : Int) (x2 : Int) (w : World) (h0 : (kRow kInt).is false w S0 [.slice a0 n0 c0] x0) (z0 : (kRow kInt).sz x0 ≤ 2 ^ 20) (h1 : IntOk x1) (h2 : IntOk x2) :
    Calls Try.prog 29 #[.slice a0 n0 c0, .int .i64 x1, .int .i64 x2] w (RNewVoting x0 x1 x2 w) := by
  have HN : Hid (n0 = x0.length) := row_len h0
  have H : Hid ((kRow kInt).is false w S0 [.slice a0 n0 c0] x0) := h0
  have HOKS : Hid (∀ x ∈ x0, IntOk x) := fun x hx => by
    obtain ⟨i, hi⟩ := List.getElem?_of_mem hx
    obtain ⟨_, _, _, _, _, _, _, hk, _⟩ := row_at h0 hi
    exact hk.2
  have hn20 : n0 ≤ 2 ^ 20 := by rw [HN.out]; have : x0.length + sums kInt.sz x0 ≤ 2 ^ 20 := z0; omega
  have HI : Hid (IntOk x1 ∧ IntOk x2) := ⟨h1, h2⟩
  clear h0 z0 h1 h2
  by_cases c7 : n0 ≤ 7
  · have k7 : (n0 : Int) ≤ 7 := by omega
    go_enter Try.func29, Try.ntmps29
    go_wp2_with fail
    obtain ⟨W0, hW0⟩ : ∃ W, W = (w.alloc (.cells #[.slice none 0 0, .int .i64 0, .int .i64 0] 25)).alloc (.cells #[.slice none 0 0, .int .i64 x1, .int .i64 x2] 25) := ⟨_, rfl⟩
    have HA0 : Hid (NvAt w W0 none 0 0 x1 x2 []) := by
      show NvAt _ _ _ _ _ _ _ _
      rw [hW0]
      refine ⟨OwnL.nil _ _ _ _ _, ?_, (alloc_tri w _ _ _ _).below (below_a1q _ _), below_a2q _ _ _, by simp⟩
      have := alloc_tri (w.alloc (.cells #[.slice none 0 0, .int .i64 0, .int .i64 0] 25)) (.slice none 0 0) (.int .i64 x1) (.int .i64 x2) 25
      simpa using this
    rw [← hW0]
    clear hW0
    go_loopw [20] (fun iv wr => ∃ (k : Nat) (oa : Option Addr) (oc : Nat), k ≤ n0 ∧ iv = .int .i64 k ∧ Hid (NvAt w wr oa k oc x1 x2 (nvL x0 k))) (fun iv _ => n0 - (intOf iv).toNat)
    case atStart => exact ⟨0, none, 0, Nat.zero_le _, rfl, HA0⟩
    case round =>
      obtain ⟨k, oa, oc, hk, rfl, HA⟩ := hrel
      obtain ⟨E0, E1, E2, G0, G1, G2⟩ := HA.out.box
      have hsz := HA.out.siz
      by_cases hlt : k < n0
      · obtain ⟨b1, o1, rfl, hb1, A0, _⟩ := rowN_at (Kd.below H.out HA.out.bel) hlt
        have HNX : Hid (nvL x0 (k + 1) = nvL x0 k ++ [(x0.getD k 0, 0, ⟨#[]⟩)]) := nvL_next (by rw [← HN.out]; exact hlt)
        have HLK : Hid ((nvL x0 k).length = k) := nvL_len (by rw [← HN.out]; exact hk)
        generalize x0.getD k 0 = y at *
        have i0 : (k : Int) < (n0 : Int) := by omega
        have i1 : (0 : Int) ≤ (k : Int) := by omega
        have hbx : w.heap.size + 1 < wr.heap.size := by omega
        go_wp2_with (at_builtin; go_loud (refine app_cp rfl _ _ rfl (w.heap.size + 2) _ (nvL x0 k) rfl (OwnL.below HA.out.own (below_a1q _ _)) _ (y, 0, ⟨#[]⟩) rfl (by simp [go_sem]) (by simp [go_sem]) (by simp [go_sem]) (by rw [HLK.out]; omega) (by simp; omega) ?_))
        intro v3 w3 ho3 hb3 _
        obtain ⟨a3, c3, rfl, _⟩ := ho3.form
        rw [List.length_append, HLK.out] at ho3 ⊢
        have HB3 : Hid (Below (w.heap.size + 2) wr w3) := ((below_a1q wr _).mono hsz).trans hb3
        have HNN : Hid (NvAt w (w3.setCell ⟨w.heap.size + 1, 0, none⟩ (.slice a3 (k + 1) c3)) a3 (k + 1) c3 x1 x2 (nvL x0 (k + 1))) := by show NvAt _ _ _ _ _ _ _ _; rw [HNX.out]; exact HA.out.put HB3.out ho3
        have D0 : w3.cell? ⟨w.heap.size + 1, 0, none⟩ = some (.slice oa k oc) := (HB3.out.cell (p := ⟨w.heap.size + 1, 0, none⟩) (by show w.heap.size + 1 < _; omega)).trans E0
        have D0f : w3.frozen? ⟨w.heap.size + 1, 0, none⟩ = false := (HB3.out.frozen (p := ⟨w.heap.size + 1, 0, none⟩) (by show w.heap.size + 1 < _; omega)).trans G0
        clear ho3 hb3
        go_wp2
        go_roundw
        case rel => exact ⟨k + 1, a3, c3, by omega, by go_num, HNN⟩
        case measure => simp [intOf]; omega
      · obtain rfl : k = n0 := by omega
        have i0 : ¬ (k : Int) < (k : Int) := by omega
        have hall : nvL x0 k = x0.map fun x => (x, 0, ⟨#[]⟩) := by unfold nvL; rw [List.take_of_length_le (by rw [HN.out]; exact Nat.le_refl _)]
        have HRW : Hid ((kRow kCopy).is true wr (fun q => w.heap.size + 2 ≤ q) [.slice oa k oc] (nvL x0 k)) := own_cps HA.out.own (by rw [hall, List.length_map, ← HN.out]; omega) (fun x hx => by
          rw [hall] at hx
          obtain ⟨y, hy, rfl⟩ := List.mem_map.1 hx
          exact ⟨HOKS.out y hy, zero_ok, Nat.zero_le _⟩)
        rw [hall] at HRW HA
        have HBL : Hid (Below w.heap.size w wr) := HA.out.bel
        have HRS : Hid (Tri wr w.heap.size (.slice none 0 0) (.int .i64 0) (.int .i64 0)) := HA.out.res
        have HBX : Hid (Tri wr (w.heap.size + 1) (.slice oa k oc) (.int .i64 x1) (.int .i64 x2)) := HA.out.box
        go_wp2_with fail
        refine (goodV_k _ oa k oc _ x1 x2 wr ((kRow kCopy).read HRW.out) (row_cap HRW.out)).mono ?_
        rintro e w7 ⟨rfl, hb7⟩
        have HT7 : Hid (Tri w7 w.heap.size (.slice none 0 0) (.int .i64 0) (.int .i64 0)) := HRS.out.below hb7
        have HB7 : Hid (Below w.heap.size w w7) := HBL.out.trans (hb7.mono HBL.out.size)
        have HX7 : Hid (Tri w7 (w.heap.size + 1) (.slice oa k oc) (.int .i64 x1) (.int .i64 x2)) := HBX.out.below hb7
        have HR7 : Hid ((kRow kCopy).is true w7 (fun q => w.heap.size + 2 ≤ q) [.slice oa k oc] (x0.map fun x => (x, 0, ⟨#[]⟩))) := Kd.below HRW.out hb7
        clear hb7 E0 E1 E2 G0 G1 G2
        obtain ⟨R0, R1, R2, F0, F1, F2⟩ := HT7.out
        obtain ⟨E0, E1, E2, _, _, _⟩ := HX7.out
        cases hg : fGoodVoting (x0.map fun x => (x, 0, ⟨#[]⟩), x1, x2) with
        | true =>
          have HF : Hid (fNewVoting x0 x1 x2 = ((x0.map fun x => (x, 0, ⟨#[]⟩), x1, x2), true)) := new_yes hg
          have HLN : Hid ((x0.map fun x : Int => ((x, 0, ⟨#[]⟩) : DCopy)).length ≤ 7) := ((vg_iff _).1 hg).hi
          have q := HT7.out.put (.slice oa k oc) (.int .i64 x1) (.int .i64 x2)
          have hkk := put3_kept w7 w.heap.size (.slice oa k oc) (.int .i64 x1) (.int .i64 x2)
          have HBZ : Hid (Below w.heap.size w (put3 w7 w.heap.size (.slice oa k oc) (.int .i64 x1) (.int .i64 x2))) := below_put3 HB7.out (Nat.le_refl _) _ _ _
          have HRZ : Hid ((kRow kCopy).is true (put3 w7 w.heap.size (.slice oa k oc) (.int .i64 x1) (.int .i64 x2)) (fun q => w.heap.size ≤ q) [.slice oa k oc] (x0.map fun x => (x, 0, ⟨#[]⟩))) := Kd.mono (Kd.kept HR7.out hkk (fun q _ h e => by omega)) (fun q hq => by omega)
          obtain ⟨Q0, Q1, Q2, _, _, _⟩ := q
          unfold put3 at Q0 Q1 Q2 HBZ HRZ
          clear hkk hg
          go_wp2
          refine bodyPost_ret (v := .tuple #[.agg #[.slice oa k oc, .int .i64 x1, .int .i64 x2], .bool true]) (by simp [results, Try.results29, go_sem, Q0, Q1, Q2]) rfl ?_
          unfold RNewVoting
          rw [HF.out]
          exact ⟨_, _, rfl, vot_shut (v := (x0.map fun x => (x, 0, ⟨#[]⟩), x1, x2)) HRZ.out HI.out.1 HI.out.2, fun k h => h, vot_cnt HLN.out, HBZ.out⟩
        | false =>
          have HF : Hid (fNewVoting x0 x1 x2 = (noV, false)) := new_no hg
          have HZ := HT7.out.put (.slice none 0 0) (.int .i64 0) (.int .i64 0)
          obtain ⟨Z0, Z1, Z2, _, _, _⟩ := HZ
          have HZB : Hid (Below w.heap.size w (put3 w7 w.heap.size (.slice none 0 0) (.int .i64 0) (.int .i64 0))) := below_put3 HB7.out (Nat.le_refl _) _ _ _
          unfold put3 at Z0 Z1 Z2 HZB
          clear hg
          go_wp2
          refine bodyPost_ret (v := .tuple #[.agg #[.slice none 0 0, .int .i64 0, .int .i64 0], .bool false]) (by simp [results, Try.results29, go_sem, Z0, Z1, Z2]) rfl ?_
          unfold RNewVoting
          rw [HF.out]
          exact ⟨_, _, rfl, noV_is _ w.heap.size, fun k h => h, noV_cnt, HZB.out⟩
  · have k7 : ¬ (n0 : Int) ≤ 7 := by omega
    have k8 : (7 : Int) < (n0 : Int) := by omega
    have HF : Hid (fNewVoting x0 x1 x2 = (noV, false)) := new_no (vg_not fun g => c7 (by have := g.hi; simp only [List.length_map] at this; rw [HN.out]; exact this))
    have HRS : Hid (Tri (w.alloc (.cells #[.slice none 0 0, .int .i64 0, .int .i64 0] 25)) w.heap.size (.slice none 0 0) (.int .i64 0) (.int .i64 0)) := alloc_tri w _ _ _ _
    have HZB : Hid (Below w.heap.size w (w.alloc (.cells #[.slice none 0 0, .int .i64 0, .int .i64 0] 25))) := below_a1q _ _
    go_enter Try.func29, Try.ntmps29
    obtain ⟨R0, R1, R2, F0, F1, F2⟩ := HRS.out
    go_wp2
    refine bodyPost_ret (v := .tuple #[.agg #[.slice none 0 0, .int .i64 0, .int .i64 0], .bool false]) (by simp [results, Try.results29, go_sem]) rfl ?_
    unfold RNewVoting
    rw [HF.out]
    exact ⟨_, _, rfl, noV_is _ w.heap.size, fun k h => h, noV_cnt, HZB.out⟩
set_option maxRecDepth 100000 in
set_option maxHeartbeats 4000000 in
theorem specNewVoting_k (x0 : List Int) (a0 : Option Addr) (n0 c0 : Nat) (S0 : Nat → Prop) (x1 : Int) (x2 : Int) (w : World) (h0 : (kRow kInt).is false w S0 [.slice a0 n0 c0] x0) (z0 : (kRow kInt).sz x0 ≤ 2 ^ 20) (h1 : IntOk x1) (h2 : IntOk x2) :
    Calls Try.prog 30 #[.slice a0 n0 c0, .int .i64 x1, .int .i64 x2] w (RNewVoting x0 x1 x2 w) := by
  have HN : Hid (n0 = x0.length) := row_len h0
  have H : Hid ((kRow kInt).is false w S0 [.slice a0 n0 c0] x0) := h0
  have HOKS : Hid (∀ x ∈ x0, IntOk x) := fun x hx => by
    obtain ⟨i, hi⟩ := List.getElem?_of_mem hx
    obtain ⟨_, _, _, _, _, _, _, hk, _⟩ := row_at h0 hi
    exact hk.2
  have hn20 : n0 ≤ 2 ^ 20 := by rw [HN.out]; have : x0.length + sums kInt.sz x0 ≤ 2 ^ 20 := z0; omega
  have HI : Hid (IntOk x1 ∧ IntOk x2) := ⟨h1, h2⟩
  clear h0 z0 h1 h2
  go_enter Try.func30, Try.ntmps30
  go_wp2_with fail
  obtain ⟨W0, hW0⟩ : ∃ W, W = (w.alloc (.cells #[.slice none 0 0, .int .i64 0, .int .i64 0] 25)).alloc (.cells #[.slice none 0 0, .int .i64 x1, .int .i64 x2] 25) := ⟨_, rfl⟩
  have HA0 : Hid (NvAt w W0 none 0 0 x1 x2 []) := by
    show NvAt _ _ _ _ _ _ _ _
    rw [hW0]
    refine ⟨OwnL.nil _ _ _ _ _, ?_, (alloc_tri w _ _ _ _).below (below_a1q _ _), below_a2q _ _ _, by simp⟩
    have := alloc_tri (w.alloc (.cells #[.slice none 0 0, .int .i64 0, .int .i64 0] 25)) (.slice none 0 0) (.int .i64 x1) (.int .i64 x2) 25
    simpa using this
  rw [← hW0]
  clear hW0
  go_loopw [16] (fun iv wr => ∃ (k : Nat) (oa : Option Addr) (oc : Nat), k ≤ n0 ∧ iv = .int .i64 k ∧ Hid (NvAt w wr oa k oc x1 x2 (nvL x0 k))) (fun iv _ => n0 - (intOf iv).toNat)
  case atStart => exact ⟨0, none, 0, Nat.zero_le _, rfl, HA0⟩
  case round =>
    obtain ⟨k, oa, oc, hk, rfl, HA⟩ := hrel
    obtain ⟨E0, E1, E2, G0, G1, G2⟩ := HA.out.box
    have hsz := HA.out.siz
    by_cases hlt : k < n0
    · obtain ⟨b1, o1, rfl, hb1, A0, _⟩ := rowN_at (Kd.below H.out HA.out.bel) hlt
      have HNX : Hid (nvL x0 (k + 1) = nvL x0 k ++ [(x0.getD k 0, 0, ⟨#[]⟩)]) := nvL_next (by rw [← HN.out]; exact hlt)
      have HLK : Hid ((nvL x0 k).length = k) := nvL_len (by rw [← HN.out]; exact hk)
      generalize x0.getD k 0 = y at *
      have i0 : (k : Int) < (n0 : Int) := by omega
      have i1 : (0 : Int) ≤ (k : Int) := by omega
      have hbx : w.heap.size + 1 < wr.heap.size := by omega
      go_wp2_with (at_builtin; go_loud (refine app_cp rfl _ _ rfl (w.heap.size + 2) _ (nvL x0 k) rfl (OwnL.below HA.out.own (below_a1q _ _)) _ (y, 0, ⟨#[]⟩) rfl (by simp [go_sem]) (by simp [go_sem]) (by simp [go_sem]) (by rw [HLK.out]; omega) (by simp; omega) ?_))
      intro v3 w3 ho3 hb3 _
      obtain ⟨a3, c3, rfl, _⟩ := ho3.form
      rw [List.length_append, HLK.out] at ho3 ⊢
      have HB3 : Hid (Below (w.heap.size + 2) wr w3) := ((below_a1q wr _).mono hsz).trans hb3
      have HNN : Hid (NvAt w (w3.setCell ⟨w.heap.size + 1, 0, none⟩ (.slice a3 (k + 1) c3)) a3 (k + 1) c3 x1 x2 (nvL x0 (k + 1))) := by show NvAt _ _ _ _ _ _ _ _; rw [HNX.out]; exact HA.out.put HB3.out ho3
      have D0 : w3.cell? ⟨w.heap.size + 1, 0, none⟩ = some (.slice oa k oc) := (HB3.out.cell (p := ⟨w.heap.size + 1, 0, none⟩) (by show w.heap.size + 1 < _; omega)).trans E0
      have D0f : w3.frozen? ⟨w.heap.size + 1, 0, none⟩ = false := (HB3.out.frozen (p := ⟨w.heap.size + 1, 0, none⟩) (by show w.heap.size + 1 < _; omega)).trans G0
      clear ho3 hb3
      go_wp2
      go_roundw
      case rel => exact ⟨k + 1, a3, c3, by omega, by go_num, HNN⟩
      case measure => simp [intOf]; omega
    · obtain rfl : k = n0 := by omega
      have i0 : ¬ (k : Int) < (k : Int) := by omega
      have hall : nvL x0 k = x0.map fun x => (x, 0, ⟨#[]⟩) := by unfold nvL; rw [List.take_of_length_le (by rw [HN.out]; exact Nat.le_refl _)]
      have HRW : Hid ((kRow kCopy).is true wr (fun q => w.heap.size + 2 ≤ q) [.slice oa k oc] (nvL x0 k)) := own_cps HA.out.own (by rw [hall, List.length_map, ← HN.out]; omega) (fun x hx => by
        rw [hall] at hx
        obtain ⟨y, hy, rfl⟩ := List.mem_map.1 hx
        exact ⟨HOKS.out y hy, zero_ok, Nat.zero_le _⟩)
      rw [hall] at HRW HA
      have HBL : Hid (Below w.heap.size w wr) := HA.out.bel
      have HRS : Hid (Tri wr w.heap.size (.slice none 0 0) (.int .i64 0) (.int .i64 0)) := HA.out.res
      have HBX : Hid (Tri wr (w.heap.size + 1) (.slice oa k oc) (.int .i64 x1) (.int .i64 x2)) := HA.out.box
      go_wp2_with fail
      refine (goodS_k _ oa k oc _ x1 x2 wr ((kRow kCopy).read HRW.out) (row_cap HRW.out)).mono ?_
      rintro e w7 ⟨rfl, hb7⟩
      have HT7 : Hid (Tri w7 w.heap.size (.slice none 0 0) (.int .i64 0) (.int .i64 0)) := HRS.out.below hb7
      have HB7 : Hid (Below w.heap.size w w7) := HBL.out.trans (hb7.mono HBL.out.size)
      have HX7 : Hid (Tri w7 (w.heap.size + 1) (.slice oa k oc) (.int .i64 x1) (.int .i64 x2)) := HBX.out.below hb7
      have HR7 : Hid ((kRow kCopy).is true w7 (fun q => w.heap.size + 2 ≤ q) [.slice oa k oc] (x0.map fun x => (x, 0, ⟨#[]⟩))) := Kd.below HRW.out hb7
      clear hb7 E0 E1 E2 G0 G1 G2
      obtain ⟨R0, R1, R2, F0, F1, F2⟩ := HT7.out
      obtain ⟨E0, E1, E2, _, _, _⟩ := HX7.out
      cases hg : fGoodVoting (x0.map fun x => (x, 0, ⟨#[]⟩), x1, x2) with
      | true =>
        have HF : Hid (fNewVoting x0 x1 x2 = ((x0.map fun x => (x, 0, ⟨#[]⟩), x1, x2), true)) := new_yes hg
        have HLN : Hid ((x0.map fun x : Int => ((x, 0, ⟨#[]⟩) : DCopy)).length ≤ 7) := ((vg_iff _).1 hg).hi
        have q := HT7.out.put (.slice oa k oc) (.int .i64 x1) (.int .i64 x2)
        have hkk := put3_kept w7 w.heap.size (.slice oa k oc) (.int .i64 x1) (.int .i64 x2)
        have HBZ : Hid (Below w.heap.size w (put3 w7 w.heap.size (.slice oa k oc) (.int .i64 x1) (.int .i64 x2))) := below_put3 HB7.out (Nat.le_refl _) _ _ _
        have HRZ : Hid ((kRow kCopy).is true (put3 w7 w.heap.size (.slice oa k oc) (.int .i64 x1) (.int .i64 x2)) (fun q => w.heap.size ≤ q) [.slice oa k oc] (x0.map fun x => (x, 0, ⟨#[]⟩))) := Kd.mono (Kd.kept HR7.out hkk (fun q _ h e => by omega)) (fun q hq => by omega)
        obtain ⟨Q0, Q1, Q2, _, _, _⟩ := q
        unfold put3 at Q0 Q1 Q2 HBZ HRZ
        clear hkk hg
        go_wp2
        refine bodyPost_ret (v := .tuple #[.agg #[.slice oa k oc, .int .i64 x1, .int .i64 x2], .bool true]) (by simp [results, Try.results30, go_sem, Q0, Q1, Q2]) rfl ?_
        unfold RNewVoting
        rw [HF.out]
        exact ⟨_, _, rfl, vot_shut (v := (x0.map fun x => (x, 0, ⟨#[]⟩), x1, x2)) HRZ.out HI.out.1 HI.out.2, fun k h => h, vot_cnt HLN.out, HBZ.out⟩
      | false =>
        have HF : Hid (fNewVoting x0 x1 x2 = (noV, false)) := new_no hg
        have HZ := HT7.out.put (.slice none 0 0) (.int .i64 0) (.int .i64 0)
        obtain ⟨Z0, Z1, Z2, _, _, _⟩ := HZ
        have HZB : Hid (Below w.heap.size w (put3 w7 w.heap.size (.slice none 0 0) (.int .i64 0) (.int .i64 0))) := below_put3 HB7.out (Nat.le_refl _) _ _ _
        unfold put3 at Z0 Z1 Z2 HZB
        clear hg
        go_wp2
        refine bodyPost_ret (v := .tuple #[.agg #[.slice none 0 0, .int .i64 0, .int .i64 0], .bool false]) (by simp [results, Try.results30, go_sem, Z0, Z1, Z2]) rfl ?_
        unfold RNewVoting
        rw [HF.out]
        exact ⟨_, _, rfl, noV_is _ w.heap.size, fun k h => h, noV_cnt, HZB.out⟩
end Go.Proofs.Ytbkdkiodkcpbeaa
