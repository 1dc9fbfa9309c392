/- The specification's l4CleanOf. -/
import Derived.Test.YtbjifclgifkjmaaDoorCleanS0
namespace Go.Proofs.YtbjifclgifkjmaaDoor
open Go.RowKit
set_option linter.unusedVariables false

set_option maxRecDepth 100000 in
set_option maxHeartbeats 40000000 in
theorem l4CleanOf_step (k n : Int) (t : ByteArray) (nm : List ByteArray) (ks : List Tr) (ih : ∀ x ∈ ks, ClnSaid x) : ClnSaid (.mk k n t nm ks) := by
  intro S v w h hd hrs
  have HT : Hid (TreeIs w S (.mk k n t nm ks) v) := h
  obtain ⟨an, cn, ak, ck, rfl, hnm, hk⟩ := h.open
  have hcn' : Tr.cnts ks ≤ 2 ^ 19 := by rw [Tr.cnt] at hd; omega
  have hkl := Tr.len_cnts ks
  clear h
  by_cases h7 : k = 7
  · subst h7
    rw [Tr.rises] at hrs
    obtain ⟨rfl, rfl, hlen, hpw⟩ := hrs.1 rfl
    have HRS : Hid (Tr.risess ks ∧ nm.Pairwise (fun a b => leB a b = true)) := ⟨hrs.2, hpw⟩
    have HC : Hid (Tr.cln (.mk 7 0 ⟨#[]⟩ nm ks) = accT nm ks ks.length) := by show _ = _; rw [acc_all hlen, Tr.cln, if_pos rfl]
    have HLEN : Hid (nm.length = ks.length) := hlen
    clear hlen
    have HNM : Hid (NamsAt w S an nm) := hnm
    have HKS : Hid (ks = [] ∨ ∃ g, ak = some ⟨g, 0, none⟩ ∧ S g ∧ g < w.heap.size ∧ ∀ i x, ks[i]? = some x → KidAt w S x g i) := hk
    have HIH : Hid (∀ x ∈ ks, ClnSaid x) := ih
    clear hnm hk ih hrs hpw hd
    go_enter Tryd.func14, Tryd.ntmps14
    go_wp2_with fail
    obtain ⟨W0, hW0⟩ : ∃ W0, W0 = ((w.alloc (.cells #[.int .i64 7, .int .i64 0, .string ⟨#[]⟩, .slice an nm.length cn, .slice ak ks.length ck] 41)).alloc (.cells #[.int .i64 0, .int .i64 0, .string ⟨#[]⟩, .slice none 0 0, .slice none 0 0] 41)).alloc (.cells #[.int .i64 7, .int .i64 0, .string ⟨#[]⟩, .slice none 0 0, .slice none 0 0] 41) := ⟨_, rfl⟩
    rw [← hW0]
    have bA : Below w.heap.size w (w.alloc (.cells #[.int .i64 7, .int .i64 0, .string ⟨#[]⟩, .slice an nm.length cn, .slice ak ks.length ck] 41)) := (Below.refl _ _).alloc (Nat.le_refl _) _
    have b0 : Below w.heap.size w W0 := by rw [hW0]; exact ((bA).alloc (by simp) _).alloc (by simp; omega) _
    have z0 : W0.heap.size = w.heap.size + 3 := by rw [hW0]; simp
    have v0 : W0.cell? ⟨w.heap.size, 3, none⟩ = some (.slice an nm.length cn) := by rw [hW0]; simp [go_sem]
    have fR : FiveAt W0 (w.heap.size + 1) (.int .i64 0) (.int .i64 0) (.string ⟨#[]⟩) (.slice none 0 0) (.slice none 0 0) := by
      have h1 := fiveAt_new (w.alloc (.cells #[.int .i64 7, .int .i64 0, .string ⟨#[]⟩, .slice an nm.length cn, .slice ak ks.length ck] 41)) (.int .i64 0) (.int .i64 0) (.string ⟨#[]⟩) (.slice none 0 0) (.slice none 0 0) 41
      rw [show (w.alloc (.cells #[.int .i64 7, .int .i64 0, .string ⟨#[]⟩, .slice an nm.length cn, .slice ak ks.length ck] 41)).heap.size = w.heap.size + 1 by simp] at h1
      rw [hW0]
      exact h1.below (Z := w.heap.size + 1 + 1) ((Below.refl _ _).alloc (by simp) _) (by omega)
    have fB : FiveAt W0 (w.heap.size + 1 + 1) (.int .i64 7) (.int .i64 0) (.string ⟨#[]⟩) (.slice none 0 0) (.slice none 0 0) := by
      have h1 := fiveAt_new ((w.alloc (.cells #[.int .i64 7, .int .i64 0, .string ⟨#[]⟩, .slice an nm.length cn, .slice ak ks.length ck] 41)).alloc (.cells #[.int .i64 0, .int .i64 0, .string ⟨#[]⟩, .slice none 0 0, .slice none 0 0] 41)) (.int .i64 7) (.int .i64 0) (.string ⟨#[]⟩) (.slice none 0 0) (.slice none 0 0) 41
      rw [show ((w.alloc (.cells #[.int .i64 7, .int .i64 0, .string ⟨#[]⟩, .slice an nm.length cn, .slice ak ks.length ck] 41)).alloc (.cells #[.int .i64 0, .int .i64 0, .string ⟨#[]⟩, .slice none 0 0, .slice none 0 0] 41)).heap.size = w.heap.size + 1 + 1 by simp] at h1
      rw [hW0]
      exact h1
    have HB0 : Hid (Below w.heap.size w W0) := b0
    have HST : Hid (ClnSt w S nm ks an cn 0 W0) := ⟨7, 0, ⟨#[]⟩, none, 0, 0, none, 0, 0, fB, ⟨none, 0, none, 0, rfl, .inl rfl, .inl rfl, Nat.le_refl _, Nat.le_refl _, .inl ⟨rfl, rfl⟩, .inl ⟨rfl, rfl⟩⟩, fR, v0⟩
    clear hW0 bA b0 fR fB v0
    go_loopw [14] (fun i wr => ∃ m : Nat, m ≤ ks.length ∧ i = .int .i64 m ∧ Hid (ClnSt w S nm ks an cn m wr) ∧ Below w.heap.size w wr ∧ w.heap.size + 3 ≤ wr.heap.size) (fun i _ => ks.length - (intOf i).toNat)
    case atStart => exact ⟨0, Nat.zero_le _, rfl, HST, HB0.out, by omega⟩
    case round =>
      obtain ⟨m, hm, rfl, HS, hnx, hz⟩ := hrel
      have HNX : Hid (Below w.heap.size w wr) := hnx
      by_cases hlt : m < ks.length
      · obtain ⟨o0, o1, o2, o3, o4, o5, o6, o7, o8, hF, hA, hR, hv3⟩ := HS.out
        rcases HKS.out with h0 | ⟨g, rfl, hSg, hg, hkid⟩
        · rw [h0] at hlt; simp at hlt
        have hlen := HLEN.out
        rcases HNM.out with h0 | ⟨gn, rfl, hSn, hgn, hnam⟩
        · rw [h0] at hlen; simp at hlen; omega
        obtain ⟨x, hx⟩ : ∃ x, ks[m]? = some x := ⟨ks[m], List.getElem?_eq_getElem hlt⟩
        obtain ⟨a, ha⟩ : ∃ a, nm[m]? = some a := ⟨nm[m], List.getElem?_eq_getElem (by omega)⟩
        have hna := hnam m (by omega)
        rw [List.getD_eq_getElem?_getD, ha] at hna
        obtain ⟨xan, xcn, xak, xck, c0, c1, c2, c3, c4, htr⟩ := (hkid m x hx).cellsS
        have HAN : Hid ((x.kind = 1 → accT nm ks (m + 1) = accT nm ks m) ∧ (x.kind ≠ 1 → accT nm ks (m + 1) = putK (accT nm ks m) a x.cln)) := accT_next hlen HRS.out.2 ha hx
        have hxm := List.mem_of_getElem? hx
        have HXS : Hid (ClnSaid x ∧ x.cnt ≤ 2 ^ 19 ∧ x.rises) := ⟨HIH.out x hxm, Nat.le_trans (Tr.cnt_mem hxm) hcn', Tr.risess_mem.1 HRS.out.1 x hxm⟩
        obtain ⟨xk, hxk⟩ : ∃ v, v = x.kind := ⟨_, rfl⟩
        obtain ⟨xn, hxn⟩ : ∃ v, v = x.num := ⟨_, rfl⟩
        obtain ⟨xt, hxt⟩ : ∃ v, v = x.text := ⟨_, rfl⟩
        obtain ⟨xm, hxm'⟩ : ∃ v, v = x.names.length := ⟨_, rfl⟩
        obtain ⟨xl, hxl⟩ : ∃ v, v = x.kids.length := ⟨_, rfl⟩
        rw [← hxk] at c0
        rw [← hxn] at c1
        rw [← hxt] at c2
        rw [← hxm'] at c3
        rw [← hxl] at c4
        rw [← hxk, ← hxn, ← hxt, ← hxm', ← hxl] at htr
        rw [← hxk] at HAN
        replace c0 := (HNX.out.cell hg).trans c0
        replace c1 := (HNX.out.cell hg).trans c1
        replace c2 := (HNX.out.cell hg).trans c2
        replace c3 := (HNX.out.cell hg).trans c3
        replace c4 := (HNX.out.cell hg).trans c4
        have HTX : Hid (TreeIs w S x (.agg #[.int .i64 xk, .int .i64 xn, .string xt, .slice xan xm xcn, .slice xak xl xck])) := htr
        have HSTA : Hid (FiveAt wr (w.heap.size + 1 + 1) (.int .i64 o0) (.int .i64 o1) (.string o2) (.slice o3 o4 o5) (.slice o6 o7 o8) ∧ TreeIs wr (fun b => (S b ∧ b < w.heap.size) ∨ w.heap.size + 3 ≤ b) (accT nm ks m) (.agg #[.int .i64 o0, .int .i64 o1, .string o2, .slice o3 o4 o5, .slice o6 o7 o8]) ∧ FiveAt wr (w.heap.size + 1) (.int .i64 0) (.int .i64 0) (.string ⟨#[]⟩) (.slice none 0 0) (.slice none 0 0) ∧ wr.cell? ⟨w.heap.size, 3, none⟩ = some (.slice (some ⟨gn, 0, none⟩) nm.length cn)) := ⟨hF, hA, hR, hv3⟩
        have i0 : (0 : Int) ≤ (m : Int) := by omega
        have i1 : (m : Int) < (ks.length : Int) := by omega
        have i2 : (m : Int) < (nm.length : Int) := by omega
        have hgw : g < wr.heap.size := by omega
        have al : ∀ o, Below wr.heap.size wr (wr.alloc o) := fun o => (Below.refl _ _).alloc (Nat.le_refl _) o
        have HNA : Hid (wr.cell? ⟨gn, m, none⟩ = some (.string a)) := (HNX.out.cell hgn).trans hna
        clear hxk hxn hxt hxm' hxl htr hF hA hR hv3 hkid hnam hna hxm hnx HS hx ha hlen
        have HALST : Hid (∀ o, ClnSt w S nm ks (some ⟨gn, 0, none⟩) cn m (wr.alloc o)) := fun o => ⟨o0, o1, o2, o3, o4, o5, o6, o7, o8, HSTA.out.1.below (al o) (by omega), TreeIs.keep (fun b _ hlt => (al o).block b hlt) (fun b hS _ => hS) (al o).size _ _ HSTA.out.2.1, HSTA.out.2.2.1.below (al o) (by omega), ((al o).cell (by show w.heap.size < _; omega)).trans HSTA.out.2.2.2⟩
        by_cases h1 : xk = 1
        · have HE : Hid (accT nm ks (m + 1) = accT nm ks m) := HAN.out.1 h1
          have HBA : Hid (∀ o, Below w.heap.size w (wr.alloc o)) := fun o => HNX.out.trans ((al o).mono HNX.out.size)
          rw [h1] at c0
          go_wp2_with fail
          go_roundw
          case rel =>
            refine ⟨m + 1, by omega, by go_num, ?_, HBA.out _, by simp; omega⟩
            obtain ⟨p0, p1, p2, p3, p4, p5, p6, p7, p8, r1, r2, r3, r4⟩ := HALST.out _
            exact ⟨p0, p1, p2, p3, p4, p5, p6, p7, p8, r1, by rw [HE.out]; exact r2, r3, r4⟩
          case measure => simp [intOf]; omega
        · have HE : Hid (accT nm ks (m + 1) = putK (accT nm ks m) a x.cln) := HAN.out.2 h1
          have h1b : (xk != 1) = true := by simpa using h1
          obtain ⟨W, hW⟩ : ∃ W, W = wr.alloc (.cells #[.int .i64 xk, .int .i64 xn, .string xt, .slice xan xm xcn, .slice xak xl xck] 41) := ⟨_, rfl⟩
          have bW : Below wr.heap.size wr W := by rw [hW]; exact al _
          have HST1 : Hid (FiveAt W (w.heap.size + 1 + 1) (.int .i64 o0) (.int .i64 o1) (.string o2) (.slice o3 o4 o5) (.slice o6 o7 o8) ∧ TreeIs W (fun b => (S b ∧ b < w.heap.size) ∨ w.heap.size + 3 ≤ b) (accT nm ks m) (.agg #[.int .i64 o0, .int .i64 o1, .string o2, .slice o3 o4 o5, .slice o6 o7 o8]) ∧ FiveAt W (w.heap.size + 1) (.int .i64 0) (.int .i64 0) (.string ⟨#[]⟩) (.slice none 0 0) (.slice none 0 0) ∧ W.cell? ⟨w.heap.size, 3, none⟩ = some (.slice (some ⟨gn, 0, none⟩) nm.length cn)) := ⟨HSTA.out.1.below bW (by omega), TreeIs.keep (fun b _ hlt => bW.block b hlt) (fun b hS _ => hS) bW.size _ _ HSTA.out.2.1, HSTA.out.2.2.1.below bW (by omega), (bW.cell (by show w.heap.size < _; omega)).trans HSTA.out.2.2.2⟩
          have K1 : (W.cell? ⟨w.heap.size + 1 + 1, 0, none⟩ = some (.int .i64 o0) ∧ W.cell? ⟨w.heap.size + 1 + 1, 1, none⟩ = some (.int .i64 o1) ∧ W.cell? ⟨w.heap.size + 1 + 1, 2, none⟩ = some (.string o2) ∧ W.cell? ⟨w.heap.size + 1 + 1, 3, none⟩ = some (.slice o3 o4 o5) ∧ W.cell? ⟨w.heap.size + 1 + 1, 4, none⟩ = some (.slice o6 o7 o8)) ∧ W.cell? ⟨w.heap.size, 3, none⟩ = some (.slice (some ⟨gn, 0, none⟩) nm.length cn) ∧ W.cell? ⟨gn, m, none⟩ = some (.string a) ∧ (W.cell? ⟨wr.heap.size, 0, none⟩ = some (.int .i64 xk) ∧ W.cell? ⟨wr.heap.size, 1, none⟩ = some (.int .i64 xn) ∧ W.cell? ⟨wr.heap.size, 2, none⟩ = some (.string xt) ∧ W.cell? ⟨wr.heap.size, 3, none⟩ = some (.slice xan xm xcn) ∧ W.cell? ⟨wr.heap.size, 4, none⟩ = some (.slice xak xl xck)) := ⟨HST1.out.1.1, HST1.out.2.2.2, (bW.cell (by show gn < _; omega)).trans HNA.out, by rw [hW]; simp [go_sem], by rw [hW]; simp [go_sem], by rw [hW]; simp [go_sem], by rw [hW]; simp [go_sem], by rw [hW]; simp [go_sem]⟩
          have zW : wr.heap.size < W.heap.size := by rw [hW]; simp
          have HBW : Hid (Below w.heap.size w W) := HNX.out.trans (bW.mono HNX.out.size)
          have HTX1 : Hid (TreeIs W.drew (fun b => S b ∧ b < w.heap.size) x (.agg #[.int .i64 xk, .int .i64 xn, .string xt, .slice xan xm xcn, .slice xak xl xck])) := TreeIs.keep (fun b _ hlt => HBW.out.drew.block b hlt) (fun b hS hlt => ⟨hS, hlt⟩) HBW.out.drew.size _ _ HTX.out
          have q2W : w.heap.size + 1 + 1 < W.heap.size := by omega
          have q0W : w.heap.size < W.heap.size := by omega
          have qnW : gn < W.heap.size := by omega
          have HCO : Hid (Calls Tryd.prog 14 #[(.agg #[.int .i64 xk, .int .i64 xn, .string xt, .slice xan xm xcn, .slice xak xl xck])] W.drew fun e w' => ∃ (k n : Int) (tx : ByteArray) (an : Option Addr) (mn cn : Nat) (ak : Option Addr) (mk ck : Nat), e = .returned (.agg #[.int .i64 k, .int .i64 n, .string tx, .slice an mn cn, .slice ak mk ck]) ∧ TreeIs w' (fun b => (S b ∧ b < w.heap.size) ∨ W.heap.size ≤ b) x.cln (.agg #[.int .i64 k, .int .i64 n, .string tx, .slice an mn cn, .slice ak mk ck]) ∧ Below W.heap.size W w') := (HXS.out.1 _ _ _ HTX1.out HXS.out.2.1 HXS.out.2.2).mono fun e w' ⟨e1, e2, e3, e4, e5, e6, e7, e8, e9, r1, r2, r3⟩ => ⟨e1, e2, e3, e4, e5, e6, e7, e8, e9, r1, r2, ((Below.refl _ W).drew).trans r3⟩
          clear HALST al HSTA HTX HTX1 bW HNA
          go_wp2_with fail
          rw [← hW]
          clear hW
          go_wp2_with fail
          have qxW : wr.heap.size < W.heap.size := zW
          have hz3 : w.heap.size + 3 ≤ wr.heap.size := hz
          obtain ⟨⟨k0, k1, k2, k3, k4⟩, k5, k6, k7, k8, k9, k10, k11⟩ := id K1
          go_region_with (first | (go_at_call 14; refine HCO.out.mono ?_; rintro e w2 ⟨y0, y1, y2, y3, y4, y5, y6, y7, y8, rfl, hty, hb2⟩; have z2 := hb2.size; have K2 : (w2.cell? ⟨w.heap.size + 1 + 1, 0, none⟩ = some (.int .i64 o0) ∧ w2.cell? ⟨w.heap.size + 1 + 1, 1, none⟩ = some (.int .i64 o1) ∧ w2.cell? ⟨w.heap.size + 1 + 1, 2, none⟩ = some (.string o2) ∧ w2.cell? ⟨w.heap.size + 1 + 1, 3, none⟩ = some (.slice o3 o4 o5) ∧ w2.cell? ⟨w.heap.size + 1 + 1, 4, none⟩ = some (.slice o6 o7 o8)) ∧ w2.cell? ⟨w.heap.size, 3, none⟩ = some (.slice (some ⟨gn, 0, none⟩) nm.length cn) ∧ w2.cell? ⟨gn, m, none⟩ = some (.string a) ∧ (w2.cell? ⟨wr.heap.size, 0, none⟩ = some (.int .i64 xk) ∧ w2.cell? ⟨wr.heap.size, 1, none⟩ = some (.int .i64 xn) ∧ w2.cell? ⟨wr.heap.size, 2, none⟩ = some (.string xt) ∧ w2.cell? ⟨wr.heap.size, 3, none⟩ = some (.slice xan xm xcn) ∧ w2.cell? ⟨wr.heap.size, 4, none⟩ = some (.slice xak xl xck)) := ⟨⟨(hb2.cell (p := ⟨w.heap.size + 1 + 1, 0, none⟩) q2W).trans K1.1.1, (hb2.cell (p := ⟨w.heap.size + 1 + 1, 1, none⟩) q2W).trans K1.1.2.1, (hb2.cell (p := ⟨w.heap.size + 1 + 1, 2, none⟩) q2W).trans K1.1.2.2.1, (hb2.cell (p := ⟨w.heap.size + 1 + 1, 3, none⟩) q2W).trans K1.1.2.2.2.1, (hb2.cell (p := ⟨w.heap.size + 1 + 1, 4, none⟩) q2W).trans K1.1.2.2.2.2⟩, (hb2.cell (p := ⟨w.heap.size, 3, none⟩) q0W).trans K1.2.1, (hb2.cell (p := ⟨gn, m, none⟩) qnW).trans K1.2.2.1, (hb2.cell (p := ⟨wr.heap.size, 0, none⟩) qxW).trans K1.2.2.2.1, (hb2.cell (p := ⟨wr.heap.size, 1, none⟩) qxW).trans K1.2.2.2.2.1, (hb2.cell (p := ⟨wr.heap.size, 2, none⟩) qxW).trans K1.2.2.2.2.2.1, (hb2.cell (p := ⟨wr.heap.size, 3, none⟩) qxW).trans K1.2.2.2.2.2.2.1, (hb2.cell (p := ⟨wr.heap.size, 4, none⟩) qxW).trans K1.2.2.2.2.2.2.2⟩; have HTY : Hid (TreeIs w2 (fun b => (S b ∧ b < w.heap.size) ∨ w.heap.size + 3 ≤ b) x.cln (.agg #[.int .i64 y0, .int .i64 y1, .string y2, .slice y3 y4 y5, .slice y6 y7 y8])) := TreeIs.keep (fun _ _ _ => rfl) (fun b h _ => h.imp id (fun h => by omega)) (Nat.le_refl _) _ _ hty; have HTA : Hid (TreeIs w2 (fun b => (S b ∧ b < w.heap.size) ∨ w.heap.size + 3 ≤ b) (accT nm ks m) (.agg #[.int .i64 o0, .int .i64 o1, .string o2, .slice o3 o4 o5, .slice o6 o7 o8])) := TreeIs.keep (fun b _ hlt => hb2.block b hlt) (fun b h _ => h) hb2.size _ _ HST1.out.2.1; have q2V : w.heap.size + 1 + 1 < w2.heap.size := Nat.lt_of_lt_of_le q2W z2; have q0V : w.heap.size < w2.heap.size := Nat.lt_of_lt_of_le q0W z2; have qnV : gn < w2.heap.size := Nat.lt_of_lt_of_le qnW z2; have qxV : wr.heap.size < w2.heap.size := Nat.lt_of_lt_of_le qxW z2; obtain ⟨⟨l0, l1, l2, l3, l4⟩, l5, l6, l7, l8, l9, l10, l11⟩ := id K2) | (go_at_call 29; refine (l1Put_any _ (accT nm ks m) x.cln _ _ a w2 HTA.out HTY.out (acc_named HLEN.out HRS.out.1 m).1 (by have := (acc_named HLEN.out HRS.out.1 m).2; omega)).mono ?_; rintro e w3 ⟨t0, t1, t2, t3, t4, t5, t6, t7, t8, rfl, htt, hb3⟩; have z3 := hb3.size; obtain ⟨⟨d0, d1, d2, d3, d4⟩, f0, f1, f2, f3, f4⟩ := (HST1.out.1.below hb2 q2W).below hb3 q2V; have K3 : (w3.cell? ⟨w.heap.size + 1 + 1, 0, none⟩ = some (.int .i64 o0) ∧ w3.cell? ⟨w.heap.size + 1 + 1, 1, none⟩ = some (.int .i64 o1) ∧ w3.cell? ⟨w.heap.size + 1 + 1, 2, none⟩ = some (.string o2) ∧ w3.cell? ⟨w.heap.size + 1 + 1, 3, none⟩ = some (.slice o3 o4 o5) ∧ w3.cell? ⟨w.heap.size + 1 + 1, 4, none⟩ = some (.slice o6 o7 o8)) ∧ w3.cell? ⟨w.heap.size, 3, none⟩ = some (.slice (some ⟨gn, 0, none⟩) nm.length cn) ∧ w3.cell? ⟨gn, m, none⟩ = some (.string a) ∧ (w3.cell? ⟨wr.heap.size, 0, none⟩ = some (.int .i64 xk) ∧ w3.cell? ⟨wr.heap.size, 1, none⟩ = some (.int .i64 xn) ∧ w3.cell? ⟨wr.heap.size, 2, none⟩ = some (.string xt) ∧ w3.cell? ⟨wr.heap.size, 3, none⟩ = some (.slice xan xm xcn) ∧ w3.cell? ⟨wr.heap.size, 4, none⟩ = some (.slice xak xl xck)) := ⟨⟨(hb3.cell (p := ⟨w.heap.size + 1 + 1, 0, none⟩) q2V).trans K2.1.1, (hb3.cell (p := ⟨w.heap.size + 1 + 1, 1, none⟩) q2V).trans K2.1.2.1, (hb3.cell (p := ⟨w.heap.size + 1 + 1, 2, none⟩) q2V).trans K2.1.2.2.1, (hb3.cell (p := ⟨w.heap.size + 1 + 1, 3, none⟩) q2V).trans K2.1.2.2.2.1, (hb3.cell (p := ⟨w.heap.size + 1 + 1, 4, none⟩) q2V).trans K2.1.2.2.2.2⟩, (hb3.cell (p := ⟨w.heap.size, 3, none⟩) q0V).trans K2.2.1, (hb3.cell (p := ⟨gn, m, none⟩) qnV).trans K2.2.2.1, (hb3.cell (p := ⟨wr.heap.size, 0, none⟩) qxV).trans K2.2.2.2.1, (hb3.cell (p := ⟨wr.heap.size, 1, none⟩) qxV).trans K2.2.2.2.2.1, (hb3.cell (p := ⟨wr.heap.size, 2, none⟩) qxV).trans K2.2.2.2.2.2.1, (hb3.cell (p := ⟨wr.heap.size, 3, none⟩) qxV).trans K2.2.2.2.2.2.2.1, (hb3.cell (p := ⟨wr.heap.size, 4, none⟩) qxV).trans K2.2.2.2.2.2.2.2⟩))
          all_goals
            have HN3 := cln_next HST1.out.1 HST1.out.2.2.1 HST1.out.2.2.2 hb2 hb3 (by omega) HBW.out htt HE.out _ rfl
            have HN4 : Hid (ClnSt w S nm ks (some ⟨gn, 0, none⟩) cn (m + 1) _ ∧ Below w.heap.size w _ ∧ _) := HN3
            clear HN3 htt hty hb2 hb3 K1 K2 K3 d0 d1 d2 d3 d4 f0 f1 f2 f3 f4 k0 k1 k2 k3 k4 k5 k6 k7 k8 k9 k10 k11 l0 l1 l2 l3 l4 l5 l6 l7 l8 l9 l10 l11 c0 c1 c2 c3 c4 HTY HTA
            go_wp2_with fail
            go_roundw
            case rel => exact ⟨m + 1, by omega, by go_num, HN4.out.1, HN4.out.2.1, HN4.out.2.2⟩
            case measure => simp [intOf]; omega
      · obtain rfl : m = ks.length := by omega
        obtain ⟨o0, o1, o2, o3, o4, o5, o6, o7, o8, hF, hA, hR, hv3⟩ := HS.out
        have HQ := hR.set (.int .i64 o0) (.int .i64 o1) (.string o2) (.slice o3 o4 o5) (.slice o6 o7 o8)
        obtain ⟨⟨⟨s0, s1, s2, s3, s4⟩, _⟩, hbb⟩ := id HQ
        have HTF : Hid (TreeIs _ (fun b => S b ∨ w.heap.size ≤ b) (accT nm ks ks.length) (.agg #[.int .i64 o0, .int .i64 o1, .string o2, .slice o3 o4 o5, .slice o6 o7 o8])) := TreeIs.keep (fun b hS hlt => (hbb wr.heap.size).block b hlt (by rcases hS with ⟨_, h⟩ | h <;> omega)) (fun b hS _ => hS.imp (fun h => h.1) (fun h => by omega)) (hbb 0).size _ _ hA
        have HBF : Hid (Below w.heap.size w _) := HNX.out.trans ((hbb w.heap.size).below (Nat.le_refl _) (by omega))
        obtain ⟨⟨d0, d1, d2, d3, d4⟩, _⟩ := hF
        obtain ⟨⟨v0, v1, v2, v3, v4⟩, f0, f1, f2, f3, f4⟩ := hR
        clear hA HQ hbb HS hnx hv3
        go_wp2_with fail
        refine bodyPost_ret (v := .agg #[.int .i64 o0, .int .i64 o1, .string o2, .slice o3 o4 o5, .slice o6 o7 o8]) (by simp [results, Tryd.results14, go_sem, s0, s1, s2, s3, s4]) rfl ⟨_, _, _, _, _, _, _, _, _, rfl, ?_, HBF.out⟩
        rw [HC.out]
        exact HTF.out
  · have HC : Hid (Tr.cln (.mk k n t nm ks) = .mk k n t nm ks) := by show _ = _; rw [Tr.cln, if_neg h7]
    clear hnm hk
    have h7b : (k != 7) = true := by simpa using h7
    have al : ∀ o o', Below w.heap.size w ((w.alloc o).alloc o') := fun o o' => ((Below.refl _ _).alloc (Nat.le_refl _) o).alloc (by simp) o'
    go_enter Tryd.func14, Tryd.ntmps14
    go_wp2_with fail
    refine bodyPost_ret (v := .agg #[.int .i64 k, .int .i64 n, .string t, .slice an nm.length cn, .slice ak ks.length ck]) (by simp [results, Tryd.results14, go_sem]) rfl ⟨_, _, _, _, _, _, _, _, _, rfl, ?_, al _ _⟩
    rw [HC.out]
    exact TreeIs.keep (fun b _ hlt => (al _ _).block b hlt) (fun b hS _ => .inl hS) (al _ _).size _ _ HT.out

theorem l4CleanOf_any (t : Tr) : ClnSaid t := Tr.ind (P := ClnSaid) (fun k n t nm ks ih => l4CleanOf_step k n t nm ks ih) t

end Go.Proofs.YtbjifclgifkjmaaDoor
