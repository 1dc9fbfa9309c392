/- The specification's order of trees. -/
import Derived.Test.YtdahlecehencpaaDoorTreeF
import Derived.Test.YtdahlecehencpaaDoorTrCmp
import Derived.Deep.RegionHeld3
namespace Go.Proofs.YtdahlecehencpaaDoor
open Go.RowKit
set_option linter.unusedVariables false

theorem less_cmp : ∀ a b : List UInt8, Lib.compareBytes a b = if Op.bytesLess a b = true then -1 else if Op.bytesLess b a = true then 1 else 0
  | [], [] => by simp [Lib.compareBytes, Op.bytesLess]
  | [], _ :: _ => by simp [Lib.compareBytes, Op.bytesLess]
  | _ :: _, [] => by simp [Lib.compareBytes, Op.bytesLess]
  | x :: a, y :: b => by
    have ih := less_cmp a b
    unfold Lib.compareBytes Op.bytesLess
    by_cases h1 : x < y
    · simp [h1]
    · by_cases h2 : y < x
      · have h3 : ¬ x < y := h1
        simp [h1, h2]
        intro e
        subst e
        exact absurd h2 (UInt8.lt_irrefl _)
      · have e : x = y := UInt8.le_antisymm (UInt8.not_lt.1 h2) (UInt8.not_lt.1 h1)
        subst e
        simp [h1, ih]
theorem txt_cmp (a b : ByteArray) : txtCmp a b = if Op.bytesLess a.toList b.toList = true then -1 else if (a.toList == b.toList) = true then 0 else 1 := by
  unfold txtCmp
  have h := less_cmp a.data.toList b.data.toList
  rw [ByteArray.toList_eq, ByteArray.toList_eq]
  by_cases h1 : Op.bytesLess a.data.toList b.data.toList = true
  · rw [if_pos h1] at h ⊢; exact h
  · rw [if_neg h1] at h ⊢
    by_cases h2 : (a.data.toList == b.data.toList) = true
    · rw [if_pos h2, eq_of_beq h2, compareBytes_self]
    · rw [if_neg h2]
      by_cases h3 : Op.bytesLess b.data.toList a.data.toList = true
      · rw [if_pos h3] at h; exact h
      · rw [if_neg h3] at h
        exact absurd (compareBytes_zero _ _ h) (fun e => h2 (by rw [e]; simp))

set_option maxHeartbeats 400000 in
theorem l2Ints_any (x y : Int) (w : World) : Calls Tryd.prog 86 #[.int .i64 x, .int .i64 y] w fun e w' => e = .returned (.int .i64 (intCmp x y)) ∧ w' = w := by
  unfold intCmp
  by_cases h1 : x < y
  · rw [if_pos h1]
    go_enter Tryd.func86, Tryd.ntmps86
    go_wp2
    go_ret
    exact ⟨rfl, rfl⟩
  · rw [if_neg h1]
    by_cases h2 : y < x
    · rw [if_pos h2]
      go_enter Tryd.func86, Tryd.ntmps86
      go_wp2
      go_ret
      exact ⟨rfl, rfl⟩
    · rw [if_neg h2]
      go_enter Tryd.func86, Tryd.ntmps86
      go_wp2
      go_ret
      exact ⟨rfl, rfl⟩

set_option maxHeartbeats 400000 in
theorem l2Texts_any (x y : ByteArray) (w : World) : Calls Tryd.prog 87 #[.string x, .string y] w fun e w' => e = .returned (.int .i64 (txtCmp x y)) ∧ w' = w := by
  rw [txt_cmp]
  cases h1 : Op.bytesLess x.toList y.toList with
  | true =>
    go_enter Tryd.func87, Tryd.ntmps87
    go_wp2
    go_ret
    exact ⟨by simp, rfl⟩
  | false =>
    cases h2 : (x.toList == y.toList) with
    | true =>
      go_enter Tryd.func87, Tryd.ntmps87
      go_wp2
      go_ret
      exact ⟨by simp, rfl⟩
    | false =>
      go_enter Tryd.func87, Tryd.ntmps87
      go_wp2
      go_ret
      exact ⟨by simp, rfl⟩

theorem cmps_step {ks ks' : List Tr} {f g : Nat → ByteArray} {m : Nat} {x y : Tr} (hx : ks[m]? = some x) (hy : ks'[m]? = some y) :
    Tr.cmps (ks.drop m) f g m (ks'.drop m) = or2 (txtCmp (f m) (g m)) (or2 (x.cmp y) (Tr.cmps (ks.drop (m + 1)) f g (m + 1) (ks'.drop (m + 1)))) := by
  obtain ⟨h1, e1⟩ := List.getElem?_eq_some_iff.1 hx
  obtain ⟨h2, e2⟩ := List.getElem?_eq_some_iff.1 hy
  rw [List.drop_eq_getElem_cons h1, List.drop_eq_getElem_cons h2, e1, e2, Tr.cmps]
theorem cmps_more {ks : List Tr} {f g : Nat → ByteArray} {m : Nat} (h : m < ks.length) : Tr.cmps (ks.drop m) f g m [] = 1 := by
  rw [List.drop_eq_getElem_cons h, Tr.cmps]
theorem cmps_done {ks' : List Tr} {f g : Nat → ByteArray} {m l : Nat} (hl : l = m) (h : m ≤ ks'.length) : Tr.cmps [] f g m (ks'.drop m) = intCmp l ks'.length := by
  subst hl
  unfold intCmp
  by_cases h1 : l < ks'.length
  · rw [List.drop_eq_getElem_cons h1, Tr.cmps, if_pos (by omega)]
  · rw [List.drop_eq_nil_of_le (by omega), Tr.cmps, if_neg (by omega), if_neg (by omega)]

def CmpSaid (t : Tr) : Prop := ∀ (u : Tr) (v1 v2 : Value) (w : World), Tree w t v1 → Tree w u v2 → t.named → u.named → t.cnt ≤ 2 ^ 20 → u.cnt ≤ 2 ^ 20 →
    Calls Tryd.prog 52 #[v1, v2] w fun e w' => e = .returned (.int .i64 (t.cmp u)) ∧ Below w.heap.size w w'

set_option maxRecDepth 100000 in
set_option maxHeartbeats 4000000 in
theorem l2Compare_step (k n : Int) (t : ByteArray) (nm : List ByteArray) (ks : List Tr) (ih : ∀ x ∈ ks, CmpSaid x) : CmpSaid (.mk k n t nm ks) := by
  intro u v1 v2 w h1 h2 hn1 hn2 hc1 hc2
  obtain ⟨k', n', t', nm', ks'⟩ := u
  obtain ⟨an, cn, ak, ck, rfl, hnm, hk⟩ := h1.open
  obtain ⟨an', cn', ak', ck', rfl, hnm', hk'⟩ := h2.open
  rw [Tr.cnt] at hc1 hc2
  have hl1 := Tr.len_cnts ks
  have hl2 := Tr.len_cnts ks'
  rw [Tr.named] at hn1 hn2
  have HN1 : Hid ((k = 7 → nm.length = ks.length) ∧ ∀ x ∈ ks, x.named) := ⟨hn1.1, Tr.nameds_mem.1 hn1.2⟩
  have HN2 : Hid ((k' = 7 → nm'.length = ks'.length) ∧ ∀ x ∈ ks', x.named) := ⟨hn2.1, Tr.nameds_mem.1 hn2.2⟩
  have HIH : Hid (∀ x ∈ ks, CmpSaid x) := ih
  have HA1 : Hid (NamsAt w (fun _ => True) an nm) := hnm
  have HA2 : Hid (NamsAt w (fun _ => True) an' nm') := hnm'
  have HK1 : Hid (ks = [] ∨ ∃ g, ak = some ⟨g, 0, none⟩ ∧ g < w.heap.size ∧ ∀ i x, ks[i]? = some x → KidAt w (fun _ => True) x g i) := hk
  have HK2 : Hid (ks' = [] ∨ ∃ g, ak' = some ⟨g, 0, none⟩ ∧ g < w.heap.size ∧ ∀ i x, ks'[i]? = some x → KidAt w (fun _ => True) x g i) := hk'
  clear ih hnm hnm' hk hk' hn1 hn2 h1 h2
  have HR : Hid ((Tr.mk k n t nm ks).cmp (.mk k' n' t' nm' ks') = or2 (intCmp k k') (if k = 4 then intCmp n n' else if k = 5 then txtCmp t t' else Tr.cmps ks (Tr.nmOf k nm) (Tr.nmOf k nm') 0 ks')) := by
    show _ = _
    rw [Tr.cmp]
    rfl
  obtain ⟨C, hC⟩ : ∃ C, C = intCmp k k' := ⟨_, rfl⟩
  have HC : Hid (C = intCmp k k') := hC
  clear hC
  go_enter Tryd.func52, Tryd.ntmps52
  go_wp2_with fail
  refine (l2Ints_any k k' _).mono ?_
  rintro e w' ⟨rfl, rfl⟩
  rw [← HC.out]
  obtain ⟨W, hW⟩ : ∃ W, W = (w.alloc (.cells #[.int .i64 k, .int .i64 n, .string t, .slice an nm.length cn, .slice ak ks.length ck] 75)).alloc (.cells #[.int .i64 k', .int .i64 n', .string t', .slice an' nm'.length cn', .slice ak' ks'.length ck'] 75) := ⟨_, rfl⟩
  have hp : W.cell? ⟨w.heap.size, 0, none⟩ = some (.int .i64 k) ∧ W.cell? ⟨w.heap.size, 1, none⟩ = some (.int .i64 n) ∧ W.cell? ⟨w.heap.size, 2, none⟩ = some (.string t) ∧ W.cell? ⟨w.heap.size, 3, none⟩ = some (.slice an nm.length cn) ∧ W.cell? ⟨w.heap.size, 4, none⟩ = some (.slice ak ks.length ck) := by rw [hW]; simp [go_sem]
  have hq : W.cell? ⟨w.heap.size + 1, 0, none⟩ = some (.int .i64 k') ∧ W.cell? ⟨w.heap.size + 1, 1, none⟩ = some (.int .i64 n') ∧ W.cell? ⟨w.heap.size + 1, 2, none⟩ = some (.string t') ∧ W.cell? ⟨w.heap.size + 1, 3, none⟩ = some (.slice an' nm'.length cn') ∧ W.cell? ⟨w.heap.size + 1, 4, none⟩ = some (.slice ak' ks'.length ck') := by rw [hW]; simp [go_sem]
  have hWz : W.heap.size = w.heap.size + 2 := by rw [hW]; simp
  have HBW : Hid (Below w.heap.size w W) := by rw [hW]; exact ((Below.refl _ _).alloc (Nat.le_refl _) _).alloc (by simp) _
  rw [← hW]
  obtain ⟨p0, p1, p2, p3, p4⟩ := hp
  obtain ⟨q0, q1, q2, q3, q4⟩ := hq
  clear hW
  by_cases hC0 : C = 0
  · have hkk : k = k' := intCmp_zero.1 (by rw [← HC.out]; exact hC0)
    subst hkk
    subst hC0
    have HR2 : Hid ((Tr.mk k n t nm ks).cmp (.mk k n' t' nm' ks') = if k = 4 then intCmp n n' else if k = 5 then txtCmp t t' else Tr.cmps ks (Tr.nmOf k nm) (Tr.nmOf k nm') 0 ks') := by
      show _ = _
      rw [HR.out, ← HC.out, or2_zero]
    clear HR HC
    by_cases h4 : k = 4
    · subst h4
      go_wp2_with fail
      refine (l2Ints_any n n' _).mono ?_
      rintro e w' ⟨rfl, rfl⟩
      go_wp2_with fail
      go_ret
      exact ⟨by rw [HR2.out]; rfl, HBW.out⟩
    · by_cases h5 : k = 5
      · subst h5
        go_wp2_with fail
        refine (l2Texts_any t t' _).mono ?_
        rintro e w' ⟨rfl, rfl⟩
        go_wp2_with fail
        go_ret
        exact ⟨by rw [HR2.out]; rfl, HBW.out⟩
      · have e4 : (k == 4) = false := by simpa using h4
        have e5 : (k == 5) = false := by simpa using h5
        rw [if_neg h4, if_neg h5] at HR2
        go_wp2_with fail
        go_loopw [36] (fun i wr => ∃ m : Nat, m ≤ ks.length ∧ m ≤ ks'.length ∧ i = .int .i64 m ∧ Hid (Tr.cmps ks (Tr.nmOf k nm) (Tr.nmOf k nm') 0 ks' = Tr.cmps (ks.drop m) (Tr.nmOf k nm) (Tr.nmOf k nm') m (ks'.drop m)) ∧ Below W.heap.size W wr) (fun i _ => ks.length - (intOf i).toNat)
        case atStart => exact ⟨0, Nat.zero_le _, Nat.zero_le _, rfl, rfl, Below.refl _ _⟩
        case round =>
          obtain ⟨m, hm1, hm2, rfl, HL, hnx⟩ := hrel
          have hz := hnx.size
          have h0w : w.heap.size < wr.heap.size := by omega
          have h1w : w.heap.size + 1 < wr.heap.size := by omega
          have hwb : Below w.heap.size w wr := HBW.out.trans (hnx.mono HBW.out.size)
          have u0 : wr.cell? ⟨w.heap.size, 0, none⟩ = some (.int .i64 k) := (hnx.cell (by show w.heap.size < _; omega)).trans p0
          have u3 : wr.cell? ⟨w.heap.size, 3, none⟩ = some (.slice an nm.length cn) := (hnx.cell (by show w.heap.size < _; omega)).trans p3
          have u4 : wr.cell? ⟨w.heap.size, 4, none⟩ = some (.slice ak ks.length ck) := (hnx.cell (by show w.heap.size < _; omega)).trans p4
          have y3 : wr.cell? ⟨w.heap.size + 1, 3, none⟩ = some (.slice an' nm'.length cn') := (hnx.cell (by show w.heap.size + 1 < _; omega)).trans q3
          have y4 : wr.cell? ⟨w.heap.size + 1, 4, none⟩ = some (.slice ak' ks'.length ck') := (hnx.cell (by show w.heap.size + 1 < _; omega)).trans q4
          by_cases hlt : m < ks.length
          · by_cases hlt2 : m < ks'.length
            · obtain ⟨x, hx⟩ : ∃ x, ks[m]? = some x := ⟨ks[m], List.getElem?_eq_getElem hlt⟩
              obtain ⟨y, hy⟩ : ∃ y, ks'[m]? = some y := ⟨ks'[m], List.getElem?_eq_getElem hlt2⟩
              rcases HK1.out with h0 | ⟨g, rfl, hg, hkid⟩
              · rw [h0] at hlt; simp at hlt
              rcases HK2.out with h0 | ⟨g', rfl, hg', hkid'⟩
              · rw [h0] at hlt2; simp at hlt2
              have hkp : ∀ b', True → b' < w.heap.size → wr.heap[b']? = w.heap[b']? := fun b' _ hl' => hwb.block b' hl'
              obtain ⟨xan, xcn, xak, xck, c0, c1, c2, c3, c4, htx⟩ := ((hkid m x hx).keep hkp (fun _ _ _ => trivial) hwb.size (hwb.block g hg)).cells
              obtain ⟨yan, ycn, yak, yck, d0, d1, d2, d3, d4, hty⟩ := ((hkid' m y hy).keep hkp (fun _ _ _ => trivial) hwb.size (hwb.block g' hg')).cells
              have hxm := List.mem_of_getElem? hx
              have hym := List.mem_of_getElem? hy
              have HTX : Hid (Tree wr x _) := htx
              have HTY : Hid (Tree wr y _) := hty
              have HS : Hid (CmpSaid x) := HIH.out x hxm
              have HXN : Hid x.named := HN1.out.2 x hxm
              have HYN : Hid y.named := HN2.out.2 y hym
              have hcx : x.cnt ≤ 2 ^ 20 := by have := Tr.cnt_mem hxm; omega
              have hcy : y.cnt ≤ 2 ^ 20 := by have := Tr.cnt_mem hym; omega
              have j0 : (0 : Int) ≤ (m : Int) := by omega
              have j1 : (m : Int) < (ks.length : Int) := by omega
              have j2 : (m : Int) < (ks'.length : Int) := by omega
              have j3 : ((m : Int) == (ks'.length : Int)) = false := by rw [beq_eq_false_iff_ne]; omega
              have hgw : g < wr.heap.size := by omega
              have hgw' : g' < wr.heap.size := by omega
              have HSP := cmps_step (f := Tr.nmOf k nm) (g := Tr.nmOf k nm') hx hy
              rw [← HL.out] at HSP
              have HST : Hid (wr.cell? ⟨w.heap.size, 4, none⟩ = some (.slice (some ⟨g, 0, none⟩) ks.length ck) ∧ wr.cell? ⟨w.heap.size + 1, 4, none⟩ = some (.slice (some ⟨g', 0, none⟩) ks'.length ck') ∧ wr.cell? ⟨g, m * 5, none⟩ = some (.int .i64 x.kind) ∧ wr.cell? ⟨g, m * 5 + 1, none⟩ = some (.int .i64 x.num) ∧ wr.cell? ⟨g, m * 5 + 2, none⟩ = some (.string x.text) ∧ wr.cell? ⟨g, m * 5 + 3, none⟩ = some (.slice xan x.names.length xcn) ∧ wr.cell? ⟨g, m * 5 + 4, none⟩ = some (.slice xak x.kids.length xck) ∧ wr.cell? ⟨g', m * 5, none⟩ = some (.int .i64 y.kind) ∧ wr.cell? ⟨g', m * 5 + 1, none⟩ = some (.int .i64 y.num) ∧ wr.cell? ⟨g', m * 5 + 2, none⟩ = some (.string y.text) ∧ wr.cell? ⟨g', m * 5 + 3, none⟩ = some (.slice yan y.names.length ycn) ∧ wr.cell? ⟨g', m * 5 + 4, none⟩ = some (.slice yak y.kids.length yck)) := ⟨u4, y4, c0, c1, c2, c3, c4, d0, d1, d2, d3, d4⟩
              clear hkid hkid' htx hty hx hy c0 c1 c2 c3 c4 d0 d1 d2 d3 d4 hkp
              by_cases h7 : k = 7
              · have hnl := HN1.out.1 h7
                have hnl' := HN2.out.1 h7
                rcases HA1.out with h0 | ⟨gn, rfl, _, hgn, hnc⟩
                · rw [h0] at hnl; simp at hnl; omega
                rcases HA2.out with h0 | ⟨gn', rfl, _, hgn', hnc'⟩
                · rw [h0] at hnl'; simp at hnl'; omega
                have s1 : wr.cell? ⟨gn, m, none⟩ = some (.string (nm.getD m ByteArray.empty)) := (hwb.cell hgn).trans (hnc m (by omega))
                have s2 : wr.cell? ⟨gn', m, none⟩ = some (.string (nm'.getD m ByteArray.empty)) := (hwb.cell hgn').trans (hnc' m (by omega))
                have hf1 : Tr.nmOf k nm m = nm.getD m ByteArray.empty := by unfold Tr.nmOf; rw [if_pos h7]
                have hf2 : Tr.nmOf k nm' m = nm'.getD m ByteArray.empty := by unfold Tr.nmOf; rw [if_pos h7]
                rw [hf1, hf2] at HSP
                obtain ⟨nx, hnx1⟩ : ∃ nx, nx = nm.getD m ByteArray.empty := ⟨_, rfl⟩
                obtain ⟨ny, hny1⟩ : ∃ ny, ny = nm'.getD m ByteArray.empty := ⟨_, rfl⟩
                rw [← hnx1] at s1 HSP
                rw [← hny1] at s2 HSP
                have j4 : (m : Int) < (nm.length : Int) := by omega
                have j5 : (m : Int) < (nm'.length : Int) := by omega
                subst h7
                clear hnc hnc' hf1 hf2 hnx1 hny1 hnl hnl'
                have HSP1 : Hid (_ = _) := HSP
                clear HSP
                go_wp2_with fail
                go_region_held3 (fun w' => w'.cell? ⟨w.heap.size, 3, none⟩ = some (.slice (some ⟨gn, 0, none⟩) nm.length cn) ∧ w'.cell? ⟨w.heap.size + 1, 3, none⟩ = some (.slice (some ⟨gn', 0, none⟩) nm'.length cn') ∧ w'.cell? ⟨gn, m, none⟩ = some (.string nx) ∧ w'.cell? ⟨gn', m, none⟩ = some (.string ny)) (exact ⟨u3, y3, s1, s2⟩)
                  ((go_at_call 87; refine (l2Texts_any nx ny _).mono ?_; rintro e w2 ⟨rfl, rfl⟩))
                obtain ⟨E, hE⟩ : ∃ E, E = txtCmp nx ny := ⟨_, rfl⟩
                rw [← hE]
                have HSP : Hid (_ = _) := HSP1.out
                rw [← hE] at HSP
                clear hE HSP1
                by_cases hE0 : E = 0
                · subst hE0
                  rw [or2_zero] at HSP
                  go_wp2_with fail
                  go_region_held3 (fun w' => w'.cell? ⟨w.heap.size, 4, none⟩ = some (.slice (some ⟨g, 0, none⟩) ks.length ck) ∧ w'.cell? ⟨w.heap.size + 1, 4, none⟩ = some (.slice (some ⟨g', 0, none⟩) ks'.length ck') ∧ w'.cell? ⟨g, m * 5, none⟩ = some (.int .i64 x.kind) ∧ w'.cell? ⟨g, m * 5 + 1, none⟩ = some (.int .i64 x.num) ∧ w'.cell? ⟨g, m * 5 + 2, none⟩ = some (.string x.text) ∧ w'.cell? ⟨g, m * 5 + 3, none⟩ = some (.slice xan x.names.length xcn) ∧ w'.cell? ⟨g, m * 5 + 4, none⟩ = some (.slice xak x.kids.length xck) ∧ w'.cell? ⟨g', m * 5, none⟩ = some (.int .i64 y.kind) ∧ w'.cell? ⟨g', m * 5 + 1, none⟩ = some (.int .i64 y.num) ∧ w'.cell? ⟨g', m * 5 + 2, none⟩ = some (.string y.text) ∧ w'.cell? ⟨g', m * 5 + 3, none⟩ = some (.slice yan y.names.length ycn) ∧ w'.cell? ⟨g', m * 5 + 4, none⟩ = some (.slice yak y.kids.length yck)) (first | exact HST.out | exact HST2.out)
                    ((go_at_call 52; refine (HS.out y _ _ _ (HTX.out.below ((Below.refl _ _).drew.drew)) (HTY.out.below ((Below.refl _ _).drew.drew)) HXN.out HYN.out hcx hcy).mono ?_; rintro e w2 ⟨rfl, hb2⟩; have HST2 : Hid (w2.cell? ⟨w.heap.size, 4, none⟩ = some (.slice (some ⟨g, 0, none⟩) ks.length ck) ∧ w2.cell? ⟨w.heap.size + 1, 4, none⟩ = some (.slice (some ⟨g', 0, none⟩) ks'.length ck') ∧ w2.cell? ⟨g, m * 5, none⟩ = some (.int .i64 x.kind) ∧ w2.cell? ⟨g, m * 5 + 1, none⟩ = some (.int .i64 x.num) ∧ w2.cell? ⟨g, m * 5 + 2, none⟩ = some (.string x.text) ∧ w2.cell? ⟨g, m * 5 + 3, none⟩ = some (.slice xan x.names.length xcn) ∧ w2.cell? ⟨g, m * 5 + 4, none⟩ = some (.slice xak x.kids.length xck) ∧ w2.cell? ⟨g', m * 5, none⟩ = some (.int .i64 y.kind) ∧ w2.cell? ⟨g', m * 5 + 1, none⟩ = some (.int .i64 y.num) ∧ w2.cell? ⟨g', m * 5 + 2, none⟩ = some (.string y.text) ∧ w2.cell? ⟨g', m * 5 + 3, none⟩ = some (.slice yan y.names.length ycn) ∧ w2.cell? ⟨g', m * 5 + 4, none⟩ = some (.slice yak y.kids.length yck)) := ⟨(hb2.cell h0w).trans HST.out.1, (hb2.cell h1w).trans HST.out.2.1, (hb2.cell hgw).trans HST.out.2.2.1, (hb2.cell hgw).trans HST.out.2.2.2.1, (hb2.cell hgw).trans HST.out.2.2.2.2.1, (hb2.cell hgw).trans HST.out.2.2.2.2.2.1, (hb2.cell hgw).trans HST.out.2.2.2.2.2.2.1, (hb2.cell hgw').trans HST.out.2.2.2.2.2.2.2.1, (hb2.cell hgw').trans HST.out.2.2.2.2.2.2.2.2.1, (hb2.cell hgw').trans HST.out.2.2.2.2.2.2.2.2.2.1, (hb2.cell hgw').trans HST.out.2.2.2.2.2.2.2.2.2.2.1, (hb2.cell hgw').trans HST.out.2.2.2.2.2.2.2.2.2.2.2⟩))
                  have HB2 : Hid (Below W.heap.size W w2) := hnx.trans ((((Below.refl _ _).drew.drew)).mono hz |>.trans (hb2.mono hz))
                  obtain ⟨D, hD⟩ : ∃ D, D = x.cmp y := ⟨_, rfl⟩
                  rw [← hD]
                  rw [← hD] at HSP
                  clear hb2 HST2 hD
                  by_cases hD0 : D = 0
                  · subst hD0
                    rw [or2_zero] at HSP
                    go_wp2_with fail
                    go_roundw
                    case rel => exact ⟨m + 1, by omega, by omega, by go_num, HSP, HB2.out⟩
                    case measure => simp [intOf]; omega
                  · have hDb : (D == 0) = false := by simpa using hD0
                    rw [or2_ne hD0] at HSP
                    go_wp2_with fail
                    go_ret
                    exact ⟨by rw [HR2.out, HSP.out]; rfl, HBW.out.trans (HB2.out.mono HBW.out.size)⟩
                · have hEb : (E == 0) = false := by simpa using hE0
                  rw [or2_ne hE0] at HSP
                  go_wp2_with fail
                  go_ret
                  exact ⟨by rw [HR2.out, HSP.out]; rfl, HBW.out.trans ((hnx.trans ((Below.refl _ _).drew.mono hz)).mono HBW.out.size)⟩
              · have h7b : (k == 7) = false := by simpa using h7
                have hf1 : Tr.nmOf k nm m = ByteArray.empty := by unfold Tr.nmOf; rw [if_neg h7]
                have hf2 : Tr.nmOf k nm' m = ByteArray.empty := by unfold Tr.nmOf; rw [if_neg h7]
                rw [hf1, hf2, txtCmp_self, or2_zero] at HSP
                have HSP1 : Hid (_ = _) := HSP
                clear HSP hf1 hf2
                have HSP : Hid (_ = _) := HSP1.out
                clear HSP1
                go_wp2_with fail
                go_region_held3 (fun w' => w'.cell? ⟨w.heap.size, 4, none⟩ = some (.slice (some ⟨g, 0, none⟩) ks.length ck) ∧ w'.cell? ⟨w.heap.size + 1, 4, none⟩ = some (.slice (some ⟨g', 0, none⟩) ks'.length ck') ∧ w'.cell? ⟨g, m * 5, none⟩ = some (.int .i64 x.kind) ∧ w'.cell? ⟨g, m * 5 + 1, none⟩ = some (.int .i64 x.num) ∧ w'.cell? ⟨g, m * 5 + 2, none⟩ = some (.string x.text) ∧ w'.cell? ⟨g, m * 5 + 3, none⟩ = some (.slice xan x.names.length xcn) ∧ w'.cell? ⟨g, m * 5 + 4, none⟩ = some (.slice xak x.kids.length xck) ∧ w'.cell? ⟨g', m * 5, none⟩ = some (.int .i64 y.kind) ∧ w'.cell? ⟨g', m * 5 + 1, none⟩ = some (.int .i64 y.num) ∧ w'.cell? ⟨g', m * 5 + 2, none⟩ = some (.string y.text) ∧ w'.cell? ⟨g', m * 5 + 3, none⟩ = some (.slice yan y.names.length ycn) ∧ w'.cell? ⟨g', m * 5 + 4, none⟩ = some (.slice yak y.kids.length yck)) (first | exact HST.out | exact HST2.out)
                  ((go_at_call 52; refine (HS.out y _ _ _ (HTX.out.below ((Below.refl _ _).drew)) (HTY.out.below ((Below.refl _ _).drew)) HXN.out HYN.out hcx hcy).mono ?_; rintro e w2 ⟨rfl, hb2⟩; have HST2 : Hid (w2.cell? ⟨w.heap.size, 4, none⟩ = some (.slice (some ⟨g, 0, none⟩) ks.length ck) ∧ w2.cell? ⟨w.heap.size + 1, 4, none⟩ = some (.slice (some ⟨g', 0, none⟩) ks'.length ck') ∧ w2.cell? ⟨g, m * 5, none⟩ = some (.int .i64 x.kind) ∧ w2.cell? ⟨g, m * 5 + 1, none⟩ = some (.int .i64 x.num) ∧ w2.cell? ⟨g, m * 5 + 2, none⟩ = some (.string x.text) ∧ w2.cell? ⟨g, m * 5 + 3, none⟩ = some (.slice xan x.names.length xcn) ∧ w2.cell? ⟨g, m * 5 + 4, none⟩ = some (.slice xak x.kids.length xck) ∧ w2.cell? ⟨g', m * 5, none⟩ = some (.int .i64 y.kind) ∧ w2.cell? ⟨g', m * 5 + 1, none⟩ = some (.int .i64 y.num) ∧ w2.cell? ⟨g', m * 5 + 2, none⟩ = some (.string y.text) ∧ w2.cell? ⟨g', m * 5 + 3, none⟩ = some (.slice yan y.names.length ycn) ∧ w2.cell? ⟨g', m * 5 + 4, none⟩ = some (.slice yak y.kids.length yck)) := ⟨(hb2.cell h0w).trans HST.out.1, (hb2.cell h1w).trans HST.out.2.1, (hb2.cell hgw).trans HST.out.2.2.1, (hb2.cell hgw).trans HST.out.2.2.2.1, (hb2.cell hgw).trans HST.out.2.2.2.2.1, (hb2.cell hgw).trans HST.out.2.2.2.2.2.1, (hb2.cell hgw).trans HST.out.2.2.2.2.2.2.1, (hb2.cell hgw').trans HST.out.2.2.2.2.2.2.2.1, (hb2.cell hgw').trans HST.out.2.2.2.2.2.2.2.2.1, (hb2.cell hgw').trans HST.out.2.2.2.2.2.2.2.2.2.1, (hb2.cell hgw').trans HST.out.2.2.2.2.2.2.2.2.2.2.1, (hb2.cell hgw').trans HST.out.2.2.2.2.2.2.2.2.2.2.2⟩))
                have HB2 : Hid (Below W.heap.size W w2) := hnx.trans ((((Below.refl _ _).drew)).mono hz |>.trans (hb2.mono hz))
                obtain ⟨D, hD⟩ : ∃ D, D = x.cmp y := ⟨_, rfl⟩
                rw [← hD]
                rw [← hD] at HSP
                clear hb2 HST2 hD
                by_cases hD0 : D = 0
                · subst hD0
                  rw [or2_zero] at HSP
                  go_wp2_with fail
                  go_roundw
                  case rel => exact ⟨m + 1, by omega, by omega, by go_num, HSP, HB2.out⟩
                  case measure => simp [intOf]; omega
                · have hDb : (D == 0) = false := by simpa using hD0
                  rw [or2_ne hD0] at HSP
                  go_wp2_with fail
                  go_ret
                  exact ⟨by rw [HR2.out, HSP.out]; rfl, HBW.out.trans (HB2.out.mono HBW.out.size)⟩
            · obtain rfl : m = ks'.length := by omega
              have HS : Hid (Tr.cmps ks (Tr.nmOf k nm) (Tr.nmOf k nm') 0 ks' = 1) := by
                show _ = _
                rw [HL.out, List.drop_length, cmps_more hlt]
              go_wp2_with fail
              go_ret
              exact ⟨by rw [HR2.out, HS.out]; rfl, hwb⟩
          · obtain rfl : m = ks.length := by omega
            have HS : Hid (Tr.cmps ks (Tr.nmOf k nm) (Tr.nmOf k nm') 0 ks' = intCmp (ks.length : Nat) (ks'.length : Nat)) := by
              show _ = _
              rw [HL.out, List.drop_length, cmps_done rfl hm2]
            go_wp2_with fail
            refine (l2Ints_any _ _ _).mono ?_
            rintro e w' ⟨rfl, rfl⟩
            go_wp2_with fail
            go_ret
            exact ⟨by rw [HR2.out, HS.out]; rfl, hwb⟩
  · have hCb : (C == 0) = false := by simpa using hC0
    have HR2 : Hid ((Tr.mk k n t nm ks).cmp (.mk k' n' t' nm' ks') = C) := by
      show _ = _
      rw [HR.out, ← HC.out, or2_ne hC0]
    go_wp2_with fail
    go_ret
    exact ⟨by rw [HR2.out]; rfl, HBW.out⟩

theorem l2Compare_any (t : Tr) : CmpSaid t := Tr.ind (P := CmpSaid) (fun k n t nm ks ih => l2Compare_step k n t nm ks ih) t

end Go.Proofs.YtdahlecehencpaaDoor
