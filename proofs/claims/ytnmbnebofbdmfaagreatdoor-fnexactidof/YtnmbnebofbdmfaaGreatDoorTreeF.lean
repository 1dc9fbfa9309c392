/- A tree's nodes in a row, by the specification. -/
import Derived.Test.YtnmbnebofbdmfaaGreatDoorTreeF0
namespace Go.Proofs.YtnmbnebofbdmfaaGreatDoor
open Go.RowKit
set_option linter.unusedVariables false

def FlatSaid (t : Tr) : Prop := ∀ (v lv : Value) (name : ByteArray) (up : Int) (l : List Nd) (B : Nat) (w : World), TreeIs w (fun b => some b ≠ lv.ownBlock) t v → t.named → OwnsN w B lv l → B ≤ w.heap.size → l.length + t.cnt ≤ 2 ^ 20 → -1 ≤ up → up ≤ 2 ^ 20 →
    Calls Tryz.prog 28 #[v, .string name, .int .i64 up, lv] w fun e w' => ∃ lv', e = .returned lv' ∧ OwnsN w' B lv' (l ++ t.flat name up l.length) ∧ w.grownBy w' lv.ownBlock ∧ Moved w.heap.size lv lv'

set_option maxRecDepth 100000 in
set_option maxHeartbeats 4000000 in
theorem l1Flat_step (k n : Int) (t : ByteArray) (nm : List ByteArray) (ks : List Tr) (ih : ∀ x ∈ ks, FlatSaid x) : FlatSaid (.mk k n t nm ks) := by
  intro v lv name up l B w h hnd hown hB hlen hu0 hu1
  obtain ⟨an, cn, ak, ck, rfl, hnm, hk⟩ := h.open
  obtain ⟨la, lc, rfl⟩ := hown.form
  have hcn : Tr.cnts ks + l.length + 1 ≤ 2 ^ 20 := by rw [Tr.cnt] at hlen; omega
  have hkl := Tr.len_cnts ks
  rw [Tr.named] at hnd
  have HND : Hid ((k = 7 → nm.length = ks.length) ∧ ∀ x ∈ ks, x.named) := ⟨hnd.1, Tr.nameds_mem.1 hnd.2⟩
  have HIH : Hid (∀ x ∈ ks, FlatSaid x) := ih
  have HNM : Hid (NamsAt w (fun b => some b ≠ (Value.slice la l.length lc).ownBlock) an nm) := hnm
  have HK : Hid (ks = [] ∨ ∃ g, ak = some ⟨g, 0, none⟩ ∧ some g ≠ (Value.slice la l.length lc).ownBlock ∧ g < w.heap.size ∧ ∀ i x, ks[i]? = some x → KidAt w (fun b => some b ≠ (Value.slice la l.length lc).ownBlock) x g i) := hk
  have HO : Hid (OwnsN w B (.slice la l.length lc) l) := hown
  obtain ⟨iN, hi, hz0, hz1, hz2⟩ := info_parts infoNode5
  have HI : Hid (Tryz.prog.info? 49 = some iN ∧ iN.zero = some (.agg #[.int .i64 0, .int .i64 0, .string ⟨#[]⟩, .string ⟨#[]⟩, .int .i64 0]) ∧ iN.size = 5 ∧ iN.bytes = 56) := ⟨hi, hz0, hz1, hz2⟩
  have hnew : some w.heap.size ≠ (Value.slice la l.length lc).ownBlock := fun e => by have := own_lt HO.out e; omega
  clear hi hz0 hz1 hz2 ih h hk hnm hown hnd
  go_enter Tryz.func28, Tryz.ntmps28
  go_wp2_with (first | (at_builtin; refine wpList_append_lies _ rfl _ _ 26 rfl B 49 iN _ 5 56 Tryz.underlying26 HI.out.1 HI.out.2.1 HI.out.2.2.1 HI.out.2.2.2 rfl (by decide) _ _ _ rfl (World.ownsRow.alloc (World.ownsRow.alloc HO.out _) _) ⟨w.heap.size + 1, 0, none⟩ 1 1 [.int .i64 k, .int .i64 n, .string t, .string name, .int .i64 up] rfl rfl ?c1 ?c2 (by decide) ?c3 ?c4 ?c5 (w.heap.size + 2) ?c6 ?_))
  case c1 => exact nd_news _ ⟨k, n, t, name, up⟩ _ _ (by simp)
  case c2 => exact nd_one k n up t name
  case c3 => unfold maxLen; omega
  case c4 => omega
  case c5 => simp; omega
  case c6 => simp
  intro g1 cap1 w1 hown1 hgrow hat hlt1
  have HG1 : Hid (w.grownBy w1 (Value.slice la l.length lc).ownBlock) := ⟨hgrow.os, hgrow.tape, hgrow.output, by have := hgrow.size; simp at this; omega, fun b hb hn => by
    rw [hgrow.block b (by simp; omega) hn, heap_alloc_old _ _ (by simp; omega), heap_alloc_old _ _ hb]⟩
  have HM1 : Hid (Moved (w.heap.size + 1) (Value.slice la l.length lc) (.slice (some ⟨g1, 0, none⟩) (l.length + 1) cap1)) := by
    rcases hat with e | e
    · exact .inl e.symm
    · exact .inr ⟨g1, rfl, by omega⟩
  have x0 : ∀ x, w1.cell? ⟨w.heap.size, x, none⟩ = (w.alloc (.cells #[.int .i64 k, .int .i64 n, .string t, .slice an nm.length cn, .slice ak ks.length ck] 40)).cell? ⟨w.heap.size, x, none⟩ := fun x => by
    rw [hgrow.cell_far ⟨w.heap.size, x, none⟩ (by simp; omega) hnew]
    exact World.cell?_of_block (heap_alloc_old _ _ (by simp))
  have c0 : w1.cell? ⟨w.heap.size, 0, none⟩ = some (.int .i64 k) := by rw [x0]; simp [go_sem]
  have c3 : w1.cell? ⟨w.heap.size, 3, none⟩ = some (.slice an nm.length cn) := by rw [x0]; simp [go_sem]
  have c4 : w1.cell? ⟨w.heap.size, 4, none⟩ = some (.slice ak ks.length ck) := by rw [x0]; simp [go_sem]
  have z1 : w.heap.size < w1.heap.size := by have := hgrow.size; simp at this; omega
  obtain ⟨L1, hL1⟩ : ∃ L1 : List Nd, L1 = l ++ [⟨k, n, t, name, up⟩] := ⟨_, rfl⟩
  have HL1 : Hid (L1 = l ++ [⟨k, n, t, name, up⟩]) := hL1
  have hll : L1.length = l.length + 1 := by rw [hL1]; simp
  have HO1 : Hid (OwnsN w1 B (.slice (some ⟨g1, 0, none⟩) (l.length + 1) cap1) L1) := by
    show OwnsN _ _ _ _
    unfold OwnsN
    rw [hll, hL1, nd_snoc]
    exact hown1
  clear hown1 hgrow hL1 x0 hat hlt1
  have HF : Hid ((Tr.mk k n t nm ks).flat name up l.length = ⟨k, n, t, name, up⟩ :: Tr.flats ks (Tr.nmOf k nm) 0 l.length (l.length + 1)) := by show _ = _; rw [Tr.flat]
  go_wp2_with fail
  go_loopw [3, 30] (fun q i wr => ∃ (m : Nat) (am : Option Addr) (dm : Nat) (L : List Nd), m ≤ ks.length ∧ i = .int .i64 m ∧ q = .slice am L.length dm ∧ Hid (L = L1 ++ Tr.flats (ks.take m) (Tr.nmOf k nm) 0 l.length (l.length + 1)) ∧ Hid (OwnsN wr B (.slice am L.length dm) L) ∧ Hid (w.grownBy wr (Value.slice la l.length lc).ownBlock) ∧ Hid (Moved (w.heap.size + 1) (Value.slice la l.length lc) (.slice am L.length dm)) ∧ w.heap.size < wr.heap.size ∧
      wr.cell? ⟨w.heap.size, 0, none⟩ = some (.int .i64 k) ∧ wr.cell? ⟨w.heap.size, 3, none⟩ = some (.slice an nm.length cn) ∧ wr.cell? ⟨w.heap.size, 4, none⟩ = some (.slice ak ks.length ck)) (fun _ i _ => ks.length - (intOf i).toNat)
  case atStart => exact ⟨0, some ⟨g1, 0, none⟩, cap1, L1, Nat.zero_le _, rfl, by rw [hll], by show _ = _; simp [Tr.flats], by rw [hll]; exact HO1, HG1, by rw [hll]; exact HM1, z1, c0, c3, c4⟩
  case round =>
    obtain ⟨m, am, dm, L, hm, rfl, rfl, HL, HOL, HG, HM, hzw, u0, u3, u4⟩ := hrel
    have hLl : L.length = l.length + 1 + Tr.cnts (ks.take m) := by rw [HL.out, List.length_append, hll, Tr.flats_len]
    have hct := Tr.cnts_append (ks.take m) (ks.drop m)
    rw [List.take_append_drop] at hct
    have HLl : Hid (L.length = l.length + 1 + Tr.cnts (ks.take m)) := hLl
    have hnq : some w.heap.size ≠ (Value.slice am L.length dm).ownBlock := HM.out.ne (Nat.lt_succ_self _) hnew
    by_cases hlt : m < ks.length
    · obtain ⟨x, hx⟩ : ∃ x, ks[m]? = some x := ⟨ks[m], List.getElem?_eq_getElem hlt⟩
      rcases HK.out with h0 | ⟨g, rfl, hgn, hg, hkid⟩
      · rw [h0] at hlt; simp at hlt
      have hkeep : ∀ b', some b' ≠ (Value.slice la l.length lc).ownBlock → b' < w.heap.size → wr.heap[b']? = w.heap[b']? := fun b' h1 h2 => HG.out.block b' h2 h1
      have hSS : ∀ b', some b' ≠ (Value.slice la l.length lc).ownBlock → b' < w.heap.size → some b' ≠ (Value.slice am L.length dm).ownBlock := fun b' h1 h2 => HM.out.ne (by omega) h1
      obtain ⟨an', cn', ak', ck', e0, e1, e2, e3, e4, htr⟩ := ((hkid m x hx).keep hkeep hSS HG.out.size (hkeep g hgn hg)).cellsS
      have HTR : Hid (TreeIs wr (fun b => some b ≠ (Value.slice am L.length dm).ownBlock) x (.agg #[.int .i64 x.kind, .int .i64 x.num, .string x.text, .slice an' x.names.length cn', .slice ak' x.kids.length ck'])) := htr
      have hxm := List.mem_of_getElem? hx
      have HS : Hid (FlatSaid x) := HIH.out x hxm
      have HXN : Hid x.named := HND.out.2 x hxm
      have htk : ks.take (m + 1) = ks.take m ++ [x] := by rw [List.take_add_one, hx]; rfl
      have hct2 := Tr.cnts_append (ks.take (m + 1)) (ks.drop (m + 1))
      rw [List.take_append_drop, htk, Tr.cnts_append] at hct2
      have hx1 : Tr.cnts [x] = x.cnt := by simp [Tr.cnts]
      have HST : Hid (L1 ++ Tr.flats (ks.take (m + 1)) (Tr.nmOf k nm) 0 l.length (l.length + 1) = L ++ x.flat (Tr.nmOf k nm m) (l.length : Nat) L.length) := by
        show _ = _
        rw [htk, Tr.flats_snoc, hLl, HL.out, List.append_assoc]
        have : (ks.take m).length = m := by rw [List.length_take]; omega
        rw [this, Nat.zero_add]
      have j0 : (0 : Int) ≤ (m : Int) := by omega
      have j1 : (m : Int) < (ks.length : Int) := by omega
      have hgw : g < wr.heap.size := by omega
      have hLx : L.length + x.cnt ≤ 2 ^ 20 := by omega
      clear hkid htr hct hct2 htk hLl hx1
      by_cases h7 : k = 7
      · have hnl := HND.out.1 h7
        rcases HNM.out with h0 | ⟨gn, rfl, hg1, hg2, hnc⟩
        · rw [h0] at hnl; simp at hnl; omega
        have hnm2 : wr.cell? ⟨gn, m, none⟩ = some (.string (nm.getD m ByteArray.empty)) := (World.cell?_of_block (hkeep gn hg1 hg2)).trans (hnc m (by omega))
        have HNF : Hid (Tr.nmOf k nm m = nm.getD m ByteArray.empty) := by show _ = _; unfold Tr.nmOf; rw [if_pos h7]
        have j2 : (m : Int) < (nm.length : Int) := by omega
        obtain ⟨nx, hnx⟩ : ∃ nx, nx = nm.getD m ByteArray.empty := ⟨_, rfl⟩
        rw [← hnx] at hnm2 HNF
        have hgw2 : gn < wr.heap.size := by omega
        subst h7
        clear hkeep hSS hnc
        clear hnx hnl
        go_wp2_with fail
        refine (HS.out _ _ nx _ L B _ (TreeIs.keep (fun b' _ hl' => heap_alloc_old _ _ hl') (fun _ h _ => h) (by simp) _ _ HTR.out) HXN.out (World.ownsRow.alloc HOL.out _) (by have := HG.out.size; simp; omega) (by omega) (by omega) (by omega)).mono ?_
        rintro e w2 ⟨lv2, rfl, ho2, hg2', hm2⟩
        rw [← HNF.out, ← HST.out] at ho2
        obtain ⟨L2, hL2⟩ : ∃ L2 : List Nd, L2 = L1 ++ Tr.flats (ks.take (m + 1)) (Tr.nmOf 7 nm) 0 l.length (l.length + 1) := ⟨_, rfl⟩
        rw [← hL2] at ho2
        have HL2 : Hid (L2 = L1 ++ Tr.flats (ks.take (m + 1)) (Tr.nmOf 7 nm) 0 l.length (l.length + 1)) := hL2
        obtain ⟨a2, d2, rfl⟩ := ho2.form
        have hgr : wr.grownBy w2 (Value.slice am L.length dm).ownBlock := ⟨hg2'.os, hg2'.tape, hg2'.output, by have := hg2'.size; simp at this; omega, fun b' hb' hn' => (hg2'.block b' (by simp; omega) hn').trans (heap_alloc_old _ _ hb')⟩
        have HG2 : Hid (w.grownBy w2 (Value.slice la l.length lc).ownBlock) := grown_on HG.out (by rcases HM.out with h | ⟨g', h, hg'⟩; exact .inl h; exact .inr ⟨g', h, by omega⟩) hgr
        have HM2 : Hid (Moved (w.heap.size + 1) (Value.slice la l.length lc) (.slice a2 L2.length d2)) := by
          rcases hm2 with h | ⟨g', h, hg'⟩
          · rcases HM.out with h3 | ⟨g3, h3, hg3⟩
            · exact .inl (h.trans h3)
            · exact .inr ⟨g3, h.trans h3, hg3⟩
          · exact .inr ⟨g', h, by simp at hg'; omega⟩
        have HO2 : Hid (OwnsN w2 B (.slice a2 L2.length d2) L2) := ho2
        have zz2 : w.heap.size < w2.heap.size := Nat.lt_of_lt_of_le hzw hgr.size
        have p0 : w2.cell? ⟨w.heap.size, 0, none⟩ = some (.int .i64 7) := (hgr.cell_far ⟨w.heap.size, 0, none⟩ hzw hnq).trans u0
        have p3 := (hgr.cell_far ⟨w.heap.size, 3, none⟩ hzw hnq).trans u3
        have p4 := (hgr.cell_far ⟨w.heap.size, 4, none⟩ hzw hnq).trans u4
        clear ho2 hg2' hm2 hL2 hgr e0 e1 e2 e3 e4
        go_wp2_with fail
        go_roundw
        case rel => exact ⟨m + 1, a2, d2, L2, by omega, by go_num, rfl, HL2, HO2, HG2, HM2, zz2, p0, p3, p4⟩
        case measure => simp [intOf]; omega
      · have h7' : (k == 7) = false := by simpa using h7
        have HNF : Hid (Tr.nmOf k nm m = ByteArray.empty) := by show _ = _; unfold Tr.nmOf; rw [if_neg h7]
        clear hkeep hSS
        go_wp2_with fail
        refine (HS.out _ _ ByteArray.empty _ L B _ (TreeIs.keep (fun b' _ hl' => heap_alloc_old _ _ hl') (fun _ h _ => h) (by simp) _ _ HTR.out) HXN.out (World.ownsRow.alloc HOL.out _) (by have := HG.out.size; simp; omega) (by omega) (by omega) (by omega)).mono ?_
        rintro e w2 ⟨lv2, rfl, ho2, hg2', hm2⟩
        rw [← HNF.out, ← HST.out] at ho2
        obtain ⟨L2, hL2⟩ : ∃ L2 : List Nd, L2 = L1 ++ Tr.flats (ks.take (m + 1)) (Tr.nmOf k nm) 0 l.length (l.length + 1) := ⟨_, rfl⟩
        rw [← hL2] at ho2
        have HL2 : Hid (L2 = L1 ++ Tr.flats (ks.take (m + 1)) (Tr.nmOf k nm) 0 l.length (l.length + 1)) := hL2
        obtain ⟨a2, d2, rfl⟩ := ho2.form
        have hgr : wr.grownBy w2 (Value.slice am L.length dm).ownBlock := ⟨hg2'.os, hg2'.tape, hg2'.output, by have := hg2'.size; simp at this; omega, fun b' hb' hn' => (hg2'.block b' (by simp; omega) hn').trans (heap_alloc_old _ _ hb')⟩
        have HG2 : Hid (w.grownBy w2 (Value.slice la l.length lc).ownBlock) := grown_on HG.out (by rcases HM.out with h | ⟨g', h, hg'⟩; exact .inl h; exact .inr ⟨g', h, by omega⟩) hgr
        have HM2 : Hid (Moved (w.heap.size + 1) (Value.slice la l.length lc) (.slice a2 L2.length d2)) := by
          rcases hm2 with h | ⟨g', h, hg'⟩
          · rcases HM.out with h3 | ⟨g3, h3, hg3⟩
            · exact .inl (h.trans h3)
            · exact .inr ⟨g3, h.trans h3, hg3⟩
          · exact .inr ⟨g', h, by simp at hg'; omega⟩
        have HO2 : Hid (OwnsN w2 B (.slice a2 L2.length d2) L2) := ho2
        have zz2 : w.heap.size < w2.heap.size := Nat.lt_of_lt_of_le hzw hgr.size
        have p0 : w2.cell? ⟨w.heap.size, 0, none⟩ = some (.int .i64 k) := (hgr.cell_far ⟨w.heap.size, 0, none⟩ hzw hnq).trans u0
        have p3 := (hgr.cell_far ⟨w.heap.size, 3, none⟩ hzw hnq).trans u3
        have p4 := (hgr.cell_far ⟨w.heap.size, 4, none⟩ hzw hnq).trans u4
        clear ho2 hg2' hm2 hL2 hgr e0 e1 e2 e3 e4
        go_wp2_with fail
        go_roundw
        case rel => exact ⟨m + 1, a2, d2, L2, by omega, by go_num, rfl, HL2, HO2, HG2, HM2, zz2, p0, p3, p4⟩
        case measure => simp [intOf]; omega
    · obtain rfl : m = ks.length := by omega
      rw [List.take_length] at HL
      clear hct hLl
      go_wp2
      go_ret
      refine ⟨_, rfl, ?_, HG.out, ?_⟩
      · rw [HF.out, show l ++ ⟨k, n, t, name, up⟩ :: Tr.flats ks (Tr.nmOf k nm) 0 l.length (l.length + 1) = L by rw [HL.out, HL1.out, List.append_assoc]; rfl]
        exact HOL.out
      · rcases HM.out with h | ⟨g', h, hg'⟩
        · exact .inl h
        · exact .inr ⟨g', h, by omega⟩

theorem l1Flat_any (t : Tr) : FlatSaid t := Tr.ind (P := FlatSaid) (fun k n t nm ks ih => l1Flat_step k n t nm ks ih) t

end Go.Proofs.YtnmbnebofbdmfaaGreatDoor
