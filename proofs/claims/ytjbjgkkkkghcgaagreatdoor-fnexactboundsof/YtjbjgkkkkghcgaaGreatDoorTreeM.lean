/- The specification's tree of a map; and so of every node. -/
import Derived.Test.YtjbjgkkkkghcgaaGreatDoorTreeW
namespace Go.Proofs.YtjbjgkkkkghcgaaGreatDoor
open Go.RowKit
set_option linter.unusedVariables false

set_option maxRecDepth 100000 in
set_option maxHeartbeats 4000000 in
theorem l1Tree_map (n k : Nat) (N : Nat → Nd) (hn : n ≤ 80) (hk : k < n) (h7 : (N k).kind = 7) (ih : ∀ p, k < p → p < n → TreeSaid N n p) : TreeSaid N n k := by
  intro a c w h
  have HIH : Hid (∀ p, k < p → p < n → TreeSaid N n p) := ih
  have H : Hid (ArgIs w a n N) := h
  have H7 : Hid ((N k).kind = 7) := h7
  have e7 : ((N k).kind == 7) = true := by simpa using h7
  clear ih h7
  rcases h with h0 | ⟨b, off, rfl, hb, hat⟩
  · omega
  obtain ⟨a0, a1, a2, a3, a4⟩ := hat k hk
  have i0 : (0 : Int) ≤ (k : Int) := by omega
  have i1 : (k : Int) < (n : Int) := by omega
  clear hat
  go_enter Tryz.func25, Tryz.ntmps25
  go_wp2_with fail
  refine (l1Kids_any _ c n k N _ (by omega) hk (H.out.below (by go_grown))).mono ?_
  rintro e w1 ⟨v, rfl, hown, hb1⟩
  obtain ⟨av, cap, rfl, hcs⟩ := own_ints hown
  have HC : Hid (kidsTo N k n = [] ∨ ∃ g, av = some ⟨g, 0, none⟩ ∧ _ ≤ g ∧ g < w1.heap.size ∧ ∀ j, j < (kidsTo N k n).length → w1.cell? ⟨g, j, none⟩ = some (.int .i64 ((kidsTo N k n).getD j 0 : Nat))) := hcs
  have x0 : w1.cell? ⟨w.heap.size, 0, none⟩ = some (.slice (some ⟨b, off, none⟩) n c) := by rw [hb1.cell (by simp; omega)]; simp [go_sem]
  have x1 : w1.cell? ⟨w.heap.size + 2, 0, none⟩ = some (.int .i64 (N k).kind) := by rw [hb1.cell (by simp)]; simp [go_sem]
  have y0 : w1.cell? ⟨w.heap.size + 3, 0, none⟩ = some (.int .i64 (N k).kind) := by rw [hb1.cell (by simp)]; simp [go_sem]
  have y1 : w1.cell? ⟨w.heap.size + 3, 1, none⟩ = some (.int .i64 (N k).num) := by rw [hb1.cell (by simp)]; simp [go_sem]
  have y2 : w1.cell? ⟨w.heap.size + 3, 2, none⟩ = some (.string (N k).text) := by rw [hb1.cell (by simp)]; simp [go_sem]
  have y3 : w1.cell? ⟨w.heap.size + 3, 3, none⟩ = some (.slice none 0 0) := by rw [hb1.cell (by simp)]; simp [go_sem]
  have y4 : w1.cell? ⟨w.heap.size + 3, 4, none⟩ = some (.slice none 0 0) := by rw [hb1.cell (by simp)]; simp [go_sem]
  have f3 : w1.frozen? ⟨w.heap.size + 3, 3, none⟩ = false := by rw [hb1.frozen (by simp)]; simp [go_sem]
  have f4 : w1.frozen? ⟨w.heap.size + 3, 4, none⟩ = false := by rw [hb1.frozen (by simp)]; simp [go_sem]
  have r0 : w1.cell? ⟨w.heap.size + 1, 0, none⟩ = some (.int .i64 0) ∧ w1.frozen? ⟨w.heap.size + 1, 0, none⟩ = false := by rw [hb1.cell (by simp), hb1.frozen (by simp)]; simp [go_sem]
  have r1 : w1.cell? ⟨w.heap.size + 1, 1, none⟩ = some (.int .i64 0) ∧ w1.frozen? ⟨w.heap.size + 1, 1, none⟩ = false := by rw [hb1.cell (by simp), hb1.frozen (by simp)]; simp [go_sem]
  have r2 : w1.cell? ⟨w.heap.size + 1, 2, none⟩ = some (.string ⟨#[]⟩) ∧ w1.frozen? ⟨w.heap.size + 1, 2, none⟩ = false := by rw [hb1.cell (by simp), hb1.frozen (by simp)]; simp [go_sem]
  have r3 : w1.cell? ⟨w.heap.size + 1, 3, none⟩ = some (.slice none 0 0) ∧ w1.frozen? ⟨w.heap.size + 1, 3, none⟩ = false := by rw [hb1.cell (by simp), hb1.frozen (by simp)]; simp [go_sem]
  have r4 : w1.cell? ⟨w.heap.size + 1, 4, none⟩ = some (.slice none 0 0) ∧ w1.frozen? ⟨w.heap.size + 1, 4, none⟩ = false := by rw [hb1.cell (by simp), hb1.frozen (by simp)]; simp [go_sem]
  have HR : Hid (_ ∧ _ ∧ _ ∧ _ ∧ _) := ⟨r0, r1, r2, r3, r4⟩
  clear r0 r1 r2 r3 r4
  have z1 := hb1.size
  simp at z1
  have HB1 : Hid (Below w.heap.size w w1) := (show Below w.heap.size w _ by go_grown).trans (hb1.mono (by simp; omega))
  have hkl := kids_len N k n
  obtain ⟨ks, hks⟩ : ∃ ks, ks = kidsTo N k n := ⟨_, rfl⟩
  rw [← hks] at hkl HC ⊢
  have HKS : Hid (ks = kidsTo N k n) := hks
  clear hown hcs hb1 hks a0 a1 a2 a3 a4
  obtain ⟨i5, hi, hz0, hz1, hz2⟩ := info_parts infoL1V
  have HI : Hid (Tryz.prog.info? 69 = some i5 ∧ i5.zero = some (.agg #[.int .i64 0, .int .i64 0, .string ⟨#[]⟩, .slice none 0 0, .slice none 0 0]) ∧ i5.size = 5 ∧ i5.bytes = 80) := ⟨hi, hz0, hz1, hz2⟩
  clear hi hz0 hz1 hz2
  obtain ⟨iS, hi, hz0, hz1, hz2⟩ := info_parts infoText
  have HIS : Hid (Tryz.prog.info? 9 = some iS ∧ iS.zero = some (.string ⟨#[]⟩) ∧ iS.size = 1 ∧ iS.bytes = 16) := ⟨hi, hz0, hz1, hz2⟩
  clear hi hz0 hz1 hz2
  go_wp2_with fail
  go_loopw [25] (fun i wr => ∃ (m : Nat) (an : Option Addr) (cn : Nat) (ak : Option Addr) (ck : Nat) (l : List Five), m ≤ ks.length ∧ i = .int .i64 m ∧ Hid (Bld w1 wr w1.heap.size (w.heap.size + 3) ((ks.take m).map (tree N n)) ((ks.take m).map fun p => (N p).name) (.slice an m cn) (.slice ak m ck) l) ∧
      wr.cell? ⟨w.heap.size + 3, 0, none⟩ = some (.int .i64 (N k).kind) ∧ wr.cell? ⟨w.heap.size + 3, 1, none⟩ = some (.int .i64 (N k).num) ∧ wr.cell? ⟨w.heap.size + 3, 2, none⟩ = some (.string (N k).text) ∧ wr.cell? ⟨w.heap.size + 3, 3, none⟩ = some (.slice an m cn) ∧ wr.frozen? ⟨w.heap.size + 3, 3, none⟩ = false ∧ wr.cell? ⟨w.heap.size + 3, 4, none⟩ = some (.slice ak m ck) ∧ wr.frozen? ⟨w.heap.size + 3, 4, none⟩ = false) (fun i _ => ks.length - (intOf i).toNat)
  case atStart => exact ⟨0, none, 0, none, 0, [], Nat.zero_le _, rfl, Bld.start w1 (w.heap.size + 3), y0, y1, y2, y3, f3, y4, f4⟩
  case round =>
    obtain ⟨m, an, cn, ak, ck, l, hm, rfl, HBL, u0, u1, u2, u3, g3f, u4, g4⟩ := hrel
    clear y0 y1 y2 y3 y4 f3 f4
    have hzr := HBL.out.bb.size
    have hB := HBL.out.hB
    have v0 : wr.cell? ⟨w.heap.size, 0, none⟩ = some (.slice (some ⟨b, off, none⟩) n c) := by rw [HBL.out.bb.cell (by omega) (by omega)]; exact x0
    have v1 : wr.cell? ⟨w.heap.size + 2, 0, none⟩ = some (.int .i64 (N k).kind) := by rw [HBL.out.bb.cell (by omega) (by omega)]; exact x1
    have how : w.heap.size + 3 < wr.heap.size := by omega
    have hww : w.heap.size < wr.heap.size := by omega
    have hww2 : w.heap.size + 2 < wr.heap.size := by omega
    by_cases hlt : m < ks.length
    · rcases HC.out with h0 | ⟨g, rfl, hg0, hg, hcell⟩
      · rw [h0] at hlt; simp at hlt
      simp at hg0
      have hc := hcell m hlt
      obtain ⟨p, hp⟩ : ∃ p, p = ks.getD m 0 := ⟨_, rfl⟩
      rw [← hp] at hc
      have hpm : p ∈ kidsTo N k n := by rw [hp, ← HKS.out, List.getD_eq_getElem?_getD, List.getElem?_eq_getElem hlt]; exact List.getElem_mem _
      obtain ⟨p1, p2, _⟩ := kidsTo_mem hpm
      have hc2 : wr.cell? ⟨g, m, none⟩ = some (.int .i64 (p : Int)) := by rw [HBL.out.bb.cell hg (by omega)]; exact hc
      have HTP : Hid (TreeSaid N n p) := HIH.out p p1 p2
      have HP : Hid (p = ks.getD m 0) := hp
      have HAR : Hid (ArgIs wr.drew (some ⟨b, off, none⟩) n N) := H.out.below ((HB1.out.trans (HBL.out.bb.below HB1.out.size (by omega))).drew)
      have j0 : (0 : Int) ≤ (m : Int) := by omega
      have j1 : (m : Int) < (ks.length : Int) := by omega
      have hgw : g < wr.heap.size := by omega
      have hkl5 : ((ks.take m).map (tree N n)).length = m := by rw [List.length_map, List.length_take]; omega
      have HOK : Hid (wr.ownsRow w1.heap.size 69 5 (.slice ak m ck) m (fiveCells l)) := by have := HBL.out.kids; rw [hkl5] at this; exact this
      have hne0 : some w.heap.size ≠ (Value.slice ak m ck).ownBlock := fun e => by have := own_lt HOK.out e; omega
      have hne3 : some (w.heap.size + 3) ≠ (Value.slice ak m ck).ownBlock := fun e => by have := own_lt HOK.out e; omega
      have hne2 : some (w.heap.size + 2) ≠ (Value.slice ak m ck).ownBlock := fun e => by have := own_lt HOK.out e; omega
      have hm80 : m ≤ 80 := by omega
      clear hcell hc hp hpm
      go_wp2_with fail
      go_region_law (first | (go_simp; go_at_call 25; refine (HTP.out _ _ _ HAR.out).mono ?_; rintro e w2 ⟨an2, cn2, mn2, ak2, ck2, mk2, rfl, ht2, hb2⟩; obtain ⟨hc2', hf2'⟩ := bcell hb2; have q0 := (hc2' _ _ hww).trans v0; have q4 := (hc2' _ _ how).trans u4; have qf := (hf2' _ _ how).trans g4; have zz2 : wr.heap.size ≤ w2.heap.size := hb2.size; have hs0 : w.heap.size < w2.heap.size := Nat.lt_of_lt_of_le hww zz2; have hs3 : w.heap.size + 3 < w2.heap.size := Nat.lt_of_lt_of_le how zz2; have HBW : Hid (Below wr.heap.size wr w2) := (Below.drew (Below.refl wr.heap.size wr)).trans hb2; have HT2 : Hid (TreeIs w2 (fun b => wr.heap.size ≤ b) (tree N n p) (.agg #[.int .i64 (N p).kind, .int .i64 (N p).num, .string (N p).text, .slice an2 mn2 cn2, .slice ak2 mk2 ck2])) := ht2; have HOK2 : Hid (w2.ownsRow w1.heap.size 69 5 (.slice ak m ck) m (fiveCells l)) := row_block HOK.out (fun b' _ hl' _ => HBW.out.block b' hl'); have q4' := fun o' => (cell_past w2 o' hs3).trans q4; clear ht2 hb2 hc2' hf2') | (refine step_append_lies _ (by rfl) _ _ 67 (by rfl) w1.heap.size 69 i5 _ 5 80 Tryz.underlying67 HI.out.1 HI.out.2.1 HI.out.2.2.1 HI.out.2.2.2 rfl (by decide) (.slice ak m ck) m (fiveCells l) (by rfl) (World.ownsRow.alloc HOK2.out _) ⟨w2.heap.size, 0, none⟩ 1 1 [.int .i64 (N p).kind, .int .i64 (N p).num, .string (N p).text, .slice an2 mn2 cn2, .slice ak2 mk2 ck2] (by rfl) rfl (five_news w2 ⟨_, _, _, _, _⟩ _) (five_one _ _ _ _ _ _ _ _ _) (by decide) (by unfold maxLen; omega) (by omega) (by rw [World.size_alloc]; omega) (w2.heap.size + 1) (World.size_alloc _ _) ?_; intro g3 cap3 w3 hown3 hgrow hat hlt3; have t0 := (hgrow.cell_far ⟨w.heap.size, 0, none⟩ (by rw [World.size_alloc]; exact Nat.lt_succ_of_lt hs0) hne0).trans ((cell_past w2 _ hs0).trans q0); have t4 := (hgrow.cell_far ⟨w.heap.size + 3, 4, none⟩ (by rw [World.size_alloc]; exact Nat.lt_succ_of_lt hs3) hne3).trans ((cell_past w2 _ hs3).trans q4); have tf := (hgrow.frozen_far ⟨w.heap.size + 3, 4, none⟩ (by rw [World.size_alloc]; exact Nat.lt_succ_of_lt hs3) hne3).trans ((frozen_past w2 _ hs3).trans qf)))
      all_goals
        have hsz3 := hgrow.size
        rw [World.size_alloc] at hsz3
        have HBN : Hid (Bld w1 (w3.setCell ⟨w.heap.size + 3, 4, none⟩ (.slice (some ⟨g3, 0, none⟩) (m + 1) cap3)) w1.heap.size (w.heap.size + 3) ((ks.take (m + 1)).map (tree N n)) ((ks.take m).map fun p => (N p).name) (.slice an m cn) (.slice (some ⟨g3, 0, none⟩) (m + 1) cap3) (l ++ [⟨.int .i64 (N p).kind, .int .i64 (N p).num, .string (N p).text, .slice an2 mn2 cn2, .slice ak2 mk2 ck2⟩])) := by
          have := Bld.kid (u := .slice (some ⟨g3, 0, none⟩) (m + 1) cap3) (x := ⟨.int .i64 (N p).kind, .int .i64 (N p).num, .string (N p).text, .slice an2 mn2 cn2, .slice ak2 mk2 ck2⟩) (g := g3) (cap := cap3) HBL.out (by omega) HBW.out HT2.out (by rw [hkl5]; exact hown3) hgrow (by rw [World.size_alloc]; exact hat)
          rw [hkl5] at this
          show Bld _ _ _ _ _ _ _ _ _
          rw [take_snoc hlt HP.out]
          exact this
        have tO : ∀ x, w3.cell? ⟨w.heap.size + 3, x, none⟩ = wr.cell? ⟨w.heap.size + 3, x, none⟩ := fun x => (hgrow.cell_far ⟨w.heap.size + 3, x, none⟩ (by rw [World.size_alloc]; exact Nat.lt_succ_of_lt hs3) hne3).trans ((cell_past w2 _ hs3).trans (HBW.out.cell how))
        have t2 : w3.cell? ⟨w.heap.size + 2, 0, none⟩ = some (.int .i64 (N k).kind) := (hgrow.cell_far ⟨w.heap.size + 2, 0, none⟩ (by rw [World.size_alloc]; show w.heap.size + 2 < _; omega) hne2).trans ((cell_past w2 _ (by omega)).trans ((HBW.out.cell hww2).trans v1))
        generalize hw4 : World.setCell w3 _ _ = w4
        have hw5 : w4 = w3.setCell ⟨w.heap.size + 3, 4, none⟩ (.slice (some ⟨g3, 0, none⟩) (m + 1) cap3) := hw4.symm
        have hsome : (w3.cell? ⟨w.heap.size + 3, 4, none⟩).isSome = true := by rw [t4]; rfl
        have d2 : w4.cell? ⟨w.heap.size + 2, 0, none⟩ = some (.int .i64 (N k).kind) := by
          rw [hw5, World.cell?_setCell_other]
          · exact t2
          · intro e
            injection e with e1
            omega
        have e0 : w4.cell? ⟨w.heap.size + 3, 0, none⟩ = some (.int .i64 (N k).kind) := by rw [hw5, cell_set hsome, if_neg (by omega), tO]; exact u0
        have e1 : w4.cell? ⟨w.heap.size + 3, 1, none⟩ = some (.int .i64 (N k).num) := by rw [hw5, cell_set hsome, if_neg (by omega), tO]; exact u1
        have e2 : w4.cell? ⟨w.heap.size + 3, 2, none⟩ = some (.string (N k).text) := by rw [hw5, cell_set hsome, if_neg (by omega), tO]; exact u2
        have e3 : w4.cell? ⟨w.heap.size + 3, 3, none⟩ = some (.slice an m cn) := by rw [hw5, cell_set hsome, if_neg (by omega), tO]; exact u3
        have e4 : w4.cell? ⟨w.heap.size + 3, 4, none⟩ = some (.slice (some ⟨g3, 0, none⟩) (m + 1) cap3) := by rw [hw5, cell_set hsome, if_pos rfl]
        have ef : w4.frozen? ⟨w.heap.size + 3, 4, none⟩ = false := by rw [hw5, World.frozen?_setCell]; exact tf
        have ef3 : w4.frozen? ⟨w.heap.size + 3, 3, none⟩ = false := by
          rw [hw5, World.frozen?_setCell]
          exact (hgrow.frozen_far ⟨w.heap.size + 3, 3, none⟩ (by rw [World.size_alloc]; exact Nat.lt_succ_of_lt hs3) hne3).trans ((frozen_past w2 _ hs3).trans ((HBW.out.frozen how).trans g3f))
        rw [← hw5] at HBN
        have hw4z : w3.heap.size = w4.heap.size := by rw [hw5]; simp [World.setCell]
        have how4 : w.heap.size + 3 < w4.heap.size := by omega
        have hw0 : w.heap.size < w4.heap.size := by omega
        have hB4 := HBN.out.hB
        have HB4 : Hid (Below w.heap.size w w4) := HB1.out.trans (HBN.out.bb.below HB1.out.size (by omega))
        have d0 : w4.cell? ⟨w.heap.size, 0, none⟩ = some (.slice (some ⟨b, off, none⟩) n c) := by rw [HBN.out.bb.cell (by omega) (by omega)]; exact x0
        have d3 : w4.cell? ⟨b, off + p * 5 + 3, none⟩ = some (.string (N p).name) := by
          rcases H.out.below HB4.out with h0 | ⟨b', off', e, _, hat'⟩
          · omega
          · simp only [Option.some.injEq, Addr.mk.injEq] at e
            obtain ⟨rfl, rfl, _⟩ := e
            exact (hat' p p2).2.2.2.1
        have l0 : (0 : Int) ≤ (p : Int) := by omega
        have l1 : (p : Int) < (n : Int) := by omega
        have hnl5 : ((ks.take m).map fun p => (N p).name).length = m := by rw [List.length_map, List.length_take]; omega
        have HON : Hid (∀ o', ((w4.alloc o').drew).ownsRow w1.heap.size 9 1 (.slice an m cn) m (((ks.take m).map fun p => (N p).name).map .string)) := fun o' => by
          have := World.ownsRow.alloc HBN.out.names o'
          rw [hnl5] at this
          exact this
        have hnm3 : some (w.heap.size + 3) ≠ (Value.slice an m cn).ownBlock := fun e => by have := own_lt HBN.out.names e; omega
        clear hw4 hw5 hsome t2 tO hown3 hgrow hat hlt3 t0 t4 tf HBW HT2 HOK2 HOK HBL q0 q4 qf u0 u1 u2 u3 u4 g4 g3f v0 v1 HAR hw4z hsz3 q4' hs0 hs3 zz2 how hww hww2 hne0 hne2 hne3
        go_wp2_with fail
        go_region_law (refine step_append_lies _ (by rfl) _ _ 35 (by rfl) w1.heap.size 9 iS _ 1 16 Tryz.underlying35 HIS.out.1 HIS.out.2.1 HIS.out.2.2.1 HIS.out.2.2.2 rfl (by decide) (.slice an m cn) m (((ks.take m).map fun p => (N p).name).map .string) (by rfl) (HON.out _) ⟨w4.heap.size, 0, none⟩ 1 1 [.string (N p).name] (by rfl) rfl (one_news w4 _ _) (by intro u hu; simp at hu; subst hu; rfl) (by decide) (by unfold maxLen; omega) (by omega) (by show w1.heap.size ≤ (w4.alloc _).heap.size; rw [World.size_alloc]; omega) (w4.heap.size + 1) (World.size_alloc w4 _) ?_; intro g5 cap5 w5 hown5 hgrow5 hat5 hlt5; have p4 := (hgrow5.cell_far ⟨w.heap.size + 3, 3, none⟩ (by show _ < (w4.alloc _).heap.size; rw [World.size_alloc]; exact Nat.lt_succ_of_lt how4) hnm3).trans ((cell_past w4 _ how4).trans e3); have pf := (hgrow5.frozen_far ⟨w.heap.size + 3, 3, none⟩ (by show _ < (w4.alloc _).heap.size; rw [World.size_alloc]; exact Nat.lt_succ_of_lt how4) hnm3).trans ((frozen_past w4 _ how4).trans ef3))
        all_goals
          have HGR : Hid ((w4.alloc (.cells #[.string (N p).name] 9)).grownBy w5 (Value.slice an m cn).ownBlock) := ⟨hgrow5.os, hgrow5.tape, hgrow5.output, hgrow5.size, hgrow5.block⟩
          have HBF : Hid (Bld w1 (w5.setCell ⟨w.heap.size + 3, 3, none⟩ (.slice (some ⟨g5, 0, none⟩) (m + 1) cap5)) w1.heap.size (w.heap.size + 3) ((ks.take (m + 1)).map (tree N n)) ((ks.take (m + 1)).map fun p => (N p).name) (.slice (some ⟨g5, 0, none⟩) (m + 1) cap5) (.slice (some ⟨g3, 0, none⟩) (m + 1) cap3) (l ++ [⟨.int .i64 (N p).kind, .int .i64 (N p).num, .string (N p).text, .slice an2 mn2 cn2, .slice ak2 mk2 ck2⟩])) := by
            have := Bld.name (u := .slice (some ⟨g5, 0, none⟩) (m + 1) cap5) (s := (N p).name) (g := g5) (cap := cap5) HBN.out (by omega) (by rw [hnl5]; exact hown5) HGR.out (by rw [World.size_alloc]; exact hat5)
            rw [hnl5] at this
            show Bld _ _ _ _ _ _ _ _ _
            rw [name_snoc hlt HP.out]
            exact this
          have tO : ∀ x, w5.cell? ⟨w.heap.size + 3, x, none⟩ = w4.cell? ⟨w.heap.size + 3, x, none⟩ := fun x => (HGR.out.cell_far ⟨w.heap.size + 3, x, none⟩ (by rw [World.size_alloc]; exact Nat.lt_succ_of_lt how4) hnm3).trans (cell_past w4 _ how4)
          have tF : ∀ x, w5.frozen? ⟨w.heap.size + 3, x, none⟩ = w4.frozen? ⟨w.heap.size + 3, x, none⟩ := fun x => (HGR.out.frozen_far ⟨w.heap.size + 3, x, none⟩ (by rw [World.size_alloc]; exact Nat.lt_succ_of_lt how4) hnm3).trans (frozen_past w4 _ how4)
          generalize hw6 : World.setCell w5 _ _ = w6
          have hw7 : w6 = w5.setCell ⟨w.heap.size + 3, 3, none⟩ (.slice (some ⟨g5, 0, none⟩) (m + 1) cap5) := hw6.symm
          have hsome : (w5.cell? ⟨w.heap.size + 3, 3, none⟩).isSome = true := by rw [p4]; rfl
          have k0 : w6.cell? ⟨w.heap.size + 3, 0, none⟩ = some (.int .i64 (N k).kind) := by rw [hw7, cell_set hsome, if_neg (by omega), tO]; exact e0
          have k1 : w6.cell? ⟨w.heap.size + 3, 1, none⟩ = some (.int .i64 (N k).num) := by rw [hw7, cell_set hsome, if_neg (by omega), tO]; exact e1
          have k2 : w6.cell? ⟨w.heap.size + 3, 2, none⟩ = some (.string (N k).text) := by rw [hw7, cell_set hsome, if_neg (by omega), tO]; exact e2
          have k3 : w6.cell? ⟨w.heap.size + 3, 3, none⟩ = some (.slice (some ⟨g5, 0, none⟩) (m + 1) cap5) := by rw [hw7, cell_set hsome, if_pos rfl]
          have k4 : w6.cell? ⟨w.heap.size + 3, 4, none⟩ = some (.slice (some ⟨g3, 0, none⟩) (m + 1) cap3) := by rw [hw7, cell_set hsome, if_neg (by omega), tO]; exact e4
          have kf : w6.frozen? ⟨w.heap.size + 3, 4, none⟩ = false := by rw [hw7, World.frozen?_setCell, tF]; exact ef
          have kf3 : w6.frozen? ⟨w.heap.size + 3, 3, none⟩ = false := by rw [hw7, World.frozen?_setCell]; exact pf
          rw [← hw7] at HBF
          clear hw6 hw7 hsome tO tF HGR HBN HON hown5 hgrow5 hat5 hlt5 p4 pf e0 e1 e2 e3 e4 ef ef3 d0 d2 d3
          go_wp2_with fail
          go_roundw
          case rel => exact ⟨m + 1, _, _, _, _, _, by omega, by go_num, HBF, k0, k1, k2, k3, kf3, k4, kf⟩
          case measure => simp [intOf]; omega
    · obtain rfl : m = ks.length := by omega
      have hR : ∀ x, wr.cell? ⟨w.heap.size + 1, x, none⟩ = w1.cell? ⟨w.heap.size + 1, x, none⟩ ∧ wr.frozen? ⟨w.heap.size + 1, x, none⟩ = w1.frozen? ⟨w.heap.size + 1, x, none⟩ := fun x => ⟨HBL.out.bb.cell (by omega) (by omega), HBL.out.bb.frozen (by omega) (by omega)⟩
      obtain ⟨⟨r0, s0⟩, ⟨r1, s1⟩, ⟨r2, s2⟩, ⟨r3, s3⟩, ⟨r4, s4⟩⟩ := HR.out
      rw [← (hR _).1] at r0 r1 r2 r3 r4
      rw [← (hR _).2] at s0 s1 s2 s3 s4
      clear hR HR
      have hr : ∀ (W : World) x v b, b ≠ w.heap.size + 1 → (W.setCell ⟨w.heap.size + 1, x, none⟩ v).heap[b]? = W.heap[b]? := fun W x v b hb' => Below.heap_setCell _ _ _ _ hb'
      have HT : Hid (TreeIs wr (fun b => w.heap.size ≤ b ∧ b ≠ w.heap.size + 1) (tree N n k) (.agg #[.int .i64 (N k).kind, .int .i64 (N k).num, .string (N k).text, .slice an ks.length cn, .slice ak ks.length ck])) := by
        have hT := HBL.out.tree (N k).kind (N k).num (N k).text (S := fun b => w.heap.size ≤ b ∧ b ≠ w.heap.size + 1) (fun b hb' => ⟨by omega, by omega⟩)
        rw [List.take_length] at hT
        show TreeIs _ _ _ _
        rw [tree_eq hk, ← HKS.out]
        unfold kidNames
        rw [if_pos H7.out]
        exact hT
      have HBB : Hid (Below w.heap.size w wr) := HB1.out.trans (HBL.out.bb.below HB1.out.size (by omega))
      clear HBL HC HKS HIH
      go_wp2
      refine bodyPost_ret (v := .agg #[.int .i64 (N k).kind, .int .i64 (N k).num, .string (N k).text, .slice an ks.length cn, .slice ak ks.length ck]) (by simp [results, Tryz.results25, go_sem, r0, r1, r2, r3, r4]) rfl ⟨_, _, _, _, _, _, rfl, ?_, ?_⟩
      · refine TreeIs.keep (fun b hS _ => ?_) (fun b hS _ => hS.1) (by simp) _ _ HT.out
        simp only [hr _ _ _ b hS.2]
      · exact HBB.out.trans ⟨rfl, rfl, rfl, by simp, fun b hb' => by simp only [hr _ _ _ b (by omega)]⟩

theorem l1Tree_any (N : Nat → Nd) (n : Nat) (hn : n ≤ 80) : ∀ d k, n - k = d → k < n → TreeSaid N n k := by
  intro d
  induction d using Nat.strongRecOn with
  | _ d ih =>
    intro k hd hk
    by_cases h7 : (N k).kind = 7
    · exact l1Tree_map n k N hn hk h7 (fun p h1 h2 => ih (n - p) (by omega) p rfl h2)
    · exact l1Tree_list n k N hn hk h7 (fun p h1 h2 => ih (n - p) (by omega) p rfl h2)

end Go.Proofs.YtjbjgkkkkghcgaaGreatDoor
