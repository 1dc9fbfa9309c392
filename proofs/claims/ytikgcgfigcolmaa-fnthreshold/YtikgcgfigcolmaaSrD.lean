/- A search through lists: a depth more. No condition but that they fit in memory. -/
import Derived.Test.YtikgcgfigcolmaaSrC
namespace Go.Proofs.Ytikgcgfigcolmaa
open Go.RowKit
set_option linter.unusedVariables false

/-- What was met: ids of the lists, with their sums. -/
def MetOk (ls : List DRanking) (M : List DScored) : Prop := Sums (sumL ls) M ∧ ∀ x ∈ M, x.1 ∈ idsAll ls
theorem sum_pos : ∀ {ls : List DRanking}, (∀ r ∈ ls, ∀ x ∈ r, 1 ≤ x.2 ∧ x.2 ≤ 1000000) → ∀ {i : Int}, i ∈ idsAll ls → 1 ≤ sumL ls i
  | [], _, i, hi => by simp [idsAll] at hi
  | r :: t, h, i, hi => by
    have h1 := scoreL_bnd (h r (by simp)) i
    have h2 := sumL_bnd (ls := t) (fun q hq => h q (by simp [hq])) i
    rw [sumL]
    unfold idsAll at hi
    rw [List.flatMap_cons, List.mem_append] at hi
    rcases hi with hi | hi
    · obtain ⟨x, hx, rfl⟩ := List.mem_map.1 hi
      have := scoreL_yes r x.1 (fun y hy => (h r (by simp) y hy).1) (noId_false hx rfl)
      omega
    · have := sum_pos (ls := t) (fun q hq => h q (by simp [hq])) hi
      omega
theorem MetOk.pos {ls : List DRanking} {M : List DScored} (h : MetOk ls M) (hg : fGoodRankings ls = true) : ∀ x ∈ M, 1 ≤ x.2 := fun x hx => by
  rw [h.1 x hx]
  exact sum_pos (fun r hr y hy => (good_sc hg r hr y hy).1) (h.2 x hx)
theorem MetOk.int {ls : List DRanking} {M : List DScored} (h : MetOk ls M) (hg : fGoodRankings ls = true) : ∀ x ∈ M, IntOk x.1 ∧ IntOk x.2 := fun x hx => by
  obtain ⟨r, hr, y, hy, h1⟩ := idsAll_mem.1 (h.2 x hx)
  have h2 := good_sc hg r hr y hy
  have h3 := sumL_bnd (fun r hr y hy => (good_sc hg r hr y hy).1) x.1
  have h4 := (good_len hg).1
  rw [h.1 x hx]
  unfold IntOk
  omega
theorem MetOk.meet {ls : List DRanking} {M : List DScored} (h : MetOk ls M) {i : Int} (hi : i ∈ idsAll ls) : MetOk ls (meetL M (i, sumL ls i)) := by
  refine ⟨meetL_sums i h.1, fun x hx => ?_⟩
  rcases (meetL_mem i h.1 x).1 hx with rfl | hx
  · exact hi
  · exact h.2 x hx
theorem MetOk.meets {ls : List DRanking} : ∀ (is : List Int) {M : List DScored}, MetOk ls M → (∀ i ∈ is, i ∈ idsAll ls) → MetOk ls (meetIds (sumL ls) M is)
  | [], M, h, _ => h
  | i :: r, M, h, hi => by rw [meetIds_cons]; exact MetOk.meets r (h.meet (hi i (by simp))) fun j hj => hi j (by simp [hj])
theorem atDp_take {ls : List DRanking} {k d : Nat} {r : DRanking} (h : ls[k]? = some r) : atDp (ls.take (k + 1)) d = atDp (ls.take k) d ++ (match r[d]? with | none => [] | some x => [x]) := by
  rw [List.take_add_one, h]
  unfold atDp
  rw [List.filterMap_append]
  congr 1
  show List.filterMap (fun r => r[d]?) [r] = _
  rw [List.filterMap_cons]
  cases r[d]? <;> rfl
theorem sumSc_append : ∀ (a b : List DScored), sumSc (a ++ b) = sumSc a + sumSc b
  | [], b => by simp [sumSc]
  | x :: r, b => by simp only [List.cons_append, sumSc, sumSc_append r b]; omega
theorem meetIds_one (f : Int → Int) (M : List DScored) (i : Int) : meetIds f M [i] = meetL M (i, f i) := rfl
/-- A number of a search, turned. -/
theorem SrAt.num {w W3 : World} {g Bm : Nat} {ls : List DRanking} {a : Option Addr} {n c : Nat} {ea : Option Addr} {ec : Nat} {ma : Option Addr} {mc : Nat} {met : List DScored} {d : Nat} {thr : Int} (hf : SrFix w g Bm ls a n c ea ec) (hs : SrAt w g Bm a n c ea ec ma mc met d thr) (hb : Below w.heap.size w W3) (thr' : Int) :
    SrTo w g Bm ls a n c ea ec met d thr' (W3.setCell ⟨g, 4, none⟩ (.int .i64 thr')) := by
  have hs3 := hs.below hb
  have hbb : BelowBut Bm g w (W3.setCell ⟨g, 4, none⟩ (.int .i64 thr')) := set_bbut (below_but hb hf.lt)
  refine ⟨hf.keep hbb, hbb, ma, mc, ⟨set_other hs3.c0 (by decide), set_other hs3.c1 (by decide), set_other hs3.c2 (by decide), set_other hs3.c3 (by decide), set_same hs3.c4, fun o ho => ?_, OwnL.set hs3.own hs3.lt, hs3.lt⟩⟩
  rw [World.frozen?_setCell]
  exact hs3.fz o ho
theorem SrAt.dep {w W3 : World} {g Bm : Nat} {ls : List DRanking} {a : Option Addr} {n c : Nat} {ea : Option Addr} {ec : Nat} {ma : Option Addr} {mc : Nat} {met : List DScored} {d : Nat} {thr : Int} (hf : SrFix w g Bm ls a n c ea ec) (hs : SrAt w g Bm a n c ea ec ma mc met d thr) (hb : Below w.heap.size w W3) (d' : Nat) :
    SrTo w g Bm ls a n c ea ec met d' thr (W3.setCell ⟨g, 3, none⟩ (.int .i64 d')) := by
  have hs3 := hs.below hb
  have hbb : BelowBut Bm g w (W3.setCell ⟨g, 3, none⟩ (.int .i64 d')) := set_bbut (below_but hb hf.lt)
  refine ⟨hf.keep hbb, hbb, ma, mc, ⟨set_other hs3.c0 (by decide), set_other hs3.c1 (by decide), set_other hs3.c2 (by decide), set_same hs3.c3, set_other hs3.c4 (by decide), fun o ho => ?_, OwnL.set hs3.own hs3.lt, hs3.lt⟩⟩
  rw [World.frozen?_setCell]
  exact hs3.fz o ho

set_option maxRecDepth 100000 in
set_option maxHeartbeats 4000000 in
theorem goDeeper_k (ls : List DRanking) (w : World) (g Bm : Nat) (a : Option Addr) (n c : Nat) (ea : Option Addr) (ec : Nat) (ma : Option Addr) (mc : Nat) (met : List DScored) (d : Nat) (thr : Int) (hf : SrFix w g Bm ls a n c ea ec) (hs : SrAt w g Bm a n c ea ec ma mc met d thr) (hg : fGoodRankings ls = true) (hm : met.length ≤ 1000) (hmo : MetOk ls met) (hd : d ≤ 60) :
    Calls Try.prog 65 #[.pointer (some ⟨g, 0, none⟩)] w fun e w' => e = .returned (.tuple #[]) ∧ SrTo w g Bm ls a n c ea ec (meetIds (sumL ls) met (idsAt ls d)) (d + 1) (thrD ls d) w' := by
  have hn := row_len hf.lists
  have h5 : n ≤ 5 := by rw [hn]; exact (good_len hg).1
  have HN : Hid (n = ls.length) := hn
  have HG : Hid (fGoodRankings ls = true) := hg
  have HMO : Hid (MetOk ls met) := hmo
  have HM : Hid (met.length ≤ 1000) := hm
  have X1 := hs.c1
  have X4 := hs.c4
  have X4f := hs.fz 4 (by decide)
  have hgw : g < w.heap.size := World.block_lt_of_cell? _ _ X4
  have HS0 : Hid (SrTo w g Bm ls a n c ea ec met d 0 (w.setCell ⟨g, 4, none⟩ (.int .i64 0))) := SrAt.num hf hs (Below.refl _ _) 0
  obtain ⟨W0, hW0⟩ : ∃ W0, W0 = w.setCell ⟨g, 4, none⟩ (.int .i64 0) := ⟨_, rfl⟩
  rw [← hW0] at HS0
  have Z1 : W0.cell? ⟨g, 1, none⟩ = some (.slice ea n ec) := by obtain ⟨_, _, _, _, h⟩ := HS0.out; exact h.c1
  clear hf hs hn hg hmo hm
  go_enter Try.func65, Try.ntmps65
  go_wp2_with fail
  rw [← hW0]
  clear hW0 X1
  go_loopw [14] (fun iv wr => ∃ (k : Nat) (M : List DScored) (t : Int), k ≤ n ∧ iv = .int .i64 k ∧ Hid (M = meetIds (sumL ls) met ((atDp (ls.take k) d).map (·.1))) ∧ Hid (t = sumSc (atDp (ls.take k) d)) ∧ (0 ≤ t ∧ t ≤ 1000000 * k) ∧ Hid (M.length ≤ met.length + k) ∧ Hid (MetOk ls M) ∧ Hid (SrTo w g Bm ls a n c ea ec M d t wr)) (fun iv _ => n - (intOf iv).toNat)
  case atStart => exact ⟨0, met, 0, Nat.zero_le _, rfl, rfl, rfl, by omega, Nat.le_refl _, HMO, HS0⟩
  case round =>
    obtain ⟨k, M, t, hk, rfl, HI, HT, ht, HL, HMM, HS⟩ := hrel
    obtain ⟨t1, t2⟩ := ht
    obtain ⟨hf1, hbb1, ma1, mc1, hs1⟩ := HS.out
    have HF1 : Hid (SrFix wr g Bm ls a n c ea ec) := hf1
    have HS1 : Hid (SrAt wr g Bm a n c ea ec ma1 mc1 M d t) := hs1
    have HBB1 : Hid (BelowBut Bm g w wr) := hbb1
    have Y3 := hs1.c3
    have Y1 := hs1.c1
    by_cases hlt : k < n
    · obtain ⟨r, hr⟩ : ∃ r, ls[k]? = some r := ⟨_, List.getElem?_eq_getElem (by rw [← HN.out]; exact hlt)⟩
      obtain ⟨eb, rfl, h4, h5', h6⟩ : ∃ eb, ea = some ⟨eb, 0, none⟩ ∧ eb < Bm ∧ eb ≠ g ∧ ∀ i r, ls[i]? = some r → ∃ la lc, wr.cell? ⟨eb, i, none⟩ = some (.func (.func 96) #[.agg #[.slice la r.length lc]] #[]) ∧ (kRow kScored).is false wr (fun k => k < Bm ∧ k ≠ g) [.slice la r.length lc] r := by
        rcases hf1.fns with e | h
        · rw [e] at hr; simp at hr
        · exact h
      obtain ⟨la, lc, A0, hrow⟩ := h6 k r hr
      have HROW : Hid ((kRow kScored).is false wr (fun k => k < Bm ∧ k ≠ g) [.slice la r.length lc] r) := hrow
      have i0 : (0 : Int) ≤ (k : Int) := by omega
      have i1 : (k : Int) < (n : Int) := by omega
      have HR : Hid (ls[k]? = some r) := hr
      have HAT : Hid (atDp (ls.take (k + 1)) d = atDp (ls.take k) d ++ (match r[d]? with | none => [] | some x => [x])) := atDp_take hr
      clear hf1 hs1 hbb1 h4 h5' h6 hrow hr HS
      obtain ⟨m, hm⟩ : ∃ m, m = r.length := ⟨_, rfl⟩
      have HMR : Hid (m = r.length) := hm
      rw [← hm] at A0 HROW
      clear hm
      by_cases hdm : m ≤ d
      · have HAT2 : Hid (atDp (ls.take (k + 1)) d = atDp (ls.take k) d) := by show _ = _; rw [HAT.out, List.getElem?_eq_none (by rw [← HMR.out]; exact hdm)]; simp
        go_wp2_with fail
        refine (entryAt_no la m lc d _ hdm).mono ?_
        rintro e w1 ⟨rfl, hb1⟩
        have HS2 : Hid (SrTo w g Bm ls a n c (some ⟨eb, 0, none⟩) ec M d t (w1.alloc (.cells #[.int .i64 0, .int .i64 0] 60))) := SrTo.below ⟨HF1.out, HBB1.out, ma1, mc1, HS1.out⟩ (hb1.alloc hb1.size _)
        clear hb1
        go_wp2
        go_roundw
        case rel => exact ⟨k + 1, M, t, by omega, by go_num, by show _ = _; rw [HAT2.out]; exact HI.out, by show _ = _; rw [HAT2.out]; exact HT.out, by omega, by have := HL.out; show _ ≤ _; omega, HMM, HS2⟩
        case measure => simp [intOf]; omega
      · obtain ⟨⟨i, s⟩, hx⟩ : ∃ x, r[d]? = some x := ⟨_, List.getElem?_eq_getElem (by rw [← HMR.out]; omega)⟩
        have HAT2 : Hid (atDp (ls.take (k + 1)) d = atDp (ls.take k) d ++ [(i, s)]) := by show _ = _; rw [HAT.out, hx]
        have hrl : r ∈ ls := List.mem_of_getElem? HR.out
        have hxr : (i, s) ∈ r := List.mem_of_getElem? hx
        obtain ⟨⟨s1, s2⟩, _⟩ := good_sc HG.out r hrl (i, s) hxr
        simp only at s1 s2
        have HIA : Hid (i ∈ idsAll ls) := idsAll_mem.2 ⟨r, hrl, (i, s), hxr, rfl⟩
        go_wp2_with fail
        refine (entryAt_yes r la m lc _ d i s _ HROW.out hx).mono ?_
        rintro e w1 ⟨rfl, hb1⟩
        obtain ⟨W2, hW2⟩ : ∃ W2, W2 = w1.alloc (.cells #[.int .i64 i, .int .i64 s] 60) := ⟨_, rfl⟩
        have hb2 : Below wr.heap.size wr W2 := by rw [hW2]; exact hb1.alloc hb1.size _
        have HF2 : Hid (SrFix W2 g Bm ls a n c (some ⟨eb, 0, none⟩) ec) := HF1.out.keep (below_but hb2 HF1.out.lt)
        have HS2 : Hid (SrAt W2 g Bm a n c (some ⟨eb, 0, none⟩) ec ma1 mc1 M d t) := HS1.out.below hb2
        have HBB2 : Hid (BelowBut Bm g w W2) := bbut_trans HBB1.out (below_but hb2 HF1.out.lt)
        have Q4 := HS2.out.c4
        have Q4f := HS2.out.fz 4 (by decide)
        have E0 : W2.cell? ⟨w1.heap.size, 0, none⟩ = some (.int .i64 i) := by rw [hW2]; simp [go_sem]
        have E1 : W2.cell? ⟨w1.heap.size, 1, none⟩ = some (.int .i64 s) := by rw [hW2]; simp [go_sem]
        have hgw1 : g ≠ w1.heap.size := by have := World.block_lt_of_cell? _ _ Y3; have h2 := hb1.size; have h3 : g < wr.heap.size := this; omega
        clear hb1 hb2 hx hrl hxr HAT Y1 Y3
        go_wp2_with fail
        rw [← hW2]
        clear hW2
        have hwr : IntKind.wrap .i64 (t + s) = t + s := by simp [IntKind.wrap, IntKind.bits, IntKind.signed]; omega
        have HS3 : Hid (SrTo W2 g Bm ls a n c (some ⟨eb, 0, none⟩) ec M d (t + s) (W2.drew.setCell ⟨g, 4, none⟩ (.int .i64 (t + s)))) := SrAt.num HF2.out HS2.out ((Below.refl _ _).drew) (t + s)
        go_region
        all_goals
          go_wp2_with fail
          obtain ⟨hf3, hbb3, ma3, mc3, hs3⟩ := HS3.out
          refine (meet_k ls _ g Bm a n c (some ⟨eb, 0, none⟩) ec ma3 mc3 M d (t + s) i hf3 hs3 (good_sumOk HG.out) (by have := HL.out; have := HM.out; omega) (HMM.out.int HG.out) (HMM.out.pos HG.out)).mono ?_
          rintro e w4 ⟨rfl, hto⟩
          have HS4 : Hid (SrTo w g Bm ls a n c (some ⟨eb, 0, none⟩) ec (meetL M (i, sumL ls i)) d (t + s) w4) := (hto.from hbb3).from HBB2.out
          clear hto hbb3 hf3 hs3
          go_wp2
          go_roundw
          case rel => exact ⟨k + 1, meetL M (i, sumL ls i), t + s, by omega, by go_num, by show _ = _; rw [HAT2.out, List.map_append, meetIds_append, ← HI.out]; rfl, by show _ = _; rw [HAT2.out, sumSc_append, ← HT.out]; simp [sumSc], by omega, by have := HL.out; have h2 := meetL_length M (i, sumL ls i); show _ ≤ _; omega, HMM.out.meet HIA.out, HS4⟩
          case measure => simp [intOf]; omega
    · have i1 : ¬ (k : Int) < (n : Int) := by omega
      have HE : Hid (M = meetIds (sumL ls) met (idsAt ls d)) := by show _ = _; rw [HI.out, List.take_of_length_le (by rw [← HN.out]; omega)]; rfl
      have HET : Hid (t = thrD ls d) := by show _ = _; rw [HT.out, List.take_of_length_le (by rw [← HN.out]; omega)]; rfl
      have Y3f := hs1.fz 3 (by decide)
      have HS5 : Hid (SrTo w g Bm ls a n c ea ec M (d + 1) t (wr.setCell ⟨g, 3, none⟩ (.int .i64 ((d + 1 : Nat) : Int)))) := (SrAt.dep hf1 hs1 (Below.refl _ _) (d + 1)).from hbb1
      clear hf1 hs1 hbb1 HI HT HS
      go_wp2
      go_end0
      rw [← HE.out, ← HET.out]
      exact ⟨rfl, HS5.out⟩
end Go.Proofs.Ytikgcgfigcolmaa
