/- A search through lists: a depth more. No condition but that they fit in memory. A search through lists: begun, and the best few of what was met. No condition but that they fit in memory. A search through lists, begun: its functions in a row. No condition but that they fit in memory. The best of several lists, by going through all: the program's. No condition but that they fit in memory. The best of several lists, found ahead of their ends: the program's. No condition but that they fit in memory. -/
import Derived.Test.YtikgcgfigcolmaaQSrC
import Derived.Test.YtikgcgfigcolmaaQRpP
import Derived.Deep.RegionWith
namespace Go.Proofs.Ytikgcgfigcolmaa
open Go.RowKit
set_option linter.unusedVariables false

/-- What was met: ids of the lists, with their sums. -/
def MetOk (ls : List DRanking) (M : List DScored) : Prop := Sums (sumL ls) M ∧ ∀ x ∈ M, x.1 ∈ idsAll ls
theorem sum_pos : ∀ {ls : List DRanking}, (∀ r ∈ ls, ∀ x ∈ r, 1 ≤ x.2 ∧ x.2 ≤ 1000000) → ∀ {i : Int}, i ∈ idsAll ls → 1 ≤ sumL ls i
  | [], _, i, hi => by simp [idsAll] at hi
  | r :: t, h, i, hi => by
    have h1 := scoreL_bnd (h r (by simp)) i
    have h2 := sumL_bnd (ls := t) (fun q hq => h q (by simp [hq])) i
    rw [sumL]
    unfold idsAll at hi
    rw [List.flatMap_cons, List.mem_append] at hi
    rcases hi with hi | hi
    · obtain ⟨x, hx, rfl⟩ := List.mem_map.1 hi
      have := scoreL_yes r x.1 (fun y hy => (h r (by simp) y hy).1) (noId_false hx rfl)
      omega
    · have := sum_pos (ls := t) (fun q hq => h q (by simp [hq])) hi
      omega
theorem MetOk.pos {ls : List DRanking} {M : List DScored} (h : MetOk ls M) (hg : fGoodRankings ls = true) : ∀ x ∈ M, 1 ≤ x.2 := fun x hx => by
  rw [h.1 x hx]
  exact sum_pos (fun r hr y hy => (good_sc hg r hr y hy).1) (h.2 x hx)
theorem MetOk.int {ls : List DRanking} {M : List DScored} (h : MetOk ls M) (hg : fGoodRankings ls = true) : ∀ x ∈ M, IntOk x.1 ∧ IntOk x.2 := fun x hx => by
  obtain ⟨r, hr, y, hy, h1⟩ := idsAll_mem.1 (h.2 x hx)
  have h2 := good_sc hg r hr y hy
  have h3 := sumL_bnd (fun r hr y hy => (good_sc hg r hr y hy).1) x.1
  have h4 := (good_len hg).1
  rw [h.1 x hx]
  unfold IntOk
  omega
theorem MetOk.meet {ls : List DRanking} {M : List DScored} (h : MetOk ls M) {i : Int} (hi : i ∈ idsAll ls) : MetOk ls (meetL M (i, sumL ls i)) := by
  refine ⟨meetL_sums i h.1, fun x hx => ?_⟩
  rcases (meetL_mem i h.1 x).1 hx with rfl | hx
  · exact hi
  · exact h.2 x hx
theorem MetOk.meets {ls : List DRanking} : ∀ (is : List Int) {M : List DScored}, MetOk ls M → (∀ i ∈ is, i ∈ idsAll ls) → MetOk ls (meetIds (sumL ls) M is)
  | [], M, h, _ => h
  | i :: r, M, h, hi => by rw [meetIds_cons]; exact MetOk.meets r (h.meet (hi i (by simp))) fun j hj => hi j (by simp [hj])
theorem atDp_take {ls : List DRanking} {k d : Nat} {r : DRanking} (h : ls[k]? = some r) : atDp (ls.take (k + 1)) d = atDp (ls.take k) d ++ (match r[d]? with | none => [] | some x => [x]) := by
  rw [List.take_add_one, h]
  unfold atDp
  rw [List.filterMap_append]
  congr 1
  show List.filterMap (fun r => r[d]?) [r] = _
  rw [List.filterMap_cons]
  cases r[d]? <;> rfl
theorem sumSc_append : ∀ (a b : List DScored), sumSc (a ++ b) = sumSc a + sumSc b
  | [], b => by simp [sumSc]
  | x :: r, b => by simp only [List.cons_append, sumSc, sumSc_append r b]; omega
theorem meetIds_one (f : Int → Int) (M : List DScored) (i : Int) : meetIds f M [i] = meetL M (i, f i) := rfl
/-- A number of a search, turned. -/
theorem SrAt.num {w W3 : World} {g Bm : Nat} {ls : List DRanking} {a : Option Addr} {n c : Nat} {ea : Option Addr} {ec : Nat} {ma : Option Addr} {mc : Nat} {met : List DScored} {d : Nat} {thr : Int} (hf : SrFix w g Bm ls a n c ea ec) (hs : SrAt w g Bm a n c ea ec ma mc met d thr) (hb : Below w.heap.size w W3) (thr' : Int) :
    SrTo w g Bm ls a n c ea ec met d thr' (W3.setCell ⟨g, 4, none⟩ (.int .i64 thr')) := by
  have hs3 := hs.below hb
  have hbb : BelowBut Bm g w (W3.setCell ⟨g, 4, none⟩ (.int .i64 thr')) := set_bbut (below_but hb hf.lt)
  refine ⟨hf.keep hbb, hbb, ma, mc, ⟨set_other hs3.c0 (by decide), set_other hs3.c1 (by decide), set_other hs3.c2 (by decide), set_other hs3.c3 (by decide), set_same hs3.c4, fun o ho => ?_, OwnL.set hs3.own hs3.lt, hs3.lt⟩⟩
  rw [World.frozen?_setCell]
  exact hs3.fz o ho
theorem SrAt.dep {w W3 : World} {g Bm : Nat} {ls : List DRanking} {a : Option Addr} {n c : Nat} {ea : Option Addr} {ec : Nat} {ma : Option Addr} {mc : Nat} {met : List DScored} {d : Nat} {thr : Int} (hf : SrFix w g Bm ls a n c ea ec) (hs : SrAt w g Bm a n c ea ec ma mc met d thr) (hb : Below w.heap.size w W3) (d' : Nat) :
    SrTo w g Bm ls a n c ea ec met d' thr (W3.setCell ⟨g, 3, none⟩ (.int .i64 d')) := by
  have hs3 := hs.below hb
  have hbb : BelowBut Bm g w (W3.setCell ⟨g, 3, none⟩ (.int .i64 d')) := set_bbut (below_but hb hf.lt)
  refine ⟨hf.keep hbb, hbb, ma, mc, ⟨set_other hs3.c0 (by decide), set_other hs3.c1 (by decide), set_other hs3.c2 (by decide), set_same hs3.c3, set_other hs3.c4 (by decide), fun o ho => ?_, OwnL.set hs3.own hs3.lt, hs3.lt⟩⟩
  rw [World.frozen?_setCell]
  exact hs3.fz o ho

set_option maxRecDepth 100000 in
set_option maxHeartbeats 4000000 in
theorem goDeeper_k (ls : List DRanking) (w : World) (g Bm : Nat) (a : Option Addr) (n c : Nat) (ea : Option Addr) (ec : Nat) (ma : Option Addr) (mc : Nat) (met : List DScored) (d : Nat) (thr : Int) (hf : SrFix w g Bm ls a n c ea ec) (hs : SrAt w g Bm a n c ea ec ma mc met d thr) (hg : fGoodRankings ls = true) (hm : met.length ≤ 1000) (hmo : MetOk ls met) (hd : d ≤ 60) :
    Calls Try.prog 65 #[.pointer (some ⟨g, 0, none⟩)] w fun e w' => e = .returned (.tuple #[]) ∧ SrTo w g Bm ls a n c ea ec (meetIds (sumL ls) met (idsAt ls d)) (d + 1) (thrD ls d) w' := by
  have hn := row_len hf.lists
  have h5 : n ≤ 5 := by rw [hn]; exact (good_len hg).1
  have HN : Hid (n = ls.length) := hn
  have HG : Hid (fGoodRankings ls = true) := hg
  have HMO : Hid (MetOk ls met) := hmo
  have HM : Hid (met.length ≤ 1000) := hm
  have X1 := hs.c1
  have X4 := hs.c4
  have X4f := hs.fz 4 (by decide)
  have hgw : g < w.heap.size := World.block_lt_of_cell? _ _ X4
  have HS0 : Hid (SrTo w g Bm ls a n c ea ec met d 0 (w.setCell ⟨g, 4, none⟩ (.int .i64 0))) := SrAt.num hf hs (Below.refl _ _) 0
  obtain ⟨W0, hW0⟩ : ∃ W0, W0 = w.setCell ⟨g, 4, none⟩ (.int .i64 0) := ⟨_, rfl⟩
  rw [← hW0] at HS0
  have Z1 : W0.cell? ⟨g, 1, none⟩ = some (.slice ea n ec) := by obtain ⟨_, _, _, _, h⟩ := HS0.out; exact h.c1
  clear hf hs hn hg hmo hm
  go_enter Try.func65, Try.ntmps65
  go_wp2_with fail
  rw [← hW0]
  clear hW0 X1
  go_loopw [14] (fun iv wr => ∃ (k : Nat) (M : List DScored) (t : Int), k ≤ n ∧ iv = .int .i64 k ∧ Hid (M = meetIds (sumL ls) met ((atDp (ls.take k) d).map (·.1))) ∧ Hid (t = sumSc (atDp (ls.take k) d)) ∧ (0 ≤ t ∧ t ≤ 1000000 * k) ∧ Hid (M.length ≤ met.length + k) ∧ Hid (MetOk ls M) ∧ Hid (SrTo w g Bm ls a n c ea ec M d t wr)) (fun iv _ => n - (intOf iv).toNat)
  case atStart => exact ⟨0, met, 0, Nat.zero_le _, rfl, rfl, rfl, by omega, Nat.le_refl _, HMO, HS0⟩
  case round =>
    obtain ⟨k, M, t, hk, rfl, HI, HT, ht, HL, HMM, HS⟩ := hrel
    obtain ⟨t1, t2⟩ := ht
    obtain ⟨hf1, hbb1, ma1, mc1, hs1⟩ := HS.out
    have HF1 : Hid (SrFix wr g Bm ls a n c ea ec) := hf1
    have HS1 : Hid (SrAt wr g Bm a n c ea ec ma1 mc1 M d t) := hs1
    have HBB1 : Hid (BelowBut Bm g w wr) := hbb1
    have Y3 := hs1.c3
    have Y1 := hs1.c1
    by_cases hlt : k < n
    · obtain ⟨r, hr⟩ : ∃ r, ls[k]? = some r := ⟨_, List.getElem?_eq_getElem (by rw [← HN.out]; exact hlt)⟩
      obtain ⟨eb, rfl, h4, h5', h6⟩ : ∃ eb, ea = some ⟨eb, 0, none⟩ ∧ eb < Bm ∧ eb ≠ g ∧ ∀ i r, ls[i]? = some r → ∃ la lc, wr.cell? ⟨eb, i, none⟩ = some (.func (.func 96) #[.agg #[.slice la r.length lc]] #[]) ∧ (kRow kScored).is false wr (fun k => k < Bm ∧ k ≠ g) [.slice la r.length lc] r := by
        rcases hf1.fns with e | h
        · rw [e] at hr; simp at hr
        · exact h
      obtain ⟨la, lc, A0, hrow⟩ := h6 k r hr
      have HROW : Hid ((kRow kScored).is false wr (fun k => k < Bm ∧ k ≠ g) [.slice la r.length lc] r) := hrow
      have i0 : (0 : Int) ≤ (k : Int) := by omega
      have i1 : (k : Int) < (n : Int) := by omega
      have HR : Hid (ls[k]? = some r) := hr
      have HAT : Hid (atDp (ls.take (k + 1)) d = atDp (ls.take k) d ++ (match r[d]? with | none => [] | some x => [x])) := atDp_take hr
      clear hf1 hs1 hbb1 h4 h5' h6 hrow hr HS
      obtain ⟨m, hm⟩ : ∃ m, m = r.length := ⟨_, rfl⟩
      have HMR : Hid (m = r.length) := hm
      rw [← hm] at A0 HROW
      clear hm
      by_cases hdm : m ≤ d
      · have HAT2 : Hid (atDp (ls.take (k + 1)) d = atDp (ls.take k) d) := by show _ = _; rw [HAT.out, List.getElem?_eq_none (by rw [← HMR.out]; exact hdm)]; simp
        go_wp2_with fail
        refine (entryAt_no la m lc d _ hdm).mono ?_
        rintro e w1 ⟨rfl, hb1⟩
        have HS2 : Hid (SrTo w g Bm ls a n c (some ⟨eb, 0, none⟩) ec M d t (w1.alloc (.cells #[.int .i64 0, .int .i64 0] 60))) := SrTo.below ⟨HF1.out, HBB1.out, ma1, mc1, HS1.out⟩ (hb1.alloc hb1.size _)
        clear hb1
        go_wp2
        go_roundw
        case rel => exact ⟨k + 1, M, t, by omega, by go_num, by show _ = _; rw [HAT2.out]; exact HI.out, by show _ = _; rw [HAT2.out]; exact HT.out, by omega, by have := HL.out; show _ ≤ _; omega, HMM, HS2⟩
        case measure => simp [intOf]; omega
      · obtain ⟨⟨i, s⟩, hx⟩ : ∃ x, r[d]? = some x := ⟨_, List.getElem?_eq_getElem (by rw [← HMR.out]; omega)⟩
        have HAT2 : Hid (atDp (ls.take (k + 1)) d = atDp (ls.take k) d ++ [(i, s)]) := by show _ = _; rw [HAT.out, hx]
        have hrl : r ∈ ls := List.mem_of_getElem? HR.out
        have hxr : (i, s) ∈ r := List.mem_of_getElem? hx
        obtain ⟨⟨s1, s2⟩, _⟩ := good_sc HG.out r hrl (i, s) hxr
        simp only at s1 s2
        have HIA : Hid (i ∈ idsAll ls) := idsAll_mem.2 ⟨r, hrl, (i, s), hxr, rfl⟩
        go_wp2_with fail
        refine (entryAt_yes r la m lc _ d i s _ HROW.out hx).mono ?_
        rintro e w1 ⟨rfl, hb1⟩
        obtain ⟨W2, hW2⟩ : ∃ W2, W2 = w1.alloc (.cells #[.int .i64 i, .int .i64 s] 60) := ⟨_, rfl⟩
        have hb2 : Below wr.heap.size wr W2 := by rw [hW2]; exact hb1.alloc hb1.size _
        have HF2 : Hid (SrFix W2 g Bm ls a n c (some ⟨eb, 0, none⟩) ec) := HF1.out.keep (below_but hb2 HF1.out.lt)
        have HS2 : Hid (SrAt W2 g Bm a n c (some ⟨eb, 0, none⟩) ec ma1 mc1 M d t) := HS1.out.below hb2
        have HBB2 : Hid (BelowBut Bm g w W2) := bbut_trans HBB1.out (below_but hb2 HF1.out.lt)
        have Q4 := HS2.out.c4
        have Q4f := HS2.out.fz 4 (by decide)
        have E0 : W2.cell? ⟨w1.heap.size, 0, none⟩ = some (.int .i64 i) := by rw [hW2]; simp [go_sem]
        have E1 : W2.cell? ⟨w1.heap.size, 1, none⟩ = some (.int .i64 s) := by rw [hW2]; simp [go_sem]
        have hgw1 : g ≠ w1.heap.size := by have := World.block_lt_of_cell? _ _ Y3; have h2 := hb1.size; have h3 : g < wr.heap.size := this; omega
        clear hb1 hb2 hx hrl hxr HAT Y1 Y3
        go_wp2_with fail
        rw [← hW2]
        clear hW2
        have hwr : IntKind.wrap .i64 (t + s) = t + s := by simp [IntKind.wrap, IntKind.bits, IntKind.signed]; omega
        have HS3 : Hid (SrTo W2 g Bm ls a n c (some ⟨eb, 0, none⟩) ec M d (t + s) (W2.drew.setCell ⟨g, 4, none⟩ (.int .i64 (t + s)))) := SrAt.num HF2.out HS2.out ((Below.refl _ _).drew) (t + s)
        go_region
        all_goals
          go_wp2_with fail
          obtain ⟨hf3, hbb3, ma3, mc3, hs3⟩ := HS3.out
          refine (meet_k ls _ g Bm a n c (some ⟨eb, 0, none⟩) ec ma3 mc3 M d (t + s) i hf3 hs3 (good_sumOk HG.out) (by have := HL.out; have := HM.out; omega) (HMM.out.int HG.out) (HMM.out.pos HG.out)).mono ?_
          rintro e w4 ⟨rfl, hto⟩
          have HS4 : Hid (SrTo w g Bm ls a n c (some ⟨eb, 0, none⟩) ec (meetL M (i, sumL ls i)) d (t + s) w4) := (hto.from hbb3).from HBB2.out
          clear hto hbb3 hf3 hs3
          go_wp2
          go_roundw
          case rel => exact ⟨k + 1, meetL M (i, sumL ls i), t + s, by omega, by go_num, by show _ = _; rw [HAT2.out, List.map_append, meetIds_append, ← HI.out]; rfl, by show _ = _; rw [HAT2.out, sumSc_append, ← HT.out]; simp [sumSc], by omega, by have := HL.out; have h2 := meetL_length M (i, sumL ls i); show _ ≤ _; omega, HMM.out.meet HIA.out, HS4⟩
          case measure => simp [intOf]; omega
    · have i1 : ¬ (k : Int) < (n : Int) := by omega
      have HE : Hid (M = meetIds (sumL ls) met (idsAt ls d)) := by show _ = _; rw [HI.out, List.take_of_length_le (by rw [← HN.out]; omega)]; rfl
      have HET : Hid (t = thrD ls d) := by show _ = _; rw [HT.out, List.take_of_length_le (by rw [← HN.out]; omega)]; rfl
      have Y3f := hs1.fz 3 (by decide)
      have HS5 : Hid (SrTo w g Bm ls a n c ea ec M (d + 1) t (wr.setCell ⟨g, 3, none⟩ (.int .i64 ((d + 1 : Nat) : Int)))) := (SrAt.dep hf1 hs1 (Below.refl _ _) (d + 1)).from hbb1
      clear hf1 hs1 hbb1 HI HT HS
      go_wp2
      go_end0
      rw [← HE.out, ← HET.out]
      exact ⟨rfl, HS5.out⟩
end Go.Proofs.Ytikgcgfigcolmaa
namespace Go.Proofs.Ytikgcgfigcolmaa
open Go.RowKit
set_option linter.unusedVariables false

set_option maxRecDepth 100000 in
set_option maxHeartbeats 2000000 in
theorem cloneS_k (l : List DScored) (a : Option Addr) (n c : Nat) (S : Nat → Prop) (w : World) (h : (kRow kScored).is false w S [.slice a n c] l) (hL : l.length ≤ 2 ^ 20) :
    Calls Try.prog 100 #[.slice a n c] w (RScs l w) := by
  have HR : Hid ((kRow kScored).is false w S [.slice a n c] l) := h
  have HI : Hid (∀ x ∈ l, IntOk x.1 ∧ IntOk x.2) := row_ints h
  have HN : Hid (n = l.length) := row_len h
  clear h
  cases a with
  | none =>
    have HL : Hid (l = []) := row_none HR.out
    have hnil : ∀ w : World, (binOp .eql 50 (.slice none n c) (.slice none 0 0)).run Try.prog w = .ok (.bool true) w := fun w => by kernel_rfl
    go_enter Try.func100, Try.ntmps100
    go_wp2
    go_ret
    exact ⟨none, 0, 0, rfl, by rw [HL.out]; exact row_nil _ _ _ _ _ _, Below.refl _ _⟩
  | some ad =>
    have HOE : Hid (OwnL scC 60 2 (w.alloc (.cells #[] 60)) w.heap.size (.slice (some ⟨w.heap.size, 0, none⟩) 0 0) []) := own_empS w w.heap.size (Nat.le_refl _)
    have HR1 : Hid ((kRow kScored).is false (w.alloc (.cells #[] 60)) S [.slice (some ad) n c] l) := Kd.below HR.out (below_a1r _ _)
    have hnil : ∀ w : World, (binOp .eql 50 (.slice (some ad) n c) (.slice none 0 0)).run Try.prog w = .ok (.bool false) w := fun w => by kernel_rfl
    go_enter Try.func100, Try.ntmps100
    go_wp2_with (first | (at_builtin; go_loud (refine app_scs rfl _ _ rfl w.heap.size _ [] rfl HOE.out (some ad) n c S l rfl HR1.out (by simp; omega) (by simp) ?_)))
    intro v3 w3 ho3 hb3 _
    obtain ⟨a3, c3, rfl, _⟩ := ho3.form
    have HO : Hid (OwnL scC 60 2 w3 w.heap.size (.slice a3 l.length c3) l) := ho3
    have HB : Hid (Below w.heap.size w w3) := (below_a1r _ _).trans hb3
    clear ho3 hb3
    go_wp2
    go_ret
    exact ⟨a3, _, c3, rfl, own_scs HO.out (by omega) HI.out, HB.out⟩

set_option maxRecDepth 100000 in
set_option maxHeartbeats 4000000 in
theorem best_k (w : World) (g Bm : Nat) (a : Option Addr) (n c : Nat) (ea : Option Addr) (ec : Nat) (ma : Option Addr) (mc : Nat) (met : List DScored) (d : Nat) (thr : Int) (k : Nat) (hs : SrAt w g Bm a n c ea ec ma mc met d thr) (hm : met.length ≤ 1000) (hmk : ∀ x ∈ met, IntOk x.1 ∧ IntOk x.2) (hk : k ≤ 60) (hB : Bm ≤ w.heap.size) :
    Calls Try.prog 66 #[.pointer (some ⟨g, 0, none⟩), .int .i64 k] w fun e w' => ∃ (a' : Option Addr) (n' c' : Nat), e = .returned (.slice a' n' c') ∧ (kRow kScored).is true w' (fun q => w.heap.size ≤ q) [.slice a' n' c'] ((srtL met).take k) ∧ Below Bm w w' := by
  obtain ⟨m, hmm⟩ : ∃ m, m = met.length := ⟨_, rfl⟩
  have X2 := hs.c2
  have HO : Hid ((kRow kScored).is true w (fun k => Bm ≤ k) [.slice ma m mc] met) := by show (kRow kScored).is _ _ _ _ _; rw [hmm]; exact own_scs hs.own (by omega) hmk
  rw [← hmm] at X2
  have hgB := hs.lt
  have m20 : m ≤ 1000 := by omega
  have hmc : m ≤ mc := by obtain ⟨_, _, e, _, h⟩ := row_form HO.out; simp only [List.cons.injEq, Value.slice.injEq, and_true] at e; have := h rfl; omega
  have HM : Hid (m = met.length) := hmm
  clear hs hm hmk hmm
  go_enter Try.func66, Try.ntmps66
  go_wp2_with fail
  refine (sortSc_k met ma m mc _ _ HO.out (by rw [← HM.out]; omega)).mono ?_
  rintro e w1 ⟨rfl, hr1, hk1⟩
  have HB1 : Hid (Below Bm w w1) := hk1.below hB (fun q hq h => by have h' : Bm ≤ q := h; omega)
  have HR1 : Hid ((kRow kScored).is true w1 (fun q => Bm ≤ q) [.slice ma m mc] (srtL met)) := hr1
  have Y2 : w1.cell? ⟨g, 2, none⟩ = some (.slice ma m mc) := (HB1.out.cell (p := ⟨g, 2, none⟩) hgB).trans X2
  have z1 : w.heap.size ≤ w1.heap.size := hk1.size
  have hgw : g < w1.heap.size := by omega
  clear hr1 hk1 X2
  obtain ⟨p, hp⟩ : ∃ p, p = min k m := ⟨_, rfl⟩
  have hpm : p ≤ m := by omega
  have HTK : Hid ((srtL met).take k = (srtL met).take p) := by
    show _ = _
    have hl : (srtL met).length = m := by rw [(srtL_perm met).length_eq, ← HM.out]
    rw [hp]
    rcases Nat.le_total k m with h | h
    · rw [Nat.min_eq_left h]
    · rw [Nat.min_eq_right h, List.take_of_length_le (by omega), List.take_of_length_le (by omega)]
  have HRP : Hid (∀ W, Below w1.heap.size w1 W → Calls Try.prog 100 #[.slice ma p mc] W (RScs ((srtL met).take p) W)) := fun W hW => cloneS_k _ ma p mc _ W (Kd.below (Kd.read _ (row_take HR1.out hpm)) hW) (by rw [List.length_take]; omega)
  have hmin : min (k : Int) (m : Int) = (p : Int) := by omega
  have p0 : ¬ (p : Int) < 0 := by omega
  have pc : (p : Int) ≤ (mc : Int) := by omega
  have HDR : Hid (Below w1.heap.size w1 w1.drew) := (Below.refl _ _).drew
  clear hp
  go_wp2_with fail
  go_region_with (first | (go_at_call 100; go_fit (HRP.out _ HDR.out); rintro e w2 ⟨a2, n2, c2, rfl, hr2, hb2⟩))
  all_goals
    have HR2 : Hid ((kRow kScored).is true w2 (fun q => w.heap.size ≤ q) [.slice a2 n2 c2] ((srtL met).take p)) := Kd.mono hr2 (fun q hq => Nat.le_trans z1 hq)
    have HB2 : Hid (Below Bm w w2) := HB1.out.trans ((HDR.out.trans hb2).mono (by omega))
    clear hr2 hb2
    go_wp2
    go_ret
    exact ⟨a2, n2, c2, rfl, by rw [HTK.out]; exact HR2.out, HB2.out⟩
end Go.Proofs.Ytikgcgfigcolmaa
namespace Go.Proofs.Ytikgcgfigcolmaa
open Go.RowKit
set_option linter.unusedVariables false

def fnC (v : Value) : List Value := [v]
theorem infoFnA : (Try.prog.info? 123).map (fun i => (i.zero, i.size, i.bytes)) = some (some .nilFunc, 1, 8) := by kernel_rfl
/-- append(fs, f) of functions. -/
theorem app_fn {w : World} {ops : Array Oper} {rest : List Oper} {o : Oper} {a : Act} {Q : Exit → Act → World → Prop} (hgd : o.guard = none) (s x : Operand)
    (ho : o.op = .call { callee := .builtin .append, args := #[s, x], argTypes := #[96, 96] })
    (B : Nat) (v : Value) (l : List Value) (hs : a.eval s = v) (hown : OwnL fnC 123 1 w B v l) (b : Nat) (y : Value) (hx : a.eval x = .slice (some ⟨b, 0, none⟩) 1 1) (hy : y.oneCell' = true) (hc : w.cell? ⟨b, 0, none⟩ = some y)
    (hL : l.length < 2 ^ 30) (hbase : B ≤ w.heap.size)
    (h : ∀ v' w', OwnL fnC 123 1 w' B v' (l ++ [y]) → Below B w w' → Grew w w' v v' → wpList Try.prog ops Q rest (a.put o.dst v') w') : wpList Try.prog ops Q (o :: rest) a w := by
  obtain ⟨i0, hi, hz0, hz1, hz2⟩ := info_parts infoFnA
  exact wpList_app1 fnC hgd s x 96 ho B 123 i0 _ 1 8 Try.underlying96 hi hz0 hz1 hz2 rfl (by decide) (by decide) v l hs hown b y hx rfl (fun u hu => by simp [fnC] at hu; rw [hu]; exact hy) (fun j u hj => by
    match j, hj with
    | 0, hj => obtain rfl : y = u := by simpa [fnC] using hj
               exact hc) hL hbase h

/-- A search while it is begun. -/
structure SnAt (W0 w : World) (s B : Nat) (a : Option Addr) (n c : Nat) (oa : Option Addr) (m oc : Nat) (L : List Value) : Prop where
  c0 : w.cell? ⟨s, 0, none⟩ = some (.slice a n c)
  c1 : w.cell? ⟨s, 1, none⟩ = some (.slice oa m oc)
  c2 : w.cell? ⟨s, 2, none⟩ = some (.slice none 0 0)
  c3 : w.cell? ⟨s, 3, none⟩ = some (.int .i64 0)
  c4 : w.cell? ⟨s, 4, none⟩ = some (.int .i64 0)
  fz : ∀ o, o < 5 → w.frozen? ⟨s, o, none⟩ = false
  own : OwnL fnC 123 1 w B (.slice oa m oc) L
  bb : BelowBut B s W0 w
  lt : s < B
  le : B ≤ w.heap.size
theorem ownF_set {w : World} {B : Nat} {v : Value} {l : List Value} {g o : Nat} {u : Value} (h : OwnL fnC 123 1 w B v l) (hg : g < B) : OwnL fnC 123 1 (w.setCell ⟨g, o, none⟩ u) B v l := h.kept (S := fun k => k = g) ⟨rfl, rfl, rfl, by simp, fun k hk hn => heap_set_ne hn⟩ (fun k hk e => by have e' : k = g := e; omega)
theorem SnAt.put {W0 w w3 : World} {s B : Nat} {a : Option Addr} {n c : Nat} {oa : Option Addr} {m oc : Nat} {L : List Value} (h : SnAt W0 w s B a n c oa m oc L) (hb : Below B w w3) {oa' : Option Addr} {m' oc' : Nat} {L' : List Value} (ho : OwnL fnC 123 1 w3 B (.slice oa' m' oc') L') : SnAt W0 (w3.setCell ⟨s, 1, none⟩ (.slice oa' m' oc')) s B a n c oa' m' oc' L' := by
  have hc : ∀ o v, w.cell? ⟨s, o, none⟩ = some v → w3.cell? ⟨s, o, none⟩ = some v := fun o v h' => (hb.cell (p := ⟨s, o, none⟩) h.lt).trans h'
  refine ⟨set_other (hc _ _ h.c0) (by decide), set_same (hc _ _ h.c1), set_other (hc _ _ h.c2) (by decide), set_other (hc _ _ h.c3) (by decide), set_other (hc _ _ h.c4) (by decide), fun o ho' => ?_, ownF_set ho h.lt, set_bbut (bbut_trans h.bb (below_bbut hb)), h.lt, by have := h.le; have := hb.size; simp; omega⟩
  rw [World.frozen?_setCell, hb.frozen (p := ⟨s, o, none⟩) h.lt]
  exact h.fz o ho'
/-- Functions that read the lists, in a row. -/
def FnsOk (w : World) (ls : List DRanking) (L : List Value) : Prop := L.length ≤ ls.length ∧ ∀ (i : Nat) (v : Value), L[i]? = some v → ∃ r la lc, ls[i]? = some r ∧ v = Value.func (.func 96) #[.agg #[.slice la r.length lc]] #[] ∧ (kRow kScored).is false w (fun k => k < w.heap.size) [.slice la r.length lc] r

theorem below_set {B g o : Nat} {w w' : World} {v : Value} (h : Below B w w') (hg : B ≤ g) : Below B w (w'.setCell ⟨g, o, none⟩ v) := ⟨h.os, h.tape, h.output, by simpa using h.size, fun k hk => (heap_set_ne (by omega)).trans (h.block k hk)⟩
/-- What a search that is begun is. -/
def RSearch (ls : List DRanking) (a : Option Addr) (n c : Nat) (w : World) (e : Ending) (w' : World) : Prop := ∃ (ea : Option Addr) (ec B : Nat) (L : List Value), e = .returned (.agg #[.slice a n c, .slice ea n ec, .slice none 0 0, .int .i64 0, .int .i64 0]) ∧ Below w.heap.size w w' ∧ FnsOk w ls L ∧ L.length = n ∧ w.heap.size ≤ B ∧ OwnL fnC 123 1 w' B (.slice ea n ec) L

set_option maxRecDepth 100000 in
set_option maxHeartbeats 4000000 in
theorem searchIn_k (ls : List DRanking) (a : Option Addr) (n c : Nat) (S : Nat → Prop) (w : World) (h : (kRow kRanking).is false w S [.slice a n c] ls) (hl : ls.length ≤ 5) :
    Calls Try.prog 62 #[.slice a n c] w (RSearch ls a n c w) := by
  have hnl := row_len h
  have h5 : n ≤ 5 := by omega
  have HNL : Hid (n = ls.length) := hnl
  have H : Hid ((kRow kRanking).is false w S [.slice a n c] ls) := h
  clear h hnl hl
  go_enter Try.func62, Try.ntmps62
  go_wp2_with fail
  obtain ⟨W0, hW0⟩ : ∃ W0, W0 = (w.alloc (.cells #[.slice none 0 0, .slice none 0 0, .slice none 0 0, .int .i64 0, .int .i64 0] 98)).alloc (.cells #[.slice a n c, .slice none 0 0, .slice none 0 0, .int .i64 0, .int .i64 0] 98) := ⟨_, rfl⟩
  rw [← hW0]
  have hz0 : W0.heap.size = w.heap.size + 1 + 1 := by rw [hW0]; simp
  have HB0 : Hid (Below w.heap.size w W0) := by rw [hW0]; exact below_a2r _ _ _
  have HSN : Hid (SnAt W0 W0 (w.heap.size + 1) W0.heap.size a n c none 0 0 []) := by
    refine ⟨?_, ?_, ?_, ?_, ?_, fun o ho => ?_, OwnL.nil _ _ _ _ _, bbut_refl _ _ _, by omega, Nat.le_refl _⟩
    all_goals (rw [hW0]; simp [go_sem])
  have HRS : Hid ((∀ o v, [Value.slice none 0 0, .slice none 0 0, .slice none 0 0, .int .i64 0, .int .i64 0][o]? = some v → W0.cell? ⟨w.heap.size, o, none⟩ = some v) ∧ ∀ o, W0.frozen? ⟨w.heap.size, o, none⟩ = false) := by
    refine ⟨fun o v ho => ?_, fun o => by rw [hW0]; simp [go_sem]⟩
    have ho5 : o < 5 := (List.getElem?_eq_some_iff.1 ho).1
    rw [hW0, World.cell?_alloc_old _ _ _ (by show w.heap.size ≠ _; simp), World.cell?_alloc_new]
    simpa using ho
  have HZ0 : Hid (W0.heap.size = w.heap.size + 1 + 1) := hz0
  clear hW0 hz0
  go_loopw [10] (fun iv wr => ∃ (k : Nat) (oa : Option Addr) (oc : Nat) (L : List Value), k ≤ n ∧ iv = .int .i64 k ∧ L.length = k ∧ Hid (FnsOk w ls L) ∧ Hid (SnAt W0 wr (w.heap.size + 1) W0.heap.size a n c oa k oc L)) (fun iv _ => n - (intOf iv).toNat)
  case atStart => exact ⟨0, none, 0, [], Nat.zero_le _, rfl, rfl, ⟨Nat.zero_le _, fun i v hv => by simp at hv⟩, HSN⟩
  case round =>
    obtain ⟨k, oa, oc, L, hk, rfl, hLk, HF, HS⟩ := hrel
    have hwz : W0.heap.size ≤ wr.heap.size := HS.out.le
    have hsB : w.heap.size + 1 < W0.heap.size := HS.out.lt
    have HBR : Hid (Below w.heap.size w wr) := HB0.out.trans ⟨HS.out.bb.os, HS.out.bb.tape, HS.out.bb.output, HS.out.bb.size, fun q hq => HS.out.bb.block q (by omega) (by omega)⟩
    by_cases hlt : k < n
    · obtain ⟨x, hx⟩ : ∃ x, ls[k]? = some x := ⟨_, List.getElem?_eq_getElem (by rw [← HNL.out]; exact hlt)⟩
      obtain ⟨b, off, B, C, rfl, hb, _, hi, _, hc⟩ := row_at H.out hx
      obtain ⟨la, lc, T, rfl, hm, hl, _⟩ := kRanking_open hi
      have A0 : wr.cell? ⟨b, off + k, none⟩ = some (.slice la x.length lc) := cell_later HBR.out (cell1 (hc 0 _ rfl).1)
      have i0 : (0 : Int) ≤ (k : Int) := by omega
      have i1 : (k : Int) < (n : Int) := by omega
      have C1 := HS.out.c1
      have C1f := HS.out.fz 1 (by decide)
      have HFN : Hid (FnsOk w ls (L ++ [Value.func (.func 96) #[.agg #[.slice la x.length lc]] #[]])) := by
        refine ⟨by have h1 := (List.getElem?_eq_some_iff.1 hx).1; simp; omega, fun i v hv => ?_⟩
        by_cases e : i < L.length
        · rw [List.getElem?_append_left e] at hv
          exact HF.out.2 i v hv
        · have hiL : i = L.length := by have := (List.getElem?_eq_some_iff.1 hv).1; simp at this; omega
          subst hiL
          obtain rfl : Value.func (.func 96) #[.agg #[.slice la x.length lc]] #[] = v := by simpa using hv
          exact ⟨x, la, lc, by rw [hLk]; exact hx, rfl, Kd.tight _ hl (fun q hq _ => hq)⟩
      have hbk : b < w.heap.size := hb
      clear hc hi hx hl hb hm
      obtain ⟨m, hm'⟩ : ∃ m, m = x.length := ⟨_, rfl⟩
      rw [← hm'] at A0 HFN
      clear hm'
      have G1 := cell_later (below_a1r wr (.cells #[.slice la m lc] 58)) C1
      have G1f : (wr.alloc (.cells #[.slice la m lc] 58)).frozen? ⟨w.heap.size + 1, 1, none⟩ = false := frozen_later (below_a1r wr _) C1 C1f
      go_wp2_with (at_builtin; go_loud (refine app_fn rfl _ _ rfl W0.heap.size _ L rfl (OwnL.below HS.out.own (below_a2r _ _ _)) _ (.func (.func 96) #[.agg #[.slice la m lc]] #[]) rfl rfl (by simp [go_sem]) (by omega) (by simp; omega) ?_))
      intro v3 w3 ho3 hb3 _
      obtain ⟨a3, c3, rfl, _⟩ := ho3.form
      have hl3 : (L ++ [Value.func (.func 96) #[.agg #[.slice la m lc]] #[]]).length = k + 1 := by simp; omega
      rw [hl3] at ho3 ⊢
      have HB3 : Hid (Below W0.heap.size wr w3) := ((below_a2r wr _ _).mono hwz).trans hb3
      have HS3 : Hid (SnAt W0 (w3.setCell ⟨w.heap.size + 1, 1, none⟩ (.slice a3 (k + 1) c3)) (w.heap.size + 1) W0.heap.size _ n c a3 (k + 1) c3 (L ++ [Value.func (.func 96) #[.agg #[.slice la m lc]] #[]])) := HS.out.put HB3.out ho3
      have K1 : w3.cell? ⟨w.heap.size + 1, 1, none⟩ = some (.slice oa k oc) := (HB3.out.cell (p := ⟨w.heap.size + 1, 1, none⟩) hsB).trans C1
      have K1f : w3.frozen? ⟨w.heap.size + 1, 1, none⟩ = false := (HB3.out.frozen (p := ⟨w.heap.size + 1, 1, none⟩) hsB).trans C1f
      clear ho3 hb3 hl3 G1 G1f
      go_wp2
      go_roundw
      case rel => exact ⟨k + 1, a3, c3, _, by omega, by go_num, by simp; omega, HFN, HS3⟩
      case measure => simp [intOf]; omega
    · have i1 : ¬ (k : Int) < (n : Int) := by omega
      obtain rfl : k = n := by omega
      have C0 := HS.out.c0
      have C1 := HS.out.c1
      have C2 := HS.out.c2
      have C3 := HS.out.c3
      have C4 := HS.out.c4
      have hR : ∀ o v, [Value.slice none 0 0, .slice none 0 0, .slice none 0 0, .int .i64 0, .int .i64 0][o]? = some v → wr.cell? ⟨w.heap.size, o, none⟩ = some v := fun o v ho => (World.cell?_of_block (w := W0) (HS.out.bb.block w.heap.size (by omega) (by omega))).trans (HRS.out.1 o v ho)
      have hRf : ∀ o, wr.frozen? ⟨w.heap.size, o, none⟩ = false := fun o => (World.frozen?_of_block (w := W0) (HS.out.bb.block w.heap.size (by omega) (by omega))).trans (HRS.out.2 o)
      have R0 := hR 0 _ rfl
      have R1 := hR 1 _ rfl
      have R2 := hR 2 _ rfl
      have R3 := hR 3 _ rfl
      have R4 := hR 4 _ rfl
      have f0 := hRf 0
      have f1 := hRf 1
      have f2 := hRf 2
      have f3 := hRf 3
      have f4 := hRf 4
      clear hR hRf
      go_wp2
      refine bodyPost_ret (v := .agg #[.slice a k c, .slice oa k oc, .slice none 0 0, .int .i64 0, .int .i64 0]) (by simp [results, Try.results62, go_sem, R0, R1, R2, R3, R4]) rfl ?_
      have hgB : w.heap.size < W0.heap.size := by omega
      exact ⟨oa, oc, W0.heap.size, L, rfl, below_set (below_set (below_set (below_set (below_set HBR.out (Nat.le_refl _)) (Nat.le_refl _)) (Nat.le_refl _)) (Nat.le_refl _)) (Nat.le_refl _), HF.out, hLk, by omega, ownF_set (ownF_set (ownF_set (ownF_set (ownF_set HS.out.own hgB) hgB) hgB) hgB) hgB⟩
end Go.Proofs.Ytikgcgfigcolmaa
namespace Go.Proofs.Ytikgcgfigcolmaa
open Go.RowKit
set_option linter.unusedVariables false

theorem atDp_len (ls : List DRanking) (d : Nat) : (atDp ls d).length ≤ ls.length := List.length_filterMap_le _ _
theorem idsTo_len (ls : List DRanking) : ∀ d, (idsTo ls d).length ≤ ls.length * d
  | 0 => by simp [idsTo]
  | d + 1 => by
    have := idsTo_len ls d
    have h2 := atDp_len ls d
    rw [idsTo, List.length_append, Nat.mul_add]
    unfold idsAt
    rw [List.length_map]
    omega
theorem metD_len (ls : List DRanking) (d : Nat) (h5 : ls.length ≤ 5) (hd : d ≤ 60) : (metD ls d).length ≤ 300 := by
  have h1 := meetIds_length (f := sumL ls) (idsTo ls d) []
  have h2 := idsTo_len ls d
  have h3 := Nat.mul_le_mul h5 hd
  unfold metD
  simp at h1
  omega
theorem idsTo_in {ls : List DRanking} {d : Nat} : ∀ i ∈ idsTo ls d, i ∈ idsAll ls := fun i hi => by
  obtain ⟨r, hr, e, x, _, hx, h⟩ := (idsTo_mem d).1 hi
  exact idsAll_mem.2 ⟨r, hr, x, List.mem_of_getElem? hx, h⟩
theorem metD_ok (ls : List DRanking) (d : Nat) : MetOk ls (metD ls d) := MetOk.meets _ ⟨fun x hx => by simp at hx, fun x hx => by simp at hx⟩ idsTo_in
theorem metD_once (ls : List DRanking) (d : Nat) : NoTwice (metD ls d) := meetIds_once _ _ List.Pairwise.nil
theorem srt_metD (ls : List DRanking) (d : Nat) : srtL (metD ls d) = outD ls d := srt_perm (srtL_srt (metD_once ls d)) (outD_srt ls d) ((srtL_perm _).trans (metD_perm ls d))
theorem below_of_bbut {B g : Nat} {w w' : World} (h : BelowBut B g w w') (hg : g ≤ B) : Below g w w' := ⟨h.os, h.tape, h.output, h.size, fun k hk => h.block k (by omega) (by omega)⟩
theorem cnt_scs (l : List DScored) : sums kScored.cnt l = l.length * 2 := sums_const 2 l

set_option maxHeartbeats 400000 in
theorem isManyBest_k (x : Int) (w : World) : Calls Try.prog 61 #[.int .i64 x] w fun e w' => e = .returned (.bool (decide (0 ≤ x ∧ x ≤ 60))) ∧ w' = w := by
  by_cases h1 : 0 ≤ x
  · by_cases h2 : x ≤ 60
    · go_enter Try.func61, Try.ntmps61
      go_wp2
      go_ret
      exact ⟨by rw [decide_eq_true (by omega)]; rfl, rfl⟩
    · go_enter Try.func61, Try.ntmps61
      go_wp2
      go_ret
      exact ⟨by rw [decide_eq_false (by omega)]; rfl, rfl⟩
  · go_enter Try.func61, Try.ntmps61
    go_wp2
    go_ret
    exact ⟨by rw [decide_eq_false (by omega)]; rfl, rfl⟩

/-- A search that is begun, in a block of its own. -/
theorem search_at {ls : List DRanking} {a : Option Addr} {n c : Nat} {w w3 : World} {ea : Option Addr} {ec B : Nat} {L : List Value} (hr : (kRow kRanking).is false w (fun k => k < w.heap.size) [.slice a n c] ls) (hb : Below w.heap.size w w3) (hf : FnsOk w ls L) (hL : L.length = n) (hB : w.heap.size ≤ B) (ho : OwnL fnC 123 1 w3 B (.slice ea n ec) L) :
    SrFix (w3.alloc (.cells #[.slice a n c, .slice ea n ec, .slice none 0 0, .int .i64 0, .int .i64 0] 98)) w3.heap.size (w3.heap.size + 1) ls a n c ea ec ∧ SrAt (w3.alloc (.cells #[.slice a n c, .slice ea n ec, .slice none 0 0, .int .i64 0, .int .i64 0] 98)) w3.heap.size (w3.heap.size + 1) a n c ea ec none 0 [] 0 0 := by
  have hz := hb.size
  have hb4 := below_a1r w3 (.cells #[.slice a n c, .slice ea n ec, .slice none 0 0, .int .i64 0, .int .i64 0] 98)
  have hbw := hb.trans (hb4.mono hz)
  have hn := row_len hr
  refine ⟨⟨?_, ?_, by simp⟩, ⟨by simp [go_sem], by simp [go_sem], by simp [go_sem], by simp [go_sem], by simp [go_sem], fun o ho => by simp [go_sem], OwnL.nil _ _ _ _ _, by omega⟩⟩
  · exact Kd.mono (Kd.below hr hbw) (fun k hk => ⟨by omega, by omega⟩)
  · by_cases h0 : ls = []
    · exact .inl h0
    · right
      have hn0 : 0 < n := by rw [hn]; exact List.length_pos_iff.2 h0
      have hcells := @World.ownsRow.cells _ _ _ _ _ _ _ (OwnL.below ho hb4)
      obtain ⟨h1, ⟨e2, e0⟩ | ⟨g, cap, cur, e, h3, h4, h5⟩⟩ := ho
      · omega
      · have ea' : ea = some ⟨g, 0, none⟩ := by injection e
        subst ea'
        have hg := (Array.getElem?_eq_some_iff.1 h4).1
        refine ⟨g, rfl, by omega, by omega, fun i r hr' => ?_⟩
        have hi : i < L.length := by rw [hL, hn]; exact (List.getElem?_eq_some_iff.1 hr').1
        obtain ⟨r', la, lc, h6, h7, h8⟩ := hf.2 i L[i] (List.getElem?_eq_getElem hi)
        rw [hr'] at h6
        obtain rfl : r = r' := by injection h6
        refine ⟨la, lc, ?_, Kd.mono (Kd.below h8 hbw) (fun k hk => ⟨by omega, by omega⟩)⟩
        have := hcells (g := g) rfl i L[i] (by
          have h9 := flat_get (cs := fnC) (n := 1) (fun _ => rfl) L i 0 L[i] (List.getElem?_eq_getElem hi) (by decide)
          simpa [fnC] using h9)
        rw [show ((⟨g, 0, none⟩ : Addr).add i) = ⟨g, i, none⟩ by unfold Addr.add; split <;> simp_all] at this
        rw [this, h7]

/-- What AllBest answers. -/
def RAllBest (x0 : List DRanking) (x1 : Int) (w : World) (e : Ending) (w' : World) : Prop := ∃ (a0 : Option Addr) (n0 c0 : Nat) (T0 : Nat → Prop), e = .returned (.tuple #[.slice a0 n0 c0, .bool (fAllBest x0 x1).2]) ∧ (kRow kScored).is true w' T0 [.slice a0 n0 c0] (fAllBest x0 x1).1 ∧ (∀ k, T0 k → w.heap.size ≤ k) ∧ sums kScored.cnt (fAllBest x0 x1).1 ≤ 2 ^ 26 ∧ Below w.heap.size w w'
theorem RAllBest.no {x0 : List DRanking} {x1 : Int} {w w' : World} (h : (fGoodRankings x0 && decide (0 ≤ x1 ∧ x1 ≤ 60)) = false) (hb : Below w.heap.size w w') : RAllBest x0 x1 w (.returned (.tuple #[.slice none 0 0, .bool false])) w' := by
  unfold RAllBest fAllBest
  rw [if_neg (by rw [h]; exact Bool.false_ne_true)]
  exact ⟨none, 0, 0, fun _ => False, rfl, row_nil _ _ _ _ _ _, fun k hk => hk.elim, by simp [sums], hb⟩
theorem RAllBest.yes {x0 : List DRanking} {t : Nat} {w w' : World} (h : fGoodRankings x0 = true) (ht : t ≤ 60) {a : Option Addr} {n c B : Nat} (hr : (kRow kScored).is true w' (fun q => B ≤ q) [.slice a n c] ((allD x0).take t)) (hB : w.heap.size ≤ B) (hb : Below w.heap.size w w') : RAllBest x0 t w (.returned (.tuple #[.slice a n c, .bool true])) w' := by
  unfold RAllBest fAllBest
  rw [if_pos (by rw [h, decide_eq_true (by omega)]; rfl)]
  refine ⟨a, n, c, _, rfl, hr, fun k hk => Nat.le_trans hB hk, ?_, hb⟩
  rw [cnt_scs]
  show ((allD x0).take t).length * 2 ≤ _
  rw [List.length_take]
  omega
def depthOf (w : World) (g : Nat) : Nat := match w.cell? ⟨g, 3, none⟩ with | some v => (intOf v).toNat | none => 0

set_option maxRecDepth 100000 in
set_option maxHeartbeats 4000000 in
theorem implAllBest_k (x0 : List DRanking) (a0 : Option Addr) (n0 c0 : Nat) (S0 : Nat → Prop) (x1 : Int) (w : World) (h0 : (kRow kRanking).is true w S0 [.slice a0 n0 c0] x0) (z0 : (kRow kRanking).sz x0 ≤ 2 ^ 20) (h1 : IntOk x1) :
    Calls Try.prog 26 #[.slice a0 n0 c0, .int .i64 x1] w (RAllBest x0 x1 w) := by
  have H : Hid ((kRow kRanking).is true w S0 [.slice a0 n0 c0] x0) := h0
  have HZ : Hid ((kRow kRanking).sz x0 ≤ 2 ^ 20) := z0
  clear h0 z0 h1
  go_enter Try.func26, Try.ntmps26
  go_wp2_with fail
  refine (implGoodRankings_k x0 a0 n0 c0 S0 _ H.out HZ.out).mono ?_
  rintro e w1 ⟨rfl, hb1⟩
  have HB1 : Hid (Below w.heap.size w w1) := hb1
  clear hb1
  cases hg : fGoodRankings x0 with
  | false =>
    have HNO : Hid ((fGoodRankings x0 && decide (0 ≤ x1 ∧ x1 ≤ 60)) = false) := by show _ = _; rw [hg]; rfl
    clear hg
    go_wp2
    refine bodyPost_ret (v := .tuple #[.slice none 0 0, .bool false]) (by simp [results, Try.results26, go_sem]) rfl ?_
    exact RAllBest.no HNO.out HB1.out
  | true =>
    have HG : Hid (fGoodRankings x0 = true) := hg
    clear hg
    go_wp2_with fail
    refine (isManyBest_k x1 _).mono ?_
    rintro e w2 ⟨rfl, rfl⟩
    by_cases hk : 0 ≤ x1 ∧ x1 ≤ 60
    · rw [decide_eq_true hk]
      obtain ⟨t, rfl⟩ : ∃ t : Nat, x1 = t := ⟨x1.toNat, by omega⟩
      have ht : t ≤ 60 := by omega
      clear hk
      have h5 : x0.length ≤ 5 := (good_len HG.out).1
      have H5 : Hid (x0.length ≤ 5) := h5
      go_wp2_with fail
      refine (searchIn_k x0 a0 n0 c0 S0 _ (Kd.below (Kd.read _ H.out) HB1.out) h5).mono ?_
      rintro e w3 ⟨ea, ec, B, L, rfl, hb3, hfn, hL, hB, ho⟩
      obtain ⟨hf4, hs4⟩ := search_at (Kd.tight _ (Kd.below (Kd.read _ H.out) HB1.out) (fun k hk _ => hk)) hb3 hfn hL hB ho
      have HB3 : Hid (Below w.heap.size w w3) := HB1.out.trans (hb3.mono HB1.out.size)
      have z3 : w.heap.size ≤ w3.heap.size := HB3.out.size
      obtain ⟨W4, hW4⟩ : ∃ W4, W4 = w3.alloc (.cells #[.slice a0 n0 c0, .slice ea n0 ec, .slice none 0 0, .int .i64 0, .int .i64 0] 98) := ⟨_, rfl⟩
      rw [← hW4] at hf4 hs4
      have HST : Hid (SrTo W4 w3.heap.size (w3.heap.size + 1) x0 a0 n0 c0 ea ec (metD x0 0) 0 (thrB x0 0) W4) := ⟨hf4, bbut_refl _ _ _, none, 0, hs4⟩
      have HB4 : Hid (Below w.heap.size w W4) := by rw [hW4]; exact HB3.out.trans ((below_a1r _ _).mono z3)
      clear hb3 hfn hL hB ho hf4 hs4 h5
      go_wp2_with fail
      rw [← hW4]
      clear hW4
      go_loopw [17] (fun _ wr => ∃ (d : Nat), d ≤ 60 ∧ Hid (SrTo W4 w3.heap.size (w3.heap.size + 1) x0 a0 n0 c0 ea ec (metD x0 d) d (thrB x0 d) wr)) (fun _ wr => 60 - depthOf wr w3.heap.size)
      case atStart => exact ⟨0, by omega, HST⟩
      case round =>
        obtain ⟨d, hd, HS⟩ := hrel
        obtain ⟨hf5, hbb5, ma5, mc5, hs5⟩ := HS.out
        have HF5 : Hid (SrFix wr w3.heap.size (w3.heap.size + 1) x0 a0 n0 c0 ea ec) := hf5
        have HS5 : Hid (SrAt wr w3.heap.size (w3.heap.size + 1) a0 n0 c0 ea ec ma5 mc5 (metD x0 d) d (thrB x0 d)) := hs5
        have HBB5 : Hid (BelowBut (w3.heap.size + 1) w3.heap.size W4 wr) := hbb5
        have hD : depthOf wr w3.heap.size = d := by unfold depthOf; rw [hs5.c3]; simp [intOf]
        have HD : Hid (depthOf wr w3.heap.size = d) := hD
        clear hf5 hbb5 hs5 HS hD
        go_wp2_with fail
        refine (hasEnded_k x0 _ w3.heap.size (w3.heap.size + 1) a0 n0 c0 ea ec ma5 mc5 (metD x0 d) d (thrB x0 d) HF5.out HS5.out).mono ?_
        rintro e w6 ⟨rfl, hb6⟩
        have HF6 : Hid (SrFix w6 w3.heap.size (w3.heap.size + 1) x0 a0 n0 c0 ea ec) := HF5.out.keep (below_but hb6 HF5.out.lt)
        have HS6 : Hid (SrAt w6 w3.heap.size (w3.heap.size + 1) a0 n0 c0 ea ec ma5 mc5 (metD x0 d) d (thrB x0 d)) := HS5.out.below hb6
        have HBB6 : Hid (BelowBut (w3.heap.size + 1) w3.heap.size W4 w6) := bbut_trans HBB5.out (below_but hb6 HF5.out.lt)
        clear hb6
        by_cases hend : atDp x0 d = []
        · rw [decide_eq_true hend]
          have HEN : Hid (srtL (metD x0 d) = allD x0) := by show _ = _; rw [srt_metD, outD_all hend]
          clear hend
          go_wp2_with fail
          refine (best_k _ w3.heap.size (w3.heap.size + 1) a0 n0 c0 ea ec ma5 mc5 (metD x0 d) d (thrB x0 d) t HS6.out (Nat.le_trans (metD_len x0 d H5.out hd) (by decide)) ((metD_ok x0 d).int HG.out) ht HF6.out.lt).mono ?_
          rintro e w7 ⟨a7, n7, c7, rfl, hr7, hb7⟩
          have HR7 : Hid ((kRow kScored).is true w7 (fun q => w6.heap.size ≤ q) [.slice a7 n7 c7] ((allD x0).take t)) := by rw [← HEN.out]; exact hr7
          have HB7 : Hid (Below w.heap.size w w7) := HB4.out.trans ((below_of_bbut (bbut_trans HBB6.out (below_bbut hb7)) (by omega)).mono (by omega))
          have z6 : w.heap.size ≤ w6.heap.size := by have := HF6.out.lt; omega
          clear hr7 hb7
          go_wp2
          refine bodyPost_ret (v := .tuple #[.slice a7 n7 c7, .bool true]) (by simp [results, Try.results26, go_sem]) rfl ?_
          exact RAllBest.yes HG.out ht HR7.out z6 HB7.out
        · rw [decide_eq_false hend]
          have hd60 : d < 60 := by
            rcases Nat.lt_or_ge d 60 with h | h
            · exact h
            · exact absurd (atDp_none fun r hr => Nat.le_trans ((good_len HG.out).2 r hr) h) hend
          clear hend
          go_wp2_with fail
          refine (goDeeper_k x0 _ w3.heap.size (w3.heap.size + 1) a0 n0 c0 ea ec ma5 mc5 (metD x0 d) d (thrB x0 d) HF6.out HS6.out HG.out (Nat.le_trans (metD_len x0 d H5.out hd) (by decide)) (metD_ok x0 d) hd).mono ?_
          rintro e w7 ⟨rfl, hto⟩
          have HS7 : Hid (SrTo W4 w3.heap.size (w3.heap.size + 1) x0 a0 n0 c0 ea ec (metD x0 (d + 1)) (d + 1) (thrB x0 (d + 1)) w7) := by rw [metD_next]; exact hto.from HBB6.out
          have HD7 : Hid (depthOf w7 w3.heap.size = d + 1) := by obtain ⟨_, _, _, _, h⟩ := HS7.out; show _ = _; unfold depthOf; rw [h.c3]; simp [intOf]
          clear hto
          go_wp2
          go_roundw
          case rel => exact ⟨d + 1, by omega, HS7⟩
          case measure => rw [HD7.out, HD.out]; omega
    · rw [decide_eq_false hk]
      have HNO : Hid ((fGoodRankings x0 && decide (0 ≤ x1 ∧ x1 ≤ 60)) = false) := by show _ = _; rw [decide_eq_false hk, Bool.and_false]
      clear hk
      go_wp2
      refine bodyPost_ret (v := .tuple #[.slice none 0 0, .bool false]) (by simp [results, Try.results26, go_sem]) rfl ?_
      exact RAllBest.no HNO.out HB1.out
end Go.Proofs.Ytikgcgfigcolmaa
namespace Go.Proofs.Ytikgcgfigcolmaa
open Go.RowKit
set_option linter.unusedVariables false

/-- What TopBest answers. -/
def RTopBest (x0 : List DRanking) (x1 : Int) (w : World) (e : Ending) (w' : World) : Prop := ∃ (a0 : Option Addr) (n0 c0 : Nat) (T0 : Nat → Prop), e = .returned (.tuple #[.slice a0 n0 c0, .int .i64 (fTopBest x0 x1).2.1, .bool (fTopBest x0 x1).2.2]) ∧ (kRow kScored).is true w' T0 [.slice a0 n0 c0] (fTopBest x0 x1).1 ∧ (∀ k, T0 k → w.heap.size ≤ k) ∧ sums kScored.cnt (fTopBest x0 x1).1 ≤ 2 ^ 26 ∧ IntOk (fTopBest x0 x1).2.1 ∧ Below w.heap.size w w'
theorem RTopBest.no {x0 : List DRanking} {x1 : Int} {w w' : World} (h : (fGoodRankings x0 && decide (0 ≤ x1 ∧ x1 ≤ 60)) = false) (hb : Below w.heap.size w w') : RTopBest x0 x1 w (.returned (.tuple #[.slice none 0 0, .int .i64 0, .bool false])) w' := by
  unfold RTopBest fTopBest
  rw [if_neg (by rw [h]; exact Bool.false_ne_true)]
  exact ⟨none, 0, 0, fun _ => False, rfl, row_nil _ _ _ _ _ _, fun k hk => hk.elim, by simp [sums], ⟨by decide, by decide⟩, hb⟩
theorem topI_le (ls : List DRanking) (k : Nat) : ∀ n d, topI ls k n d ≤ d + n
  | 0, d => Nat.le_refl _
  | n + 1, d => by
    have := topI_le ls k n (d + 1)
    rw [topI]
    split
    · omega
    · split <;> omega
/-- How far it goes, on both sides. -/
theorem top_is {ls : List DRanking} (hg : fGoodRankings ls = true) {t : Nat} (ht : t ≤ 60) : fTopBest ls t = ((outD ls (topI ls t 61 0)).take t, ((topI ls t 61 0 : Nat) : Int), true) := by
  unfold fTopBest
  rw [if_pos (by rw [hg, decide_eq_true (by omega)]; rfl)]
  by_cases h0 : t = 0
  · subst h0
    have e : topI ls 0 61 0 = 0 := by rw [topI, if_pos (Nat.zero_le _)]
    rw [if_pos (by rfl), e]
    rfl
  · rw [if_neg (by omega), Int.toNat_natCast, top_same ls t (by omega) 60 0 (by show ¬ t ≤ cntA [] 0; rw [cntA]; omega) (by rw [Nat.zero_add]; exact atDp_none (good_len hg).2)]
theorem RTopBest.yes {x0 : List DRanking} {t : Nat} {w w' : World} (h : fGoodRankings x0 = true) (ht : t ≤ 60) {a : Option Addr} {n c B d : Nat} (hd : topI x0 t 61 0 = d) (hr : (kRow kScored).is true w' (fun q => B ≤ q) [.slice a n c] ((outD x0 d).take t)) (hB : w.heap.size ≤ B) (hb : Below w.heap.size w w') : RTopBest x0 t w (.returned (.tuple #[.slice a n c, .int .i64 d, .bool true])) w' := by
  have h1 := topI_le x0 t 61 0
  unfold RTopBest
  rw [top_is h ht, hd]
  refine ⟨a, n, c, _, rfl, hr, fun k hk => Nat.le_trans hB hk, ?_, by unfold IntOk; show _ ∧ _; simp only; omega, hb⟩
  rw [cnt_scs]
  show ((outD x0 d).take t).length * 2 ≤ _
  rw [List.length_take]
  omega
theorem topI_next {ls : List DRanking} {k n d : Nat} (h1 : ¬ k ≤ cntA (metD ls d) (thrB ls d)) (h2 : ¬ atDp ls d = []) : topI ls k (n + 1) d = topI ls k n (d + 1) := by rw [topI, if_neg h1, if_neg h2]
theorem topI_one {ls : List DRanking} {k n d : Nat} (h : k ≤ cntA (metD ls d) (thrB ls d)) : topI ls k (n + 1) d = d := by rw [topI, if_pos h]
theorem topI_end {ls : List DRanking} {k n d : Nat} (h : atDp ls d = []) : topI ls k (n + 1) d = d := by
  rw [topI]
  by_cases c : k ≤ cntA (metD ls d) (thrB ls d)
  · rw [if_pos c]
  · rw [if_neg c, if_pos h]

set_option maxRecDepth 100000 in
set_option maxHeartbeats 4000000 in
theorem implTopBest_k (x0 : List DRanking) (a0 : Option Addr) (n0 c0 : Nat) (S0 : Nat → Prop) (x1 : Int) (w : World) (h0 : (kRow kRanking).is true w S0 [.slice a0 n0 c0] x0) (z0 : (kRow kRanking).sz x0 ≤ 2 ^ 20) (h1 : IntOk x1) :
    Calls Try.prog 24 #[.slice a0 n0 c0, .int .i64 x1] w (RTopBest x0 x1 w) := by
  have H : Hid ((kRow kRanking).is true w S0 [.slice a0 n0 c0] x0) := h0
  have HZ : Hid ((kRow kRanking).sz x0 ≤ 2 ^ 20) := z0
  clear h0 z0 h1
  go_enter Try.func24, Try.ntmps24
  go_wp2_with fail
  refine (implGoodRankings_k x0 a0 n0 c0 S0 _ H.out HZ.out).mono ?_
  rintro e w1 ⟨rfl, hb1⟩
  have HB1 : Hid (Below w.heap.size w w1) := hb1
  clear hb1
  cases hg : fGoodRankings x0 with
  | false =>
    have HNO : Hid ((fGoodRankings x0 && decide (0 ≤ x1 ∧ x1 ≤ 60)) = false) := by show _ = _; rw [hg]; rfl
    clear hg
    go_wp2
    refine bodyPost_ret (v := .tuple #[.slice none 0 0, .int .i64 0, .bool false]) (by simp [results, Try.results24, go_sem]) rfl ?_
    exact RTopBest.no HNO.out HB1.out
  | true =>
    have HG : Hid (fGoodRankings x0 = true) := hg
    clear hg
    go_wp2_with fail
    refine (isManyBest_k x1 _).mono ?_
    rintro e w2 ⟨rfl, rfl⟩
    by_cases hk : 0 ≤ x1 ∧ x1 ≤ 60
    · rw [decide_eq_true hk]
      obtain ⟨t, rfl⟩ : ∃ t : Nat, x1 = t := ⟨x1.toNat, by omega⟩
      have ht : t ≤ 60 := by omega
      clear hk
      have h5 : x0.length ≤ 5 := (good_len HG.out).1
      have H5 : Hid (x0.length ≤ 5) := h5
      go_wp2_with fail
      refine (searchIn_k x0 a0 n0 c0 S0 _ (Kd.below (Kd.read _ H.out) HB1.out) h5).mono ?_
      rintro e w3 ⟨ea, ec, B, L, rfl, hb3, hfn, hL, hB, ho⟩
      obtain ⟨hf4, hs4⟩ := search_at (Kd.tight _ (Kd.below (Kd.read _ H.out) HB1.out) (fun k hk _ => hk)) hb3 hfn hL hB ho
      have HB3 : Hid (Below w.heap.size w w3) := HB1.out.trans (hb3.mono HB1.out.size)
      have z3 : w.heap.size ≤ w3.heap.size := HB3.out.size
      obtain ⟨W4, hW4⟩ : ∃ W4, W4 = w3.alloc (.cells #[.slice a0 n0 c0, .slice ea n0 ec, .slice none 0 0, .int .i64 0, .int .i64 0] 98) := ⟨_, rfl⟩
      rw [← hW4] at hf4 hs4
      have HST : Hid (SrTo W4 w3.heap.size (w3.heap.size + 1) x0 a0 n0 c0 ea ec (metD x0 0) 0 (thrB x0 0) W4) := ⟨hf4, bbut_refl _ _ _, none, 0, hs4⟩
      have HB4 : Hid (Below w.heap.size w W4) := by rw [hW4]; exact HB3.out.trans ((below_a1r _ _).mono z3)
      clear hb3 hfn hL hB ho hf4 hs4 h5
      go_wp2_with fail
      rw [← hW4]
      clear hW4
      go_loopw [18] (fun _ wr => ∃ (d : Nat), d ≤ 60 ∧ Hid (topI x0 t (61 - d) d = topI x0 t 61 0) ∧ Hid (SrTo W4 w3.heap.size (w3.heap.size + 1) x0 a0 n0 c0 ea ec (metD x0 d) d (thrB x0 d) wr)) (fun _ wr => 60 - depthOf wr w3.heap.size)
      case atStart => exact ⟨0, by omega, rfl, HST⟩
      case round =>
        obtain ⟨d, hd, HT, HS⟩ := hrel
        obtain ⟨hf5, hbb5, ma5, mc5, hs5⟩ := HS.out
        have HF5 : Hid (SrFix wr w3.heap.size (w3.heap.size + 1) x0 a0 n0 c0 ea ec) := hf5
        have HS5 : Hid (SrAt wr w3.heap.size (w3.heap.size + 1) a0 n0 c0 ea ec ma5 mc5 (metD x0 d) d (thrB x0 d)) := hs5
        have HBB5 : Hid (BelowBut (w3.heap.size + 1) w3.heap.size W4 wr) := hbb5
        have hD : depthOf wr w3.heap.size = d := by unfold depthOf; rw [hs5.c3]; simp [intOf]
        have HD : Hid (depthOf wr w3.heap.size = d) := hD
        clear hf5 hbb5 hs5 HS hD
        go_wp2_with fail
        refine (above_k _ w3.heap.size (w3.heap.size + 1) a0 n0 c0 ea ec ma5 mc5 (metD x0 d) d (thrB x0 d) HS5.out (Nat.le_trans (metD_len x0 d H5.out hd) (by decide)) ((metD_ok x0 d).int HG.out)).mono ?_
        rintro e w6 ⟨rfl, hb6⟩
        have HF6 : Hid (SrFix w6 w3.heap.size (w3.heap.size + 1) x0 a0 n0 c0 ea ec) := HF5.out.keep (below_but hb6 HF5.out.lt)
        have HS6 : Hid (SrAt w6 w3.heap.size (w3.heap.size + 1) a0 n0 c0 ea ec ma5 mc5 (metD x0 d) d (thrB x0 d)) := HS5.out.below hb6
        have HBB6 : Hid (BelowBut (w3.heap.size + 1) w3.heap.size W4 w6) := bbut_trans HBB5.out (below_but hb6 HF5.out.lt)
        have HT1 : Hid (topI x0 t (60 - d + 1) d = topI x0 t 61 0) := by have := HT.out; rw [show 61 - d = 60 - d + 1 by omega] at this; exact this
        clear hb6 HT
        obtain ⟨cn, hcn⟩ : ∃ cn, cn = cntA (metD x0 d) (thrB x0 d) := ⟨_, rfl⟩
        rw [← hcn]
        by_cases hab : t ≤ cn
        · have HEND : Hid (topI x0 t 61 0 = d) := by have := HT1.out; rw [topI_one (by rw [← hcn]; exact hab)] at this; exact this.symm
          have hab2 : ¬ (cn : Int) < (t : Int) := by omega
          clear hcn hab HT1
          go_wp2_with fail
          have HBEST : Hid (∀ W, Below w6.heap.size w6 W → Calls Try.prog 66 #[.pointer (some ⟨w3.heap.size, 0, none⟩), .int .i64 t] W fun e w' => ∃ (a' : Option Addr) (n' c' : Nat), e = .returned (.slice a' n' c') ∧ (kRow kScored).is true w' (fun q => W.heap.size ≤ q) [.slice a' n' c'] ((outD x0 d).take t) ∧ Below (w3.heap.size + 1) W w') := fun W hW => by
            rw [← srt_metD]
            exact best_k W w3.heap.size (w3.heap.size + 1) a0 n0 c0 ea ec ma5 mc5 (metD x0 d) d (thrB x0 d) t (HS6.out.below hW) (Nat.le_trans (metD_len x0 d H5.out hd) (by decide)) ((metD_ok x0 d).int HG.out) ht (Nat.le_trans HF6.out.lt hW.size)
          have D3 := HS6.out.c3
          have HDR : Hid (Below w6.heap.size w6 w6.drew) := (Below.refl _ _).drew
          have zS := HF6.out.lt
          go_region_with (first | (go_at_call 66; go_fit (HBEST.out _ HDR.out); rintro e w8 ⟨a8, n8, c8, rfl, hr8, hb8⟩; have D8 : w8.cell? ⟨w3.heap.size, 3, none⟩ = some (.int .i64 d) := (hb8.cell (p := ⟨w3.heap.size, 3, none⟩) (by show w3.heap.size < _; omega)).trans D3))
          all_goals
            have HR8 : Hid ((kRow kScored).is true w8 (fun q => w3.heap.size ≤ q) [.slice a8 n8 c8] ((outD x0 d).take t)) := Kd.mono hr8 (fun q hq => by have h' : w6.heap.size ≤ q := hq; show w3.heap.size ≤ q; omega)
            have HB8 : Hid (Below w.heap.size w w8) := HB4.out.trans ((below_of_bbut (bbut_trans (bbut_trans HBB6.out (below_but HDR.out zS)) (below_bbut hb8)) (by omega)).mono (by omega))
            clear hr8 hb8
            go_wp2
            refine bodyPost_ret (v := .tuple #[.slice a8 n8 c8, .int .i64 d, .bool true]) (by simp [results, Try.results24, go_sem]) rfl ?_
            exact RTopBest.yes HG.out ht HEND.out HR8.out z3 HB8.out
        · have hab2 : (cn : Int) < (t : Int) := by omega
          have HNR : Hid (¬ t ≤ cntA (metD x0 d) (thrB x0 d)) := by rw [← hcn]; exact hab
          clear hab hcn
          go_wp2_with fail
          refine (hasEnded_k x0 _ w3.heap.size (w3.heap.size + 1) a0 n0 c0 ea ec ma5 mc5 (metD x0 d) d (thrB x0 d) HF6.out HS6.out).mono ?_
          rintro e w7 ⟨rfl, hb7⟩
          have HF7 : Hid (SrFix w7 w3.heap.size (w3.heap.size + 1) x0 a0 n0 c0 ea ec) := HF6.out.keep (below_but hb7 HF6.out.lt)
          have HS7 : Hid (SrAt w7 w3.heap.size (w3.heap.size + 1) a0 n0 c0 ea ec ma5 mc5 (metD x0 d) d (thrB x0 d)) := HS6.out.below hb7
          have HBB7 : Hid (BelowBut (w3.heap.size + 1) w3.heap.size W4 w7) := bbut_trans HBB6.out (below_but hb7 HF6.out.lt)
          clear hb7
          by_cases hend : atDp x0 d = []
          · rw [decide_eq_true hend]
            have HEND : Hid (topI x0 t 61 0 = d) := by have := HT1.out; rw [topI_end hend] at this; exact this.symm
            clear hend HT1
            go_wp2_with fail
            have HBEST : Hid (∀ W, Below w7.heap.size w7 W → Calls Try.prog 66 #[.pointer (some ⟨w3.heap.size, 0, none⟩), .int .i64 t] W fun e w' => ∃ (a' : Option Addr) (n' c' : Nat), e = .returned (.slice a' n' c') ∧ (kRow kScored).is true w' (fun q => W.heap.size ≤ q) [.slice a' n' c'] ((outD x0 d).take t) ∧ Below (w3.heap.size + 1) W w') := fun W hW => by
              rw [← srt_metD]
              exact best_k W w3.heap.size (w3.heap.size + 1) a0 n0 c0 ea ec ma5 mc5 (metD x0 d) d (thrB x0 d) t (HS7.out.below hW) (Nat.le_trans (metD_len x0 d H5.out hd) (by decide)) ((metD_ok x0 d).int HG.out) ht (Nat.le_trans HF7.out.lt hW.size)
            have D3 := HS7.out.c3
            have HDR : Hid (Below w7.heap.size w7 w7.drew) := (Below.refl _ _).drew
            have zS := HF7.out.lt
            go_region_with (first | (go_at_call 66; go_fit (HBEST.out _ HDR.out); rintro e w8 ⟨a8, n8, c8, rfl, hr8, hb8⟩; have D8 : w8.cell? ⟨w3.heap.size, 3, none⟩ = some (.int .i64 d) := (hb8.cell (p := ⟨w3.heap.size, 3, none⟩) (by show w3.heap.size < _; omega)).trans D3))
            all_goals
              have HR8 : Hid ((kRow kScored).is true w8 (fun q => w3.heap.size ≤ q) [.slice a8 n8 c8] ((outD x0 d).take t)) := Kd.mono hr8 (fun q hq => by have h' : w7.heap.size ≤ q := hq; show w3.heap.size ≤ q; omega)
              have HB8 : Hid (Below w.heap.size w w8) := HB4.out.trans ((below_of_bbut (bbut_trans (bbut_trans HBB7.out (below_but HDR.out zS)) (below_bbut hb8)) (by omega)).mono (by omega))
              clear hr8 hb8
              go_wp2
              refine bodyPost_ret (v := .tuple #[.slice a8 n8 c8, .int .i64 d, .bool true]) (by simp [results, Try.results24, go_sem]) rfl ?_
              exact RTopBest.yes HG.out ht HEND.out HR8.out z3 HB8.out
          · rw [decide_eq_false hend]
            have HT2 : Hid (topI x0 t (61 - (d + 1)) (d + 1) = topI x0 t 61 0) := by have := HT1.out; rw [topI_next HNR.out hend] at this; rw [show 61 - (d + 1) = 60 - d by omega]; exact this
            have hd60 : d < 60 := by
              rcases Nat.lt_or_ge d 60 with h | h
              · exact h
              · exact absurd (atDp_none fun r hr => Nat.le_trans ((good_len HG.out).2 r hr) h) hend
            clear hend HT1 HNR
            go_wp2_with fail
            refine (goDeeper_k x0 _ w3.heap.size (w3.heap.size + 1) a0 n0 c0 ea ec ma5 mc5 (metD x0 d) d (thrB x0 d) HF7.out HS7.out HG.out (Nat.le_trans (metD_len x0 d H5.out hd) (by decide)) (metD_ok x0 d) hd).mono ?_
            rintro e w8 ⟨rfl, hto⟩
            have HS8 : Hid (SrTo W4 w3.heap.size (w3.heap.size + 1) x0 a0 n0 c0 ea ec (metD x0 (d + 1)) (d + 1) (thrB x0 (d + 1)) w8) := by rw [metD_next]; exact hto.from HBB7.out
            have HD8 : Hid (depthOf w8 w3.heap.size = d + 1) := by obtain ⟨_, _, _, _, h⟩ := HS8.out; show _ = _; unfold depthOf; rw [h.c3]; simp [intOf]
            clear hto
            go_wp2
            go_roundw
            case rel => exact ⟨d + 1, by omega, HT2, HS8⟩
            case measure => rw [HD8.out, HD.out]; omega
    · rw [decide_eq_false hk]
      have HNO : Hid ((fGoodRankings x0 && decide (0 ≤ x1 ∧ x1 ≤ 60)) = false) := by show _ = _; rw [decide_eq_false hk, Bool.and_false]
      clear hk
      go_wp2
      refine bodyPost_ret (v := .tuple #[.slice none 0 0, .int .i64 0, .bool false]) (by simp [results, Try.results24, go_sem]) rfl ?_
      exact RTopBest.no HNO.out HB1.out
end Go.Proofs.Ytikgcgfigcolmaa
