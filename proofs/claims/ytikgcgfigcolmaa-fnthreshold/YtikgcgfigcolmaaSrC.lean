/- A search through lists: an id that is met. No condition but that they fit in memory. -/
import Derived.Test.YtikgcgfigcolmaaSrB
namespace Go.Proofs.Ytikgcgfigcolmaa
open Go.RowKit
set_option linter.unusedVariables false

/-- append(s, x) of one that is ranked, at a step of a statement that draws its order. -/
theorem step_sc {w : World} {ops : Array Oper} {o : Oper} {a : Act} {K : Act → World → Prop} {Q : Exit → Act → World → Prop} {E : Prop} (hgd : o.guard = none) (s x : Operand)
    (ho : o.op = .call { callee := .builtin .append, args := #[s, x], argTypes := #[50, 50] })
    (B : Nat) (v : Value) (l : List DScored) (hs : a.eval s = v) (hown : OwnL scC 60 2 w B v l) (b : Nat) (y : DScored) (hx : a.eval x = .slice (some ⟨b, 0, none⟩) 1 1) (hc0 : w.cell? ⟨b, 0, none⟩ = some (.int .i64 y.1)) (hc1 : w.cell? ⟨b, 1, none⟩ = some (.int .i64 y.2))
    (hL : l.length < 2 ^ 30) (hbase : B ≤ w.heap.size)
    (h : ∀ g cap w', OwnL scC 60 2 w' B (.slice (some ⟨g, 0, none⟩) (l.length + 1) cap) (l ++ [y]) → Below B w w' → K (a.put o.dst (.slice (some ⟨g, 0, none⟩) (l.length + 1) cap)) w') : if Region.wanted o (yielded ops a.tmps) = true then Oper.wp Try.prog o a w K Q else E := by
  obtain ⟨i0, hi, hz0, hz1, hz2⟩ := info_parts infoScA
  have hbm : (l.length + 1) * 16 ≤ 140737488355328 := by omega
  refine step_append_lies w hgd s x 50 ho B 60 i0 _ 2 16 Try.underlying50 hi hz0 hz1 hz2 rfl (by decide) v l.length (l.flatMap scC) hs hown ⟨b, 0, none⟩ 1 1 (scC y) hx rfl (fun j u hj => ?_) (scC_one y) (by decide) (by unfold maxLen; omega) hbm hbase _ rfl fun g cap w' h2 h3 _ _ => h g cap w' ?_ ?_
  · match j, hj with
    | 0, hj =>
      obtain rfl : Value.int .i64 y.1 = u := by simpa [scC] using hj
      exact hc0
    | 1, hj =>
      obtain rfl : Value.int .i64 y.2 = u := by simpa [scC] using hj
      exact hc1
  · unfold OwnL
    rw [List.length_append, List.flatMap_append]
    simpa using h2
  · exact ⟨h3.os, h3.tape, h3.output, h3.size, fun k hk => h3.block k (by omega) (fun e => by have := (World.ownsRow.lt hown k e.symm).1; omega)⟩

/-- What a search's step answers: nothing, and the search is turned. -/
def SrTo (w : World) (g Bm : Nat) (ls : List DRanking) (a : Option Addr) (n c : Nat) (ea : Option Addr) (ec : Nat) (met : List DScored) (d : Nat) (thr : Int) (w' : World) : Prop :=
  SrFix w' g Bm ls a n c ea ec ∧ BelowBut Bm g w w' ∧ ∃ ma mc, SrAt w' g Bm a n c ea ec ma mc met d thr
theorem SrTo.below {w w1 w2 : World} {g Bm : Nat} {ls : List DRanking} {a : Option Addr} {n c : Nat} {ea : Option Addr} {ec : Nat} {met : List DScored} {d : Nat} {thr : Int} (h : SrTo w g Bm ls a n c ea ec met d thr w1) (hb : Below w1.heap.size w1 w2) : SrTo w g Bm ls a n c ea ec met d thr w2 := by
  obtain ⟨h1, h2, ma, mc, h3⟩ := h
  have hbb : BelowBut Bm g w1 w2 := below_but hb h1.lt
  exact ⟨h1.keep hbb, bbut_trans h2 hbb, ma, mc, h3.below hb⟩
theorem set_bbut {B g : Nat} {w w' : World} {o : Nat} {v : Value} (h : BelowBut B g w w') : BelowBut B g w (w'.setCell ⟨g, o, none⟩ v) :=
  ⟨h.os, h.tape, h.output, by simpa using h.size, fun k hk hn => (heap_set_ne hn).trans (h.block k hk hn)⟩
theorem below_bbut {B g : Nat} {w w' : World} (h : Below B w w') : BelowBut B g w w' := ⟨h.os, h.tape, h.output, h.size, fun k hk _ => h.block k hk⟩
theorem OwnL.set {w : World} {B : Nat} {v : Value} {l : List DScored} {g o : Nat} {u : Value} (h : OwnL scC 60 2 w B v l) (hg : g < B) : OwnL scC 60 2 (w.setCell ⟨g, o, none⟩ u) B v l := h.kept (S := fun k => k = g) (kept_set' w g o u) (fun k hk e => by have e' : k = g := e; omega)
  where kept_set' (w : World) (g o : Nat) (v : Value) : KeptO (fun k => k = g) w (w.setCell ⟨g, o, none⟩ v) := ⟨rfl, rfl, rfl, by simp, fun k hk hn => heap_set_ne hn⟩

/-- What was met, turned. -/
theorem SrAt.put {w W3 : World} {g Bm : Nat} {ls : List DRanking} {a : Option Addr} {n c : Nat} {ea : Option Addr} {ec : Nat} {ma : Option Addr} {mc : Nat} {met : List DScored} {d : Nat} {thr : Int} (hf : SrFix w g Bm ls a n c ea ec) (hs : SrAt w g Bm a n c ea ec ma mc met d thr) (hb : Below Bm w W3) {ma' : Option Addr} {m' mc' : Nat} {met' : List DScored} (hm : m' = met'.length) (ho : OwnL scC 60 2 W3 Bm (.slice ma' m' mc') met') : SrTo w g Bm ls a n c ea ec met' d thr (W3.setCell ⟨g, 2, none⟩ (.slice ma' m' mc')) := by
  subst hm
  have hbb : BelowBut Bm g w (W3.setCell ⟨g, 2, none⟩ (.slice ma' met'.length mc')) := set_bbut (below_bbut hb)
  have hc : ∀ o v, w.cell? ⟨g, o, none⟩ = some v → W3.cell? ⟨g, o, none⟩ = some v := fun o v h => (hb.cell (p := ⟨g, o, none⟩) hs.lt).trans h
  refine ⟨hf.keep hbb, hbb, ma', mc', ⟨set_other (hc _ _ hs.c0) (by decide), set_other (hc _ _ hs.c1) (by decide), set_same (hc _ _ hs.c2), set_other (hc _ _ hs.c3) (by decide), set_other (hc _ _ hs.c4) (by decide), fun o ho => ?_, OwnL.set ho hs.lt, hs.lt⟩⟩
  rw [World.frozen?_setCell, hb.frozen (p := ⟨g, o, none⟩) hs.lt]
  exact hs.fz o ho
theorem SrTo.from {w0 w w' : World} {g Bm : Nat} {ls : List DRanking} {a : Option Addr} {n c : Nat} {ea : Option Addr} {ec : Nat} {met : List DScored} {d : Nat} {thr : Int} (h : SrTo w g Bm ls a n c ea ec met d thr w') (hb : BelowBut Bm g w0 w) : SrTo w0 g Bm ls a n c ea ec met d thr w' := ⟨h.1, bbut_trans hb h.2.1, h.2.2⟩

set_option maxRecDepth 100000 in
set_option maxHeartbeats 4000000 in
theorem meet_k (ls : List DRanking) (w : World) (g Bm : Nat) (a : Option Addr) (n c : Nat) (ea : Option Addr) (ec : Nat) (ma : Option Addr) (mc : Nat) (met : List DScored) (d : Nat) (thr i : Int) (hf : SrFix w g Bm ls a n c ea ec) (hs : SrAt w g Bm a n c ea ec ma mc met d thr) (hok : SumOk ls) (hm : met.length ≤ 2 ^ 20) (hmk : ∀ x ∈ met, IntOk x.1 ∧ IntOk x.2) (hpos : ∀ x ∈ met, 1 ≤ x.2) :
    Calls Try.prog 97 #[.pointer (some ⟨g, 0, none⟩), .int .i64 i] w fun e w' => e = .returned (.tuple #[]) ∧ SrTo w g Bm ls a n c ea ec (meetL met (i, sumL ls i)) d thr w' := by
  obtain ⟨m, hmm⟩ : ∃ m, m = met.length := ⟨_, rfl⟩
  have HM : Hid (m = met.length) := hmm
  have X0 := hs.c0
  have X2 := hs.c2
  rw [← hmm] at X2
  have m20 : m ≤ 2 ^ 20 := by omega
  have HF : Hid (SrFix w g Bm ls a n c ea ec) := hf
  have HS : Hid (SrAt w g Bm a n c ea ec ma mc met d thr) := hs
  have HOK : Hid (SumOk ls) := hok
  have HR : Hid ((kRow kScored).is false w (fun k => Bm ≤ k) [.slice ma m mc] met) := by show (kRow kScored).is _ _ _ _ _; rw [hmm]; exact Kd.read _ (own_scs hs.own (by omega) hmk)
  have hgB : g < Bm := hs.lt
  have hBw : Bm ≤ w.heap.size := hf.lt
  have HP : Hid (∀ x ∈ met, 1 ≤ x.2) := hpos
  clear hf hs hok hm hmk hmm hpos
  go_enter Try.func97, Try.ntmps97
  go_wp2_with fail
  refine (scoreIn_k met ma m mc _ i _ HR.out).mono ?_
  rintro e w1 ⟨rfl, hb1⟩
  have HB1 : Hid (Below w.heap.size w w1) := hb1
  have Y0 := cell_later hb1 X0
  have Y2 := cell_later hb1 X2
  clear hb1
  cases hno : noId met i with
  | false =>
    have HE : Hid (meetL met (i, sumL ls i) = met) := by show _ = _; unfold meetL; rw [if_neg (by rw [hno]; exact Bool.false_ne_true)]
    have hsc : (scoreL met i == 0) = false := by have := scoreL_yes met i HP.out hno; simp; omega
    clear hno
    generalize scoreL met i = sc at *
    go_wp2
    go_end0
    rw [HE.out]
    have hbb : BelowBut Bm g w w1 := below_but HB1.out hBw
    exact ⟨rfl, HF.out.keep hbb, hbb, ma, mc, HS.out.below HB1.out⟩
  | true =>
    have HE : Hid (meetL met (i, sumL ls i) = met ++ [(i, sumL ls i)]) := by show _ = _; unfold meetL; rw [if_pos hno]
    have hsc : scoreL met i = 0 := scoreL_no met i hno
    rw [hsc]
    have HF1 : Hid (SrFix w1 g Bm ls a n c ea ec) := HF.out.keep (below_but HB1.out hBw)
    have HS1 : Hid (SrAt w1 g Bm a n c ea ec ma mc met d thr) := HS.out.below HB1.out
    obtain ⟨sm, hsm⟩ : ∃ sm, sm = sumL ls i := ⟨_, rfl⟩
    have HSM : Hid (sm = sumL ls i) := hsm
    have HCALL : Hid (∀ W, Below w1.heap.size w1 W → Calls Try.prog 73 #[.slice a n c, .int .i64 i] W fun e w' => e = .returned (.int .i64 sm) ∧ Below W.heap.size W w') := fun W hW => by rw [hsm]; exact sumIn_k ls a n c _ i W (Kd.below HF1.out.lists hW) HOK.out
    have HO1 : Hid (OwnL scC 60 2 w1 Bm (.slice ma m mc) met) := by show OwnL _ _ _ _ _ _ _; rw [HM.out]; exact HS1.out.own
    have z1 : Bm ≤ w1.heap.size := HF1.out.lt
    have hg1 : g < w1.heap.size := by omega
    have FZ : Hid (w1.frozen? ⟨g, 2, none⟩ = false) := HS1.out.fz 2 (by decide)
    have HDR : Hid (Below w1.heap.size w1 w1.drew) := (Below.refl _ _).drew
    clear hno hsc hsm X0 X2
    go_wp2_with fail
    go_region_law (first
      | (go_simp; go_at_call 73; refine (HCALL.out _ HDR.out).mono ?_; rintro e w2 ⟨rfl, hb2⟩; have HB2 : Hid (Below w1.heap.size w1 w2) := HDR.out.trans hb2; have z2 : w1.heap.size ≤ w2.heap.size := hb2.size; have V2 := cell_later HB2.out Y2; have V3 := cell_later (below_a1r w2 (.cells #[.int .i64 i, .int .i64 sm] 60)) V2; clear hb2)
      | (refine step_sc (by rfl) _ _ (by rfl) Bm _ met (by rfl) (OwnL.below HO1.out (HB2.out.trans ((below_a1r _ _).mono z2))) _ (i, sm) (by rfl) (by simp [go_sem]) (by simp [go_sem]) (by rw [← HM.out]; omega) (by simp; omega) ?_; intro g3 cap3 w3 ho3 hb3; have T2 : w3.cell? ⟨g, 2, none⟩ = some (.slice ma m mc) := (hb3.cell (p := ⟨g, 2, none⟩) hgB).trans (cell_later (HB2.out.trans ((below_a1r _ _).mono z2)) Y2); have T2f : w3.frozen? ⟨g, 2, none⟩ = false := (hb3.frozen (p := ⟨g, 2, none⟩) hgB).trans (((HB2.out.trans ((below_a1r _ _).mono z2)).frozen (p := ⟨g, 2, none⟩) hg1).trans FZ.out)))
    all_goals
      have HR3 : Hid (SrTo w1 g Bm ls a n c ea ec (met ++ [(i, sm)]) d thr (w3.setCell ⟨g, 2, none⟩ (.slice (some ⟨g3, 0, none⟩) (met.length + 1) cap3))) := SrAt.put HF1.out HS1.out (((HB2.out.trans ((below_a1r _ _).mono z2)).mono z1).trans hb3) (by simp) ho3
      clear ho3 hb3 T2 T2f
      go_wp2
      go_end0
      rw [HE.out, ← HSM.out]
      exact ⟨rfl, HR3.out.from (below_but HB1.out hBw)⟩
end Go.Proofs.Ytikgcgfigcolmaa
