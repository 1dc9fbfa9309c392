/- Those that are ranked, sorted by the library: what the row holds behind it. No condition but that they fit in memory. A search through lists, in memory; an entry at a depth; whether all lists have ended; how many are above. No condition but that they fit in memory. A sum over lists: the program's. No condition but that they fit in memory. A search through lists: sums, how many are above, and an id that is met. No condition but that they fit in memory. A search through lists: an id that is met. No condition but that they fit in memory. -/
import Derived.Test.YtikgcgfigcolmaaQRpP
import Derived.Test.YtikgcgfigcolmaaAp3
import Derived.Test.YtikgcgfigcolmaaSoSc
import Derived.Deep.RegionLaw
import Derived.Deep.AppendLies
namespace Go.Proofs.Ytikgcgfigcolmaa
open Go.RowKit Go.Sort
set_option linter.unusedVariables false

theorem lt_is (x y : DScored) : ltOf rkCmp x y = ahd x y := by
  unfold ltOf
  cases h : ahd x y with
  | true => exact decide_eq_true ((rkCmp_neg x y).2 h)
  | false => exact decide_eq_false (fun e => by rw [(rkCmp_neg x y).1 e] at h; cases h)
theorem rk_swo : SWO (ltOf rkCmp) where
  irrefl x := by rw [lt_is]; cases h : ahd x x with | false => rfl | true => exact absurd h (ahd_irr x)
  trans x y z h1 h2 := by rw [lt_is] at *; exact ahd_trans h1 h2
  ntrans x y z h1 h2 := by
    rw [lt_is] at *
    cases h : ahd x z with
    | false => rfl
    | true =>
      rw [ahd_iff] at h
      have h1' : ¬ (y.2 < x.2 ∨ (x.2 = y.2 ∧ x.1 < y.1)) := fun e => by rw [(ahd_iff x y).2 e] at h1; cases h1
      have h2' : ¬ (z.2 < y.2 ∨ (y.2 = z.2 ∧ y.1 < z.1)) := fun e => by rw [(ahd_iff y z).2 e] at h2; cases h2
      omega
theorem rk_tot (x y : DScored) (h1 : ltOf rkCmp x y = false) (h2 : ltOf rkCmp y x = false) : x = y := by
  rw [lt_is] at *
  have h1' : ¬ (y.2 < x.2 ∨ (x.2 = y.2 ∧ x.1 < y.1)) := fun e => by rw [(ahd_iff x y).2 e] at h1; cases h1
  have h2' : ¬ (x.2 < y.2 ∨ (y.2 = x.2 ∧ y.1 < x.1)) := fun e => by rw [(ahd_iff y x).2 e] at h2; cases h2
  exact Prod.ext (by omega) (by omega)
/-- Sorted. -/
def srtL (l : List DScored) : List DScored := l.mergeSort fun x y => !(ltOf rkCmp) y x
theorem srtL_perm (l : List DScored) : (srtL l).Perm l := List.mergeSort_perm l _
theorem srtL_srt {l : List DScored} (h : NoTwice l) : Srt (srtL l) := by
  have hp : (srtL l).Pairwise fun a b => (!(ltOf rkCmp) b a) = true := by
    refine List.pairwise_mergeSort (fun a b c h1 h2 => ?_) (fun a b => ?_) l
    · simp only [lt_is, Bool.not_eq_true'] at *
      have := rk_swo.ntrans c b a (by rw [lt_is]; exact h2) (by rw [lt_is]; exact h1)
      rw [lt_is] at this
      exact this
    · simp only [lt_is]
      cases h : ahd b a with
      | false => rfl
      | true =>
        cases h' : ahd a b with
        | false => rfl
        | true => exact absurd h' (ahd_asymm h)
  have hn : NoTwice (srtL l) := List.Perm.pairwise (srtL_perm l).symm h (fun {a b} h => fun e => h e.symm)
  exact List.Pairwise.imp₂ (fun {a b} (h1 : (!(ltOf rkCmp) b a) = true) (h2 : a.1 ≠ b.1) => ahd_total h2.symm (by rw [lt_is] at h1; intro e; rw [e] at h1; cases h1)) hp hn

theorem row_holds {w : World} {S : Nat → Prop} {b off n c : Nat} {l : List DScored} (h : (kRow kScored).is true w S [.slice (some ⟨b, off, none⟩) n c] l) : HoldsK scC 2 w b off l.toArray := by
  intro j hj
  rw [size_flatK] at hj
  have hj' : j < l.length * 2 := by simpa using hj
  rw [get_flatK _ _ _ _ hj]
  obtain ⟨x, hx⟩ : ∃ x, l[j / 2]? = some x := ⟨_, List.getElem?_eq_getElem (by omega)⟩
  obtain ⟨b', off', B, C, e, hb, _, hi, _, hc⟩ := row_at h hx
  obtain ⟨rfl, rfl⟩ : b = b' ∧ off = off' := by injection e with e; injection e with e1 e2; exact ⟨e1, e2⟩
  obtain ⟨x0, x1⟩ := x
  obtain ⟨rfl, _, _⟩ := kScored_open hi
  have hx2 : (l.toArray)[j / 2]! = (x0, x1) := by
    rw [getElem!_pos l.toArray (j / 2) (by simp; omega)]
    have := (List.getElem?_eq_some_iff.1 hx).2
    simpa using this
  rw [hx2]
  have h2 : j % 2 < 2 := Nat.mod_lt _ (by decide)
  have e1 : off + j / 2 * kScored.wd + j % 2 = off + j := by show off + j / 2 * 2 + j % 2 = off + j; omega
  have := hc (j % 2) ((scC (x0, x1))[j % 2]!) (by
    show (scC (x0, x1))[j % 2]? = _
    rcases (show j % 2 = 0 ∨ j % 2 = 1 by omega) with e | e <;> rw [e] <;> rfl)
  rw [e1] at this
  exact ⟨this.1, this.2 rfl⟩
theorem holds_row {w : World} {S : Nat → Prop} {b off n c : Nat} {l : List DScored} (h : HoldsK scC 2 w b off l.toArray) (hb : b < w.heap.size) (hS : S b) (hn : n = l.length) (hc : n ≤ c) (hm : l.length ≤ 2 ^ 30) (hk : ∀ x ∈ l, IntOk x.1 ∧ IntOk x.2) : (kRow kScored).is true w S [.slice (some ⟨b, off, none⟩) n c] l := by
  subst hn
  refine ⟨_, c, rfl, by unfold maxLen; omega, fun _ => hc, .inr ⟨b, off, fun _ _ => False, fun i => ((l[i]?).map scC).getD [], rfl, hb, hS, fun i x hx => ?_, fun _ _ _ h => h.elim, fun _ => ⟨fun _ _ h => h, fun _ _ _ _ _ _ h => h.elim⟩⟩⟩
  have hi := (List.getElem?_eq_some_iff.1 hx).1
  have hx2 : (l.toArray)[i]! = x := by
    rw [getElem!_pos l.toArray i (by simpa using hi)]
    have := (List.getElem?_eq_some_iff.1 hx).2
    simpa using this
  obtain ⟨h1, h2⟩ := hk x (List.mem_of_getElem? hx)
  simp only [hx, Option.map_some, Option.getD_some]
  refine ⟨by obtain ⟨x0, x1⟩ := x; exact kScored_shut h1 h2, fun j v hj => ?_⟩
  have hj2 : j < 2 := (List.getElem?_eq_some_iff.1 hj).1
  have := h.cell (i := i) (c := j) (by simpa using hi) hj2
  rw [hx2] at this
  have e : (scC x)[j]! = v := by
    rw [getElem!_pos (scC x) j hj2]
    exact (List.getElem?_eq_some_iff.1 hj).2
  rw [e] at this
  exact ⟨this.1, fun _ => this.2⟩
theorem sortW_kept (w : World) (b off m : Nat) (d : Array DScored) (os : Array Obj) : KeptO (fun k => k = b) w (sortWorldK scC 2 w b off m d os) := by
  refine ⟨rfl, rfl, rfl, size_sortWorldK_c scC 2 w b off m d os, fun k hk hn => ?_⟩
  unfold sortWorldK putRowK putRow mapBlock
  show (_ ++ os)[k]? = _
  rw [Array.getElem?_append_left (by simpa using hk)]
  simp [Sort.ahead]
  rw [Array.getElem?_modify, if_neg (fun e => hn e.symm)]

theorem cmpLays_k (blk off size : Nat) (w : World) : CmpLays Try.prog 99 #[] scC 2 rkCmp blk off size w :=
  fun _ _ _ _ x y => byRank_g x y _

set_option maxHeartbeats 1000000 in
/-- slices.SortFunc(s, byRank). -/
theorem sortSc_k (l : List DScored) (a : Option Addr) (n c : Nat) (S : Nat → Prop) (w : World) (h : (kRow kScored).is true w S [.slice a n c] l) (hl : l.length ≤ 2 ^ 20) :
    Calls Try.prog 98 #[.slice a n c, .func (.func 99) #[] #[]] w fun e w' => e = .returned (.tuple #[]) ∧ (kRow kScored).is true w' S [.slice a n c] (srtL l) ∧ KeptO S w w' := by
  have hn := row_len h
  by_cases h0 : l = []
  · subst h0
    have hn0 : n = 0 := hn
    subst hn0
    have hc := AnyF.slices_SortFunc_none Try.lsortSc a c (.func (.func 99) #[] #[]) w
    refine hc.mono ?_
    rintro e w' ⟨rfl, rfl⟩
    exact ⟨rfl, by unfold srtL; simpa using h, KeptO.refl _ _⟩
  · obtain ⟨x, hx⟩ : ∃ x, l[0]? = some x := ⟨_, List.getElem?_eq_getElem (List.length_pos_iff.2 h0)⟩
    obtain ⟨b, off, B, C, rfl, hb, hSb, _⟩ := row_at h hx
    have hnc : n ≤ c := by obtain ⟨_, _, e, _, h⟩ := row_form h; simp only [List.cons.injEq, Value.slice.injEq, and_true] at e; have := h rfl; omega
    have eg : ∀ args w, (callFunc 99 args).run Try.prog w = .ok (.enter 99 args) w := enters_of Try.func99 (by kernel_rfl) rfl
    have hsz : l.toArray.size = n := by rw [hn]; simp
    have hcon := AnyQ.slices_SortFunc_total Try.lsortSc 2 Try.isAgg60 Try.sizeOf60 scC (fun _ => rfl) scC_one rkCmp rk_swo 99 #[] b off c l.toArray w eg (cmpLays_k b off _ w) (row_holds h) hb (by rw [hsz]; omega) rk_tot
    rw [hsz] at hcon
    refine Calls.mono hcon ?_
    rintro e w' ⟨rfl, m, os, rfl⟩
    have hp := srtL_perm l
    have hs : ((l.toArray.toList.mergeSort fun x y => !(ltOf rkCmp) y x).toArray) = (srtL l).toArray := rfl
    rw [hs]
    have hH := holdsK_sortWorldK_c scC 2 w b off l.toArray (srtL l).toArray m os (row_holds h) hb (by simp [hp.length_eq])
    have hz := size_sortWorldK_c scC 2 w b off m (srtL l).toArray os
    refine ⟨rfl, holds_row hH (by omega) hSb (by rw [hn, hp.length_eq]) hnc (by rw [hp.length_eq]; omega) (fun x hx => row_ints h x (hp.mem_iff.1 hx)), (sortW_kept w b off m _ os).mono fun k hk => hk ▸ hSb⟩
end Go.Proofs.Ytikgcgfigcolmaa
namespace Go.Proofs.Ytikgcgfigcolmaa
open Go.RowKit
set_option linter.unusedVariables false

set_option maxRecDepth 100000 in
set_option maxHeartbeats 1000000 in
theorem entryAt_yes (r : List DScored) (la : Option Addr) (m lc : Nat) (T : Nat → Prop) (d : Nat) (i s : Int) (w : World) (h : (kRow kScored).is false w T [.slice la m lc] r) (hd : r[d]? = some (i, s)) :
    Calls Try.prog 96 #[.agg #[.slice la m lc], .int .i64 d] w fun e w' => e = .returned (.tuple #[.agg #[.int .i64 i, .int .i64 s], .bool true]) ∧ Below w.heap.size w w' := by
  have hm := row_len h
  have hdl := (List.getElem?_eq_some_iff.1 hd).1
  have hmx : m ≤ 9223372036854775807 := by obtain ⟨_, _, _, h, _⟩ := row_form h; rw [hm]; exact h
  obtain ⟨b, off, B, C, rfl, hb, _, hi, _, hc⟩ := row_at h hd
  obtain ⟨rfl, g0, g1⟩ := kScored_open hi
  have A0 : w.cell? ⟨b, off + d * 2, none⟩ = some (.int .i64 i) := (hc 0 _ rfl).1
  have A1 : w.cell? ⟨b, off + d * 2 + 1, none⟩ = some (.int .i64 s) := (hc 1 _ rfl).1
  have i0 : (0 : Int) ≤ (d : Int) := by omega
  have i1 : (d : Int) < (m : Int) := by omega
  have i2 : ¬ (m : Int) ≤ (d : Int) := by omega
  clear hc hi hd h hm hdl
  go_enter Try.func96, Try.ntmps96
  go_wp2
  refine bodyPost_ret (v := .tuple #[.agg #[.int .i64 i, .int .i64 s], .bool true]) (by simp [results, Try.results96, go_sem]) rfl ?_
  exact ⟨rfl, by go_grown⟩

set_option maxRecDepth 100000 in
set_option maxHeartbeats 1000000 in
theorem entryAt_no (la : Option Addr) (m lc : Nat) (d : Nat) (w : World) (hd : m ≤ d) :
    Calls Try.prog 96 #[.agg #[.slice la m lc], .int .i64 d] w fun e w' => e = .returned (.tuple #[.agg #[.int .i64 0, .int .i64 0], .bool false]) ∧ Below w.heap.size w w' := by
  have i2 : (m : Int) ≤ (d : Int) := by omega
  go_enter Try.func96, Try.ntmps96
  go_wp2
  refine bodyPost_ret (v := .tuple #[.agg #[.int .i64 0, .int .i64 0], .bool false]) (by simp [results, Try.results96, go_sem]) rfl ?_
  exact ⟨rfl, by go_grown⟩

/-- What of a search stays as it is: its lists and the functions that read them. -/
structure SrFix (w : World) (g Bm : Nat) (ls : List DRanking) (a : Option Addr) (n c : Nat) (ea : Option Addr) (ec : Nat) : Prop where
  lists : (kRow kRanking).is false w (fun k => k < Bm ∧ k ≠ g) [.slice a n c] ls
  fns : ls = [] ∨ ∃ eb, ea = some ⟨eb, 0, none⟩ ∧ eb < Bm ∧ eb ≠ g ∧ ∀ i r, ls[i]? = some r → ∃ la lc, w.cell? ⟨eb, i, none⟩ = some (.func (.func 96) #[.agg #[.slice la r.length lc]] #[]) ∧ (kRow kScored).is false w (fun k => k < Bm ∧ k ≠ g) [.slice la r.length lc] r
  lt : Bm ≤ w.heap.size
theorem SrFix.keep {w w' : World} {g Bm : Nat} {ls : List DRanking} {a : Option Addr} {n c : Nat} {ea : Option Addr} {ec : Nat} (h : SrFix w g Bm ls a n c ea ec) (hb : BelowBut Bm g w w') : SrFix w' g Bm ls a n c ea ec := by
  obtain ⟨h1, h2, h3⟩ := h
  have hk : ∀ k, k < w.heap.size → (k < Bm ∧ k ≠ g) → w'.heap[k]? = w.heap[k]? := fun k _ h' => hb.block k h'.1 h'.2
  refine ⟨Kd.keep _ h1 hb.size hk, ?_, Nat.le_trans h3 hb.size⟩
  rcases h2 with h2 | ⟨eb, rfl, h4, h5, h6⟩
  · exact .inl h2
  · refine .inr ⟨eb, rfl, h4, h5, fun i r hr => ?_⟩
    obtain ⟨la, lc, h7, h8⟩ := h6 i r hr
    exact ⟨la, lc, by rw [World.cell?_of_block (w := w) (hb.block eb h4 h5)]; exact h7, Kd.keep _ h8 hb.size hk⟩
theorem below_but {B g : Nat} {w w' : World} (h : Below w.heap.size w w') (hB : B ≤ w.heap.size) : BelowBut B g w w' := ⟨h.os, h.tape, h.output, h.size, fun k hk _ => h.block k (by omega)⟩
theorem bbut_trans {B g : Nat} {w w' w'' : World} (h : BelowBut B g w w') (k : BelowBut B g w' w'') : BelowBut B g w w'' :=
  ⟨k.os.trans h.os, k.tape.trans h.tape, k.output.trans h.output, Nat.le_trans h.size k.size, fun i hi hn => (k.block i hi hn).trans (h.block i hi hn)⟩
theorem bbut_refl (B g : Nat) (w : World) : BelowBut B g w w := ⟨rfl, rfl, rfl, Nat.le_refl _, fun _ _ _ => rfl⟩
/-- A search's own cells. -/
structure SrAt (w : World) (g Bm : Nat) (a : Option Addr) (n c : Nat) (ea : Option Addr) (ec : Nat) (ma : Option Addr) (mc : Nat) (met : List DScored) (d : Nat) (thr : Int) : Prop where
  c0 : w.cell? ⟨g, 0, none⟩ = some (.slice a n c)
  c1 : w.cell? ⟨g, 1, none⟩ = some (.slice ea n ec)
  c2 : w.cell? ⟨g, 2, none⟩ = some (.slice ma met.length mc)
  c3 : w.cell? ⟨g, 3, none⟩ = some (.int .i64 d)
  c4 : w.cell? ⟨g, 4, none⟩ = some (.int .i64 thr)
  fz : ∀ o, o < 5 → w.frozen? ⟨g, o, none⟩ = false
  own : OwnL scC 60 2 w Bm (.slice ma met.length mc) met
  lt : g < Bm
theorem SrAt.below {w w' : World} {g Bm : Nat} {a : Option Addr} {n c : Nat} {ea : Option Addr} {ec : Nat} {ma : Option Addr} {mc : Nat} {met : List DScored} {d : Nat} {thr : Int} (h : SrAt w g Bm a n c ea ec ma mc met d thr) (hb : Below w.heap.size w w') : SrAt w' g Bm a n c ea ec ma mc met d thr := by
  obtain ⟨h0, h1, h2, h3, h4, h5, h6, h7⟩ := h
  have hg := World.block_lt_of_cell? _ _ h0
  exact ⟨cell_later hb h0, cell_later hb h1, cell_later hb h2, cell_later hb h3, cell_later hb h4, fun o ho => (hb.frozen (p := ⟨g, o, none⟩) hg).trans (h5 o ho), OwnL.below h6 hb, h7⟩
theorem atDp_drop_nil {ls : List DRanking} {d : Nat} (h : ∀ r ∈ ls, r.length ≤ d) : atDp ls d = [] := atDp_none h

set_option maxRecDepth 100000 in
set_option maxHeartbeats 2000000 in
theorem hasEnded_k (ls : List DRanking) (w : World) (g Bm : Nat) (a : Option Addr) (n c : Nat) (ea : Option Addr) (ec : Nat) (ma : Option Addr) (mc : Nat) (met : List DScored) (d : Nat) (thr : Int) (hf : SrFix w g Bm ls a n c ea ec) (hs : SrAt w g Bm a n c ea ec ma mc met d thr) :
    Calls Try.prog 64 #[.pointer (some ⟨g, 0, none⟩)] w fun e w' => e = .returned (.bool (decide (atDp ls d = []))) ∧ Below w.heap.size w w' := by
  have hn := row_len hf.lists
  have hmx : n ≤ 9223372036854775807 := by obtain ⟨_, _, _, h, _⟩ := row_form hf.lists; rw [hn]; exact h
  have HN : Hid (n = ls.length) := hn
  have HF : Hid (SrFix w g Bm ls a n c ea ec) := hf
  have X1 := hs.c1
  have X3 := hs.c3
  clear hf hs hn
  go_enter Try.func64, Try.ntmps64
  go_wp2_with fail
  go_loopw [12] (fun iv wr => ∃ (k : Nat), k ≤ n ∧ iv = .int .i64 k ∧ Hid (∀ r ∈ ls.take k, r.length ≤ d) ∧ Below w.heap.size w wr) (fun iv _ => n - (intOf iv).toNat)
  case atStart => exact ⟨0, Nat.zero_le _, rfl, fun r hr => by simp at hr, Below.refl _ _⟩
  case round =>
    obtain ⟨k, hk, rfl, HI, hnx⟩ := hrel
    have zw := hnx.size
    have Y1 := cell_later hnx X1
    have Y3 := cell_later hnx X3
    by_cases hlt : k < n
    · obtain ⟨r, hr⟩ : ∃ r, ls[k]? = some r := ⟨_, List.getElem?_eq_getElem (by rw [← HN.out]; exact hlt)⟩
      have hf2 := HF.out.keep (below_but hnx HF.out.lt)
      obtain ⟨eb, rfl, h4, h5, h6⟩ : ∃ eb, ea = some ⟨eb, 0, none⟩ ∧ eb < Bm ∧ eb ≠ g ∧ ∀ i r, ls[i]? = some r → ∃ la lc, wr.cell? ⟨eb, i, none⟩ = some (.func (.func 96) #[.agg #[.slice la r.length lc]] #[]) ∧ (kRow kScored).is false wr (fun k => k < Bm ∧ k ≠ g) [.slice la r.length lc] r := by
        rcases hf2.fns with e | h
        · rw [e] at hr; simp at hr
        · exact h
      obtain ⟨la, lc, A0, hrow⟩ := h6 k r hr
      have HROW : Hid ((kRow kScored).is false wr (fun k => k < Bm ∧ k ≠ g) [.slice la r.length lc] r) := hrow
      have i0 : (0 : Int) ≤ (k : Int) := by omega
      have i1 : (k : Int) < (n : Int) := by omega
      have HR : Hid (ls[k]? = some r) := hr
      have HBX : Hid (Below w.heap.size w wr) := hnx
      clear hf2 h4 h5 h6 hrow hr hnx
      obtain ⟨m, hm⟩ : ∃ m, m = r.length := ⟨_, rfl⟩
      have HM : Hid (m = r.length) := hm
      rw [← hm] at A0 HROW
      clear hm
      by_cases hd : m ≤ d
      · go_wp2_with fail
        refine (entryAt_no la m lc d _ hd).mono ?_
        rintro e w1 ⟨rfl, hb1⟩
        have HB1 : Hid (Below w.heap.size w w1) := HBX.out.trans (hb1.mono zw)
        have z1 : wr.heap.size ≤ w1.heap.size := hb1.size
        have HI2 : Hid (∀ r ∈ ls.take (k + 1), r.length ≤ d) := by
          intro q hq
          rw [List.take_add_one, HR.out] at hq
          rcases List.mem_append.1 hq with h | h
          · exact HI.out q h
          · obtain rfl : q = r := by simpa using h
            rw [← HM.out]; exact hd
        clear hb1
        go_wp2
        go_roundw
        case rel => exact ⟨k + 1, by omega, by go_num, HI2, HB1.out.alloc (by omega) _⟩
        case measure => simp [intOf]; omega
      · obtain ⟨⟨i, s⟩, hx⟩ : ∃ x, r[d]? = some x := ⟨_, List.getElem?_eq_getElem (by rw [← HM.out]; omega)⟩
        have HF2 : Hid (decide (atDp ls d = []) = false) := by
          refine decide_eq_false fun e => ?_
          have := atDp_nil_iff.1 e r (List.mem_of_getElem? HR.out)
          rw [← HM.out] at this
          exact hd this
        go_wp2_with fail
        refine (entryAt_yes r la m lc _ d i s _ HROW.out hx).mono ?_
        rintro e w1 ⟨rfl, hb1⟩
        have HB1 : Hid (Below w.heap.size w w1) := HBX.out.trans (hb1.mono zw)
        clear hb1 hx
        go_wp2
        go_ret
        exact ⟨by rw [HF2.out]; rfl, HB1.out.alloc HB1.out.size _⟩
    · have HF2 : Hid (decide (atDp ls d = []) = true) := by
        refine decide_eq_true (atDp_none fun r hr => HI.out r ?_)
        rw [List.take_of_length_le (by rw [← HN.out]; omega)]
        exact hr
      go_wp2
      go_ret
      exact ⟨by rw [HF2.out]; rfl, hnx⟩
end Go.Proofs.Ytikgcgfigcolmaa
namespace Go.Proofs.Ytikgcgfigcolmaa
open Go.RowKit
set_option linter.unusedVariables false

set_option maxRecDepth 100000 in
set_option maxHeartbeats 2000000 in
theorem sumIn_k (ls : List DRanking) (a : Option Addr) (n c : Nat) (S : Nat → Prop) (i : Int) (w : World) (h : (kRow kRanking).is false w S [.slice a n c] ls) (hok : SumOk ls) :
    Calls Try.prog 73 #[.slice a n c, .int .i64 i] w fun e w' => e = .returned (.int .i64 (sumL ls i)) ∧ Below w.heap.size w w' := by
  have hnl := row_len h
  have h5 : n ≤ 5 := by rw [hnl]; exact hok.1
  have HNL : Hid (n = ls.length) := hnl
  have H : Hid ((kRow kRanking).is false w S [.slice a n c] ls) := h
  have HOK : Hid (SumOk ls) := hok
  clear h hnl hok
  go_enter Try.func73, Try.ntmps73
  go_wp2_with fail
  go_loopw [5, 10] (fun sv iv wr => ∃ (k : Nat) (z : Int), k ≤ n ∧ iv = .int .i64 k ∧ sv = .int .i64 z ∧ Hid (z = sumL (ls.take k) i) ∧ (0 ≤ z ∧ z ≤ 1000000 * k) ∧ Below w.heap.size w wr) (fun _ iv _ => n - (intOf iv).toNat)
  case atStart => exact ⟨0, 0, Nat.zero_le _, rfl, rfl, rfl, by omega, Below.refl _ _⟩
  case round =>
    obtain ⟨k, z, hk, rfl, rfl, HI, hz, hnx⟩ := hrel
    have zw := hnx.size
    by_cases hlt : k < n
    · obtain ⟨x, hx⟩ : ∃ x, ls[k]? = some x := ⟨_, List.getElem?_eq_getElem (by rw [← HNL.out]; exact hlt)⟩
      obtain ⟨b, off, B, C, rfl, hb, _, hi, _, hc⟩ := row_at (Kd.below H.out hnx) hx
      obtain ⟨la, lc, T, rfl, hm, hl, _⟩ := kRanking_open hi
      have A0 : wr.cell? ⟨b, off + k, none⟩ = some (.slice la x.length lc) := cell1 (hc 0 _ rfl).1
      have i0 : (0 : Int) ≤ (k : Int) := by omega
      have i1 : (k : Int) < (n : Int) := by omega
      obtain ⟨q60, qn, qb⟩ := HOK.out.2 x (List.mem_of_getElem? hx)
      obtain ⟨s1, s2⟩ := scoreL_bnd qb i
      have HTK : Hid (z + scoreL x i = sumL (ls.take (k + 1)) i) := by show _ = _; rw [List.take_add_one, hx, sumL_append, HI.out]; simp [sumL]
      have HL : Hid ((kRow kScored).is false wr T [.slice la x.length lc] x) := hl
      have HBR : Hid (Below w.heap.size w wr) := hnx
      obtain ⟨m, hm'⟩ : ∃ m, m = x.length := ⟨_, rfl⟩
      rw [← hm'] at A0 HL
      obtain ⟨y, hy⟩ : ∃ y, y = scoreL x i := ⟨_, rfl⟩
      have HY : Hid (y = scoreL x i) := hy
      rw [← hy] at s1 s2 HTK
      clear hc hi hx hl hnx hm' qn qb hm HI hy
      obtain ⟨z1, z2⟩ := hz
      go_wp2_with fail
      refine (scoreIn_k x la m lc T i _ (Kd.below HL.out (below_a1r _ _))).mono ?_
      rintro e w1 ⟨rfl, hb1⟩
      rw [← HY.out]
      have HB1 : Hid (Below w.heap.size w w1) := HBR.out.trans (((below_a1r _ _).trans (hb1.mono (by simp))).mono HBR.out.size)
      clear hb1
      go_wp2
      go_roundw
      case rel => exact ⟨k + 1, z + y, by omega, by go_num, by first | rfl | (congr 1; omega), HTK, by omega, HB1.out⟩
      case measure => simp [intOf]; omega
    · have i1 : ¬ (k : Int) < (n : Int) := by omega
      have HE : Hid (sumL ls i = z) := by show _ = _; rw [HI.out, show k = ls.length by rw [← HNL.out]; omega, List.take_length]
      clear HI
      go_wp2
      go_ret
      exact ⟨by rw [HE.out]; rfl, hnx⟩
end Go.Proofs.Ytikgcgfigcolmaa
namespace Go.Proofs.Ytikgcgfigcolmaa
open Go.RowKit
set_option linter.unusedVariables false

theorem cnt_take {l : List DScored} {k : Nat} {x : DScored} (h : l[k]? = some x) (t : Int) : cntA (l.take (k + 1)) t = cntA (l.take k) t + (if t < x.2 then 1 else 0) := by
  rw [List.take_add_one, h, cntA_append]
  simp [cntA]

set_option maxRecDepth 100000 in
set_option maxHeartbeats 2000000 in
theorem above_k (w : World) (g Bm : Nat) (a : Option Addr) (n c : Nat) (ea : Option Addr) (ec : Nat) (ma : Option Addr) (mc : Nat) (met : List DScored) (d : Nat) (thr : Int) (hs : SrAt w g Bm a n c ea ec ma mc met d thr) (hm : met.length ≤ 2 ^ 20) (hmk : ∀ x ∈ met, IntOk x.1 ∧ IntOk x.2) :
    Calls Try.prog 63 #[.pointer (some ⟨g, 0, none⟩)] w fun e w' => e = .returned (.int .i64 (cntA met thr)) ∧ Below w.heap.size w w' := by
  obtain ⟨m, hmm⟩ : ∃ m, m = met.length := ⟨_, rfl⟩
  have HM : Hid (m = met.length) := hmm
  have X2 := hs.c2
  have X4 := hs.c4
  have HO : Hid ((kRow kScored).is false w (fun k => Bm ≤ k) [.slice ma met.length mc] met) := Kd.read _ (own_scs hs.own (by omega) hmk)
  rw [← hmm] at X2 HO
  have m20 : m ≤ 2 ^ 20 := by omega
  clear hs hm hmk hmm
  go_enter Try.func63, Try.ntmps63
  go_wp2_with fail
  go_loopw [3, 11] (fun cv iv wr => ∃ (k : Nat) (z : Nat), k ≤ m ∧ iv = .int .i64 k ∧ cv = .int .i64 z ∧ Hid (z = cntA (met.take k) thr) ∧ z ≤ k ∧ Below w.heap.size w wr) (fun _ iv _ => m - (intOf iv).toNat)
  case atStart => exact ⟨0, 0, Nat.zero_le _, rfl, rfl, rfl, Nat.le_refl _, Below.refl _ _⟩
  case round =>
    obtain ⟨k, z, hk, rfl, rfl, HI, hz, hnx⟩ := hrel
    have zw := hnx.size
    by_cases hlt : k < m
    · obtain ⟨⟨i, s⟩, hx⟩ : ∃ x, met[k]? = some x := ⟨_, List.getElem?_eq_getElem (by rw [← HM.out]; exact hlt)⟩
      obtain ⟨b, off, B, C, rfl, hb, _, hi, _, hc⟩ := row_at (Kd.below HO.out hnx) hx
      obtain ⟨rfl, g0, g1⟩ := kScored_open hi
      have A0 : wr.cell? ⟨b, off + k * 2, none⟩ = some (.int .i64 i) := (hc 0 _ rfl).1
      have A1 : wr.cell? ⟨b, off + k * 2 + 1, none⟩ = some (.int .i64 s) := (hc 1 _ rfl).1
      have i0 : (0 : Int) ≤ (k : Int) := by omega
      have i1 : (k : Int) < (m : Int) := by omega
      have HT : Hid (cntA (met.take (k + 1)) thr = cntA (met.take k) thr + (if thr < s then 1 else 0)) := cnt_take hx thr
      obtain ⟨W1, hW1⟩ : ∃ W1, W1 = wr.alloc (.cells #[.int .i64 i, .int .i64 s] 60) := ⟨_, rfl⟩
      have B1 : Below wr.heap.size wr W1 := by rw [hW1]; exact below_a1r _ _
      have HB1 : Hid (Below w.heap.size w W1) := hnx.trans (B1.mono zw)
      have U0 : ∀ p : BelowOf W1, p.v.cell? ⟨wr.heap.size, 1, none⟩ = some (.int .i64 s) := BelowOf.cell (by rw [hW1]; simp [go_sem])
      have U1 : ∀ p : BelowOf W1, p.v.cell? ⟨g, 4, none⟩ = some (.int .i64 thr) := BelowOf.cell (cell_later HB1.out X4)
      have hne := belowOf_ne W1
      clear hc hi hx B1 hnx
      by_cases c1 : thr < s
      · have HT2 : Hid (z + 1 = cntA (met.take (k + 1)) thr) := by show _ = _; rw [HT.out, if_pos c1, HI.out]
        have c1b : decide (thr < s) = true := decide_eq_true c1
        go_wp2_with fail
        rw [← hW1]
        clear hW1 HT HI
        refine region_below (by kernel_rfl) (by kernel_rfl) ?_
        repeat (go_big_quiet_step (fail))
        refine wpQuiet_nil (belowOf_all ?_)
        intro w2 hb2
        go_wp2
        go_roundw
        case rel => exact ⟨k + 1, z + 1, by omega, by go_num, by go_num, HT2, by omega, HB1.out.trans (hb2.mono HB1.out.size)⟩
        case measure => simp [intOf]; omega
      · have HT2 : Hid (z = cntA (met.take (k + 1)) thr) := by show _ = _; rw [HT.out, if_neg c1, HI.out]; rfl
        have c1b : decide (thr < s) = false := decide_eq_false c1
        go_wp2_with fail
        rw [← hW1]
        clear hW1 HT HI
        refine region_below (by kernel_rfl) (by kernel_rfl) ?_
        repeat (go_big_quiet_step (fail))
        refine wpQuiet_nil (belowOf_all ?_)
        intro w2 hb2
        go_wp2
        go_roundw
        case rel => exact ⟨k + 1, z, by omega, by go_num, rfl, HT2, by omega, HB1.out.trans (hb2.mono HB1.out.size)⟩
        case measure => simp [intOf]; omega
    · have HE : Hid (z = cntA met thr) := by show _ = _; rw [HI.out, List.take_of_length_le (by rw [← HM.out]; omega)]
      have i1 : ¬ (k : Int) < (m : Int) := by omega
      clear HI
      go_wp2
      go_ret
      exact ⟨by rw [← HE.out]; rfl, hnx⟩
end Go.Proofs.Ytikgcgfigcolmaa
namespace Go.Proofs.Ytikgcgfigcolmaa
open Go.RowKit
set_option linter.unusedVariables false

/-- append(s, x) of one that is ranked, at a step of a statement that draws its order. -/
theorem step_sc {w : World} {ops : Array Oper} {o : Oper} {a : Act} {K : Act → World → Prop} {Q : Exit → Act → World → Prop} {E : Prop} (hgd : o.guard = none) (s x : Operand)
    (ho : o.op = .call { callee := .builtin .append, args := #[s, x], argTypes := #[50, 50] })
    (B : Nat) (v : Value) (l : List DScored) (hs : a.eval s = v) (hown : OwnL scC 60 2 w B v l) (b : Nat) (y : DScored) (hx : a.eval x = .slice (some ⟨b, 0, none⟩) 1 1) (hc0 : w.cell? ⟨b, 0, none⟩ = some (.int .i64 y.1)) (hc1 : w.cell? ⟨b, 1, none⟩ = some (.int .i64 y.2))
    (hL : l.length < 2 ^ 30) (hbase : B ≤ w.heap.size)
    (h : ∀ g cap w', OwnL scC 60 2 w' B (.slice (some ⟨g, 0, none⟩) (l.length + 1) cap) (l ++ [y]) → Below B w w' → K (a.put o.dst (.slice (some ⟨g, 0, none⟩) (l.length + 1) cap)) w') : if Region.wanted o (yielded ops a.tmps) = true then Oper.wp Try.prog o a w K Q else E := by
  obtain ⟨i0, hi, hz0, hz1, hz2⟩ := info_parts infoScA
  have hbm : (l.length + 1) * 16 ≤ 140737488355328 := by omega
  refine step_append_lies w hgd s x 50 ho B 60 i0 _ 2 16 Try.underlying50 hi hz0 hz1 hz2 rfl (by decide) v l.length (l.flatMap scC) hs hown ⟨b, 0, none⟩ 1 1 (scC y) hx rfl (fun j u hj => ?_) (scC_one y) (by decide) (by unfold maxLen; omega) hbm hbase _ rfl fun g cap w' h2 h3 _ _ => h g cap w' ?_ ?_
  · match j, hj with
    | 0, hj =>
      obtain rfl : Value.int .i64 y.1 = u := by simpa [scC] using hj
      exact hc0
    | 1, hj =>
      obtain rfl : Value.int .i64 y.2 = u := by simpa [scC] using hj
      exact hc1
  · unfold OwnL
    rw [List.length_append, List.flatMap_append]
    simpa using h2
  · exact ⟨h3.os, h3.tape, h3.output, h3.size, fun k hk => h3.block k (by omega) (fun e => by have := (World.ownsRow.lt hown k e.symm).1; omega)⟩

/-- What a search's step answers: nothing, and the search is turned. -/
def SrTo (w : World) (g Bm : Nat) (ls : List DRanking) (a : Option Addr) (n c : Nat) (ea : Option Addr) (ec : Nat) (met : List DScored) (d : Nat) (thr : Int) (w' : World) : Prop :=
  SrFix w' g Bm ls a n c ea ec ∧ BelowBut Bm g w w' ∧ ∃ ma mc, SrAt w' g Bm a n c ea ec ma mc met d thr
theorem SrTo.below {w w1 w2 : World} {g Bm : Nat} {ls : List DRanking} {a : Option Addr} {n c : Nat} {ea : Option Addr} {ec : Nat} {met : List DScored} {d : Nat} {thr : Int} (h : SrTo w g Bm ls a n c ea ec met d thr w1) (hb : Below w1.heap.size w1 w2) : SrTo w g Bm ls a n c ea ec met d thr w2 := by
  obtain ⟨h1, h2, ma, mc, h3⟩ := h
  have hbb : BelowBut Bm g w1 w2 := below_but hb h1.lt
  exact ⟨h1.keep hbb, bbut_trans h2 hbb, ma, mc, h3.below hb⟩
theorem set_bbut {B g : Nat} {w w' : World} {o : Nat} {v : Value} (h : BelowBut B g w w') : BelowBut B g w (w'.setCell ⟨g, o, none⟩ v) :=
  ⟨h.os, h.tape, h.output, by simpa using h.size, fun k hk hn => (heap_set_ne hn).trans (h.block k hk hn)⟩
theorem below_bbut {B g : Nat} {w w' : World} (h : Below B w w') : BelowBut B g w w' := ⟨h.os, h.tape, h.output, h.size, fun k hk _ => h.block k hk⟩
theorem OwnL.set {w : World} {B : Nat} {v : Value} {l : List DScored} {g o : Nat} {u : Value} (h : OwnL scC 60 2 w B v l) (hg : g < B) : OwnL scC 60 2 (w.setCell ⟨g, o, none⟩ u) B v l := h.kept (S := fun k => k = g) (kept_set' w g o u) (fun k hk e => by have e' : k = g := e; omega)
  where kept_set' (w : World) (g o : Nat) (v : Value) : KeptO (fun k => k = g) w (w.setCell ⟨g, o, none⟩ v) := ⟨rfl, rfl, rfl, by simp, fun k hk hn => heap_set_ne hn⟩

/-- What was met, turned. -/
theorem SrAt.put {w W3 : World} {g Bm : Nat} {ls : List DRanking} {a : Option Addr} {n c : Nat} {ea : Option Addr} {ec : Nat} {ma : Option Addr} {mc : Nat} {met : List DScored} {d : Nat} {thr : Int} (hf : SrFix w g Bm ls a n c ea ec) (hs : SrAt w g Bm a n c ea ec ma mc met d thr) (hb : Below Bm w W3) {ma' : Option Addr} {m' mc' : Nat} {met' : List DScored} (hm : m' = met'.length) (ho : OwnL scC 60 2 W3 Bm (.slice ma' m' mc') met') : SrTo w g Bm ls a n c ea ec met' d thr (W3.setCell ⟨g, 2, none⟩ (.slice ma' m' mc')) := by
  subst hm
  have hbb : BelowBut Bm g w (W3.setCell ⟨g, 2, none⟩ (.slice ma' met'.length mc')) := set_bbut (below_bbut hb)
  have hc : ∀ o v, w.cell? ⟨g, o, none⟩ = some v → W3.cell? ⟨g, o, none⟩ = some v := fun o v h => (hb.cell (p := ⟨g, o, none⟩) hs.lt).trans h
  refine ⟨hf.keep hbb, hbb, ma', mc', ⟨set_other (hc _ _ hs.c0) (by decide), set_other (hc _ _ hs.c1) (by decide), set_same (hc _ _ hs.c2), set_other (hc _ _ hs.c3) (by decide), set_other (hc _ _ hs.c4) (by decide), fun o ho => ?_, OwnL.set ho hs.lt, hs.lt⟩⟩
  rw [World.frozen?_setCell, hb.frozen (p := ⟨g, o, none⟩) hs.lt]
  exact hs.fz o ho
theorem SrTo.from {w0 w w' : World} {g Bm : Nat} {ls : List DRanking} {a : Option Addr} {n c : Nat} {ea : Option Addr} {ec : Nat} {met : List DScored} {d : Nat} {thr : Int} (h : SrTo w g Bm ls a n c ea ec met d thr w') (hb : BelowBut Bm g w0 w) : SrTo w0 g Bm ls a n c ea ec met d thr w' := ⟨h.1, bbut_trans hb h.2.1, h.2.2⟩

set_option maxRecDepth 100000 in
set_option maxHeartbeats 4000000 in
theorem meet_k (ls : List DRanking) (w : World) (g Bm : Nat) (a : Option Addr) (n c : Nat) (ea : Option Addr) (ec : Nat) (ma : Option Addr) (mc : Nat) (met : List DScored) (d : Nat) (thr i : Int) (hf : SrFix w g Bm ls a n c ea ec) (hs : SrAt w g Bm a n c ea ec ma mc met d thr) (hok : SumOk ls) (hm : met.length ≤ 2 ^ 20) (hmk : ∀ x ∈ met, IntOk x.1 ∧ IntOk x.2) (hpos : ∀ x ∈ met, 1 ≤ x.2) :
    Calls Try.prog 97 #[.pointer (some ⟨g, 0, none⟩), .int .i64 i] w fun e w' => e = .returned (.tuple #[]) ∧ SrTo w g Bm ls a n c ea ec (meetL met (i, sumL ls i)) d thr w' := by
  obtain ⟨m, hmm⟩ : ∃ m, m = met.length := ⟨_, rfl⟩
  have HM : Hid (m = met.length) := hmm
  have X0 := hs.c0
  have X2 := hs.c2
  rw [← hmm] at X2
  have m20 : m ≤ 2 ^ 20 := by omega
  have HF : Hid (SrFix w g Bm ls a n c ea ec) := hf
  have HS : Hid (SrAt w g Bm a n c ea ec ma mc met d thr) := hs
  have HOK : Hid (SumOk ls) := hok
  have HR : Hid ((kRow kScored).is false w (fun k => Bm ≤ k) [.slice ma m mc] met) := by show (kRow kScored).is _ _ _ _ _; rw [hmm]; exact Kd.read _ (own_scs hs.own (by omega) hmk)
  have hgB : g < Bm := hs.lt
  have hBw : Bm ≤ w.heap.size := hf.lt
  have HP : Hid (∀ x ∈ met, 1 ≤ x.2) := hpos
  clear hf hs hok hm hmk hmm hpos
  go_enter Try.func97, Try.ntmps97
  go_wp2_with fail
  refine (scoreIn_k met ma m mc _ i _ HR.out).mono ?_
  rintro e w1 ⟨rfl, hb1⟩
  have HB1 : Hid (Below w.heap.size w w1) := hb1
  have Y0 := cell_later hb1 X0
  have Y2 := cell_later hb1 X2
  clear hb1
  cases hno : noId met i with
  | false =>
    have HE : Hid (meetL met (i, sumL ls i) = met) := by show _ = _; unfold meetL; rw [if_neg (by rw [hno]; exact Bool.false_ne_true)]
    have hsc : (scoreL met i == 0) = false := by have := scoreL_yes met i HP.out hno; simp; omega
    clear hno
    generalize scoreL met i = sc at *
    go_wp2
    go_end0
    rw [HE.out]
    have hbb : BelowBut Bm g w w1 := below_but HB1.out hBw
    exact ⟨rfl, HF.out.keep hbb, hbb, ma, mc, HS.out.below HB1.out⟩
  | true =>
    have HE : Hid (meetL met (i, sumL ls i) = met ++ [(i, sumL ls i)]) := by show _ = _; unfold meetL; rw [if_pos hno]
    have hsc : scoreL met i = 0 := scoreL_no met i hno
    rw [hsc]
    have HF1 : Hid (SrFix w1 g Bm ls a n c ea ec) := HF.out.keep (below_but HB1.out hBw)
    have HS1 : Hid (SrAt w1 g Bm a n c ea ec ma mc met d thr) := HS.out.below HB1.out
    obtain ⟨sm, hsm⟩ : ∃ sm, sm = sumL ls i := ⟨_, rfl⟩
    have HSM : Hid (sm = sumL ls i) := hsm
    have HCALL : Hid (∀ W, Below w1.heap.size w1 W → Calls Try.prog 73 #[.slice a n c, .int .i64 i] W fun e w' => e = .returned (.int .i64 sm) ∧ Below W.heap.size W w') := fun W hW => by rw [hsm]; exact sumIn_k ls a n c _ i W (Kd.below HF1.out.lists hW) HOK.out
    have HO1 : Hid (OwnL scC 60 2 w1 Bm (.slice ma m mc) met) := by show OwnL _ _ _ _ _ _ _; rw [HM.out]; exact HS1.out.own
    have z1 : Bm ≤ w1.heap.size := HF1.out.lt
    have hg1 : g < w1.heap.size := by omega
    have FZ : Hid (w1.frozen? ⟨g, 2, none⟩ = false) := HS1.out.fz 2 (by decide)
    have HDR : Hid (Below w1.heap.size w1 w1.drew) := (Below.refl _ _).drew
    clear hno hsc hsm X0 X2
    go_wp2_with fail
    go_region_law (first
      | (go_simp; go_at_call 73; refine (HCALL.out _ HDR.out).mono ?_; rintro e w2 ⟨rfl, hb2⟩; have HB2 : Hid (Below w1.heap.size w1 w2) := HDR.out.trans hb2; have z2 : w1.heap.size ≤ w2.heap.size := hb2.size; have V2 := cell_later HB2.out Y2; have V3 := cell_later (below_a1r w2 (.cells #[.int .i64 i, .int .i64 sm] 60)) V2; clear hb2)
      | (refine step_sc (by rfl) _ _ (by rfl) Bm _ met (by rfl) (OwnL.below HO1.out (HB2.out.trans ((below_a1r _ _).mono z2))) _ (i, sm) (by rfl) (by simp [go_sem]) (by simp [go_sem]) (by rw [← HM.out]; omega) (by simp; omega) ?_; intro g3 cap3 w3 ho3 hb3; have T2 : w3.cell? ⟨g, 2, none⟩ = some (.slice ma m mc) := (hb3.cell (p := ⟨g, 2, none⟩) hgB).trans (cell_later (HB2.out.trans ((below_a1r _ _).mono z2)) Y2); have T2f : w3.frozen? ⟨g, 2, none⟩ = false := (hb3.frozen (p := ⟨g, 2, none⟩) hgB).trans (((HB2.out.trans ((below_a1r _ _).mono z2)).frozen (p := ⟨g, 2, none⟩) hg1).trans FZ.out)))
    all_goals
      have HR3 : Hid (SrTo w1 g Bm ls a n c ea ec (met ++ [(i, sm)]) d thr (w3.setCell ⟨g, 2, none⟩ (.slice (some ⟨g3, 0, none⟩) (met.length + 1) cap3))) := SrAt.put HF1.out HS1.out (((HB2.out.trans ((below_a1r _ _).mono z2)).mono z1).trans hb3) (by simp) ho3
      clear ho3 hb3 T2 T2f
      go_wp2
      go_end0
      rw [HE.out, ← HSM.out]
      exact ⟨rfl, HR3.out.from (below_but HB1.out hBw)⟩
end Go.Proofs.Ytikgcgfigcolmaa
