/- Those that are ranked, sorted by the library: what the row holds behind it. No condition but that they fit in memory. -/
import Derived.Test.YtikgcgfigcolmaaRtM
import Derived.Test.YtikgcgfigcolmaaAp3
import Derived.Test.YtikgcgfigcolmaaSoSc
namespace Go.Proofs.Ytikgcgfigcolmaa
open Go.RowKit Go.Sort
set_option linter.unusedVariables false

theorem lt_is (x y : DScored) : ltOf rkCmp x y = ahd x y := by
  unfold ltOf
  cases h : ahd x y with
  | true => exact decide_eq_true ((rkCmp_neg x y).2 h)
  | false => exact decide_eq_false (fun e => by rw [(rkCmp_neg x y).1 e] at h; cases h)
theorem rk_swo : SWO (ltOf rkCmp) where
  irrefl x := by rw [lt_is]; cases h : ahd x x with | false => rfl | true => exact absurd h (ahd_irr x)
  trans x y z h1 h2 := by rw [lt_is] at *; exact ahd_trans h1 h2
  ntrans x y z h1 h2 := by
    rw [lt_is] at *
    cases h : ahd x z with
    | false => rfl
    | true =>
      rw [ahd_iff] at h
      have h1' : ¬ (y.2 < x.2 ∨ (x.2 = y.2 ∧ x.1 < y.1)) := fun e => by rw [(ahd_iff x y).2 e] at h1; cases h1
      have h2' : ¬ (z.2 < y.2 ∨ (y.2 = z.2 ∧ y.1 < z.1)) := fun e => by rw [(ahd_iff y z).2 e] at h2; cases h2
      omega
theorem rk_tot (x y : DScored) (h1 : ltOf rkCmp x y = false) (h2 : ltOf rkCmp y x = false) : x = y := by
  rw [lt_is] at *
  have h1' : ¬ (y.2 < x.2 ∨ (x.2 = y.2 ∧ x.1 < y.1)) := fun e => by rw [(ahd_iff x y).2 e] at h1; cases h1
  have h2' : ¬ (x.2 < y.2 ∨ (y.2 = x.2 ∧ y.1 < x.1)) := fun e => by rw [(ahd_iff y x).2 e] at h2; cases h2
  exact Prod.ext (by omega) (by omega)
/-- Sorted. -/
def srtL (l : List DScored) : List DScored := l.mergeSort fun x y => !(ltOf rkCmp) y x
theorem srtL_perm (l : List DScored) : (srtL l).Perm l := List.mergeSort_perm l _
theorem srtL_srt {l : List DScored} (h : NoTwice l) : Srt (srtL l) := by
  have hp : (srtL l).Pairwise fun a b => (!(ltOf rkCmp) b a) = true := by
    refine List.pairwise_mergeSort (fun a b c h1 h2 => ?_) (fun a b => ?_) l
    · simp only [lt_is, Bool.not_eq_true'] at *
      have := rk_swo.ntrans c b a (by rw [lt_is]; exact h2) (by rw [lt_is]; exact h1)
      rw [lt_is] at this
      exact this
    · simp only [lt_is]
      cases h : ahd b a with
      | false => rfl
      | true =>
        cases h' : ahd a b with
        | false => rfl
        | true => exact absurd h' (ahd_asymm h)
  have hn : NoTwice (srtL l) := List.Perm.pairwise (srtL_perm l).symm h (fun {a b} h => fun e => h e.symm)
  exact List.Pairwise.imp₂ (fun {a b} (h1 : (!(ltOf rkCmp) b a) = true) (h2 : a.1 ≠ b.1) => ahd_total h2.symm (by rw [lt_is] at h1; intro e; rw [e] at h1; cases h1)) hp hn

theorem row_holds {w : World} {S : Nat → Prop} {b off n c : Nat} {l : List DScored} (h : (kRow kScored).is true w S [.slice (some ⟨b, off, none⟩) n c] l) : HoldsK scC 2 w b off l.toArray := by
  intro j hj
  rw [size_flatK] at hj
  have hj' : j < l.length * 2 := by simpa using hj
  rw [get_flatK _ _ _ _ hj]
  obtain ⟨x, hx⟩ : ∃ x, l[j / 2]? = some x := ⟨_, List.getElem?_eq_getElem (by omega)⟩
  obtain ⟨b', off', B, C, e, hb, _, hi, _, hc⟩ := row_at h hx
  obtain ⟨rfl, rfl⟩ : b = b' ∧ off = off' := by injection e with e; injection e with e1 e2; exact ⟨e1, e2⟩
  obtain ⟨x0, x1⟩ := x
  obtain ⟨rfl, _, _⟩ := kScored_open hi
  have hx2 : (l.toArray)[j / 2]! = (x0, x1) := by
    rw [getElem!_pos l.toArray (j / 2) (by simp; omega)]
    have := (List.getElem?_eq_some_iff.1 hx).2
    simpa using this
  rw [hx2]
  have h2 : j % 2 < 2 := Nat.mod_lt _ (by decide)
  have e1 : off + j / 2 * kScored.wd + j % 2 = off + j := by show off + j / 2 * 2 + j % 2 = off + j; omega
  have := hc (j % 2) ((scC (x0, x1))[j % 2]!) (by
    show (scC (x0, x1))[j % 2]? = _
    rcases (show j % 2 = 0 ∨ j % 2 = 1 by omega) with e | e <;> rw [e] <;> rfl)
  rw [e1] at this
  exact ⟨this.1, this.2 rfl⟩
theorem holds_row {w : World} {S : Nat → Prop} {b off n c : Nat} {l : List DScored} (h : HoldsK scC 2 w b off l.toArray) (hb : b < w.heap.size) (hS : S b) (hn : n = l.length) (hc : n ≤ c) (hm : l.length ≤ 2 ^ 30) (hk : ∀ x ∈ l, IntOk x.1 ∧ IntOk x.2) : (kRow kScored).is true w S [.slice (some ⟨b, off, none⟩) n c] l := by
  subst hn
  refine ⟨_, c, rfl, by unfold maxLen; omega, fun _ => hc, .inr ⟨b, off, fun _ _ => False, fun i => ((l[i]?).map scC).getD [], rfl, hb, hS, fun i x hx => ?_, fun _ _ _ h => h.elim, fun _ => ⟨fun _ _ h => h, fun _ _ _ _ _ _ h => h.elim⟩⟩⟩
  have hi := (List.getElem?_eq_some_iff.1 hx).1
  have hx2 : (l.toArray)[i]! = x := by
    rw [getElem!_pos l.toArray i (by simpa using hi)]
    have := (List.getElem?_eq_some_iff.1 hx).2
    simpa using this
  obtain ⟨h1, h2⟩ := hk x (List.mem_of_getElem? hx)
  simp only [hx, Option.map_some, Option.getD_some]
  refine ⟨by obtain ⟨x0, x1⟩ := x; exact kScored_shut h1 h2, fun j v hj => ?_⟩
  have hj2 : j < 2 := (List.getElem?_eq_some_iff.1 hj).1
  have := h.cell (i := i) (c := j) (by simpa using hi) hj2
  rw [hx2] at this
  have e : (scC x)[j]! = v := by
    rw [getElem!_pos (scC x) j hj2]
    exact (List.getElem?_eq_some_iff.1 hj).2
  rw [e] at this
  exact ⟨this.1, fun _ => this.2⟩
theorem sortW_kept (w : World) (b off m : Nat) (d : Array DScored) (os : Array Obj) : KeptO (fun k => k = b) w (sortWorldK scC 2 w b off m d os) := by
  refine ⟨rfl, rfl, rfl, size_sortWorldK_c scC 2 w b off m d os, fun k hk hn => ?_⟩
  unfold sortWorldK putRowK putRow mapBlock
  show (_ ++ os)[k]? = _
  rw [Array.getElem?_append_left (by simpa using hk)]
  simp [Sort.ahead]
  rw [Array.getElem?_modify, if_neg (fun e => hn e.symm)]

theorem cmpLays_k (blk off size : Nat) (w : World) : CmpLays Try.prog 99 #[] scC 2 rkCmp blk off size w :=
  fun _ _ _ _ x y => byRank_g x y _

set_option maxHeartbeats 1000000 in
/-- slices.SortFunc(s, byRank). -/
theorem sortSc_k (l : List DScored) (a : Option Addr) (n c : Nat) (S : Nat → Prop) (w : World) (h : (kRow kScored).is true w S [.slice a n c] l) (hl : l.length ≤ 2 ^ 20) :
    Calls Try.prog 98 #[.slice a n c, .func (.func 99) #[] #[]] w fun e w' => e = .returned (.tuple #[]) ∧ (kRow kScored).is true w' S [.slice a n c] (srtL l) ∧ KeptO S w w' := by
  have hn := row_len h
  by_cases h0 : l = []
  · subst h0
    have hn0 : n = 0 := hn
    subst hn0
    have hc := AnyF.slices_SortFunc_none Try.lsortSc a c (.func (.func 99) #[] #[]) w
    refine hc.mono ?_
    rintro e w' ⟨rfl, rfl⟩
    exact ⟨rfl, by unfold srtL; simpa using h, KeptO.refl _ _⟩
  · obtain ⟨x, hx⟩ : ∃ x, l[0]? = some x := ⟨_, List.getElem?_eq_getElem (List.length_pos_iff.2 h0)⟩
    obtain ⟨b, off, B, C, rfl, hb, hSb, _⟩ := row_at h hx
    have hnc : n ≤ c := by obtain ⟨_, _, e, _, h⟩ := row_form h; simp only [List.cons.injEq, Value.slice.injEq, and_true] at e; have := h rfl; omega
    have eg : ∀ args w, (callFunc 99 args).run Try.prog w = .ok (.enter 99 args) w := enters_of Try.func99 (by kernel_rfl) rfl
    have hsz : l.toArray.size = n := by rw [hn]; simp
    have hcon := AnyQ.slices_SortFunc_total Try.lsortSc 2 Try.isAgg60 Try.sizeOf60 scC (fun _ => rfl) scC_one rkCmp rk_swo 99 #[] b off c l.toArray w eg (cmpLays_k b off _ w) (row_holds h) hb (by rw [hsz]; omega) rk_tot
    rw [hsz] at hcon
    refine Calls.mono hcon ?_
    rintro e w' ⟨rfl, m, os, rfl⟩
    have hp := srtL_perm l
    have hs : ((l.toArray.toList.mergeSort fun x y => !(ltOf rkCmp) y x).toArray) = (srtL l).toArray := rfl
    rw [hs]
    have hH := holdsK_sortWorldK_c scC 2 w b off l.toArray (srtL l).toArray m os (row_holds h) hb (by simp [hp.length_eq])
    have hz := size_sortWorldK_c scC 2 w b off m (srtL l).toArray os
    refine ⟨rfl, holds_row hH (by omega) hSb (by rw [hn, hp.length_eq]) hnc (by rw [hp.length_eq]; omega) (fun x hx => row_ints h x (hp.mem_iff.1 hx)), (sortW_kept w b off m _ os).mono fun k hk => hk ▸ hSb⟩
end Go.Proofs.Ytikgcgfigcolmaa
