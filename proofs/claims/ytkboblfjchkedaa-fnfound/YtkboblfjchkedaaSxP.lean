/- Pairs of numbers: compared, cloned, sorted by the library. No condition but that they fit in memory. -/
import Derived.Test.YtkboblfjchkedaaSxL
import Derived.Deep.RegionHeld3
import Derived.Deep.RegionWith
import Derived.Deep.DeepFit
namespace Go.Proofs.Ytkboblfjchkedaa
open Go.RowKit Go.Sort
set_option linter.unusedVariables false

/-- Which of two pairs is less. -/
def cmpP (a b : Int × Int) : Int := if Lib.compareInt a.1 b.1 = 0 then Lib.compareInt a.2 b.2 else Lib.compareInt a.1 b.1
theorem cmpI_zero (x y : Int) : Lib.compareInt x y = 0 ↔ x = y := by
  unfold Lib.compareInt
  split
  · constructor <;> intro h <;> omega
  · split
    · constructor <;> intro h <;> omega
    · constructor <;> intro h <;> omega
theorem cmpI_neg (x y : Int) : Lib.compareInt x y < 0 ↔ x < y := by
  unfold Lib.compareInt
  split
  · constructor <;> intro h <;> omega
  · split
    · constructor <;> intro h <;> omega
    · constructor <;> intro h <;> omega
theorem cmpP_neg (a b : Int × Int) : cmpP a b < 0 ↔ ltP a b = true := by
  rw [ltP_iff]
  unfold cmpP
  split
  · next h => rw [cmpI_zero] at h; rw [cmpI_neg]; omega
  · next h => rw [cmpI_zero] at h; rw [cmpI_neg]; omega
theorem cmpP_lt (a b : Int × Int) : ltOf cmpP a b = ltP a b := by
  unfold ltOf
  cases h : ltP a b with
  | true => exact decide_eq_true ((cmpP_neg a b).2 h)
  | false => exact decide_eq_false (fun e => by rw [(cmpP_neg a b).1 e] at h; cases h)

set_option maxRecDepth 100000 in
set_option maxHeartbeats 2000000 in
theorem cmpRow_k (a1 a2 b1 b2 : Int) (g h : Nat) (w : World) (A1 : w.cell? ⟨g, 0, none⟩ = some (.int .i64 a1)) (A2 : w.cell? ⟨g, 1, none⟩ = some (.int .i64 a2)) (B1 : w.cell? ⟨h, 0, none⟩ = some (.int .i64 b1)) (B2 : w.cell? ⟨h, 1, none⟩ = some (.int .i64 b2)) :
    Calls Try.prog 81 #[.slice (some ⟨g, 0, none⟩) 2 2, .slice (some ⟨h, 0, none⟩) 2 2] w fun e w' => e = .returned (.int .i64 (cmpP (a1, a2) (b1, b2))) ∧ w' = w := by
  obtain ⟨r, hr⟩ : ∃ r, r = cmpP (a1, a2) (b1, b2) := ⟨_, rfl⟩
  have HR : Hid (r = if Lib.compareInt a1 b1 = 0 then Lib.compareInt a2 b2 else Lib.compareInt a1 b1) := hr
  rw [← hr]
  clear hr
  have hc1 := Try.cmp_Compare_int a1 b1 w
  have hc2 := Try.cmp_Compare_int a2 b2 w
  generalize Lib.compareInt a1 b1 = c1 at *
  generalize Lib.compareInt a2 b2 = c2 at *
  go_enter Try.func81, Try.ntmps81
  go_wp2_with fail
  go_loopw [11] (fun kv wr => ∃ k : Nat, k ≤ 2 ∧ kv = .int .i64 k ∧ Hid (1 ≤ k → c1 = 0) ∧ Hid (2 ≤ k → c2 = 0) ∧ wr = w) (fun kv _ => 2 - (intOf kv).toNat)
  case atStart => exact ⟨0, by omega, rfl, fun h => by omega, fun h => by omega, rfl⟩
  case round =>
    obtain ⟨k, hk, rfl, H1, H2, rfl⟩ := hrel
    rcases (show k = 0 ∨ k = 1 ∨ k = 2 by omega) with rfl | rfl | rfl
    · by_cases e : c1 = 0
      · have HJ : Hid (c1 = 0) := e
        subst e
        go_wp2_with fail
        refine hc1.mono ?_
        rintro e w1 ⟨rfl, rfl⟩
        go_wp2
        go_roundw
        case rel => exact ⟨1, by omega, rfl, fun _ => by trivial, fun h => by omega, by trivial⟩
        case measure => simp [intOf]
      · have HF : Hid (r = c1) := by show _ = _; rw [HR.out, if_neg e]
        have e2 : (c1 == 0) = false := by simpa using e
        go_wp2_with fail
        refine hc1.mono ?_
        rintro e w1 ⟨rfl, rfl⟩
        go_wp2
        go_ret
        exact ⟨by rw [HF.out]; rfl, rfl⟩
    · by_cases e : c2 = 0
      · subst e
        go_wp2_with fail
        refine hc2.mono ?_
        rintro e w1 ⟨rfl, rfl⟩
        go_wp2
        go_roundw
        case rel => exact ⟨2, by omega, rfl, fun _ => H1.out (by omega), fun h => by trivial, by trivial⟩
        case measure => simp [intOf]
      · have HF : Hid (r = c2) := by show _ = _; rw [HR.out, if_pos (H1.out (by omega))]
        have e2 : (c2 == 0) = false := by simpa using e
        go_wp2_with fail
        refine hc2.mono ?_
        rintro e w1 ⟨rfl, rfl⟩
        go_wp2
        go_ret
        exact ⟨by rw [HF.out]; rfl, rfl⟩
    · have HF : Hid (r = 0) := by show _ = _; rw [HR.out, if_pos (H1.out (by omega)), H2.out (by omega)]
      go_wp2
      go_ret
      exact ⟨by rw [HF.out]; rfl, rfl⟩

set_option maxRecDepth 100000 in
set_option maxHeartbeats 2000000 in
theorem comparePairs_g (x y : Int × Int) (w : World) :
    Calls Try.prog 60 #[.agg #[.int .i64 x.1, .int .i64 x.2], .agg #[.int .i64 y.1, .int .i64 y.2]] w fun e w' => e = .returned (.int .i64 (cmpP x y)) ∧ ∃ q os', w' = grow (w.drewN q) os' := by
  obtain ⟨a1, a2⟩ := x
  obtain ⟨b1, b2⟩ := y
  show Calls Try.prog 60 #[.agg #[.int .i64 a1, .int .i64 a2], .agg #[.int .i64 b1, .int .i64 b2]] w _
  go_enter Try.func60, Try.ntmps60
  go_wp2_with fail
  obtain ⟨W, hW⟩ : ∃ W, W = (w.alloc (.cells #[.int .i64 a1, .int .i64 a2] 80)).alloc (.cells #[.int .i64 b1, .int .i64 b2] 80) := ⟨_, rfl⟩
  have a0 : W.cell? ⟨w.heap.size, 0, none⟩ = some (.int .i64 a1) ∧ W.cell? ⟨w.heap.size, 1, none⟩ = some (.int .i64 a2) ∧ W.cell? ⟨w.heap.size + 1, 0, none⟩ = some (.int .i64 b1) ∧ W.cell? ⟨w.heap.size + 1, 1, none⟩ = some (.int .i64 b2) := by
    rw [hW]
    simp [go_sem]
  obtain ⟨c1, c2, c3, c4⟩ := a0
  have HC : Hid (∀ q, Calls Try.prog 81 #[.slice (some ⟨w.heap.size, 0, none⟩) 2 2, .slice (some ⟨w.heap.size + 1, 0, none⟩) 2 2] (W.drewN q) fun e w' => e = .returned (.int .i64 (cmpP (a1, a2) (b1, b2))) ∧ w' = W.drewN q) := fun q => cmpRow_k a1 a2 b1 b2 _ _ _ c1 c2 c3 c4
  have HW : Hid (W = (w.alloc (.cells #[.int .i64 a1, .int .i64 a2] 80)).alloc (.cells #[.int .i64 b1, .int .i64 b2] 80)) := hW
  rw [← hW]
  clear hW
  obtain ⟨r, hr⟩ : ∃ r, r = cmpP (a1, a2) (b1, b2) := ⟨_, rfl⟩
  rw [← hr] at HC
  have HV : Hid (cmpP (a1, a2) (b1, b2) = r) := hr.symm
  clear hr
  go_big_quiet ((go_at_call 81; exact Calls.quiet_of_same (HC.out _)))
  go_wp2
  go_ret
  refine ⟨by rw [HV.out]; rfl, nq, #[.cells #[.int .i64 a1, .int .i64 a2] 80, .cells #[.int .i64 b1, .int .i64 b2] 80], ?_⟩
  rw [HW.out, alloc_eq_grow, alloc_eq_grow, grow_grow]
  rfl

theorem infoPair : (Try.prog.info? 80).map (fun i => (i.zero, i.size, i.bytes)) = some (some (.agg #[.int .i64 0, .int .i64 0]), 2, 16) := by kernel_rfl
theorem pr_len (x : Int × Int) : (prC x).length = 2 := rfl
theorem clonePr_k (l : List (Int × Int)) (b off n c : Nat) (S : Nat → Prop) (w : World) (h : (kRow kPr).is false w S [.slice (some ⟨b, off, none⟩) n c] l) (hl : l.length ≤ 2 ^ 20) :
    Calls Try.prog 77 #[.slice (some ⟨b, off, none⟩) n c] w fun e w' => ∃ a' c', e = .returned (.slice a' n c') ∧ (kRow kPr).is true w' (fun k => w.heap.size ≤ k) [.slice a' n c'] l ∧ Below w.heap.size w w' := by
  have hn := row_len h
  have hok := kPr_plain.oks h
  obtain ⟨i0, hi, hz0, hz1, hz2⟩ := info_parts infoPair
  have hcon := AnyE.slices_Clone Try.lclP i0 _ 2 16 hi hz0 hz1 hz2 rfl (by decide) Try.sizeOf80 b off n c (l.flatMap prC) w (by rw [flat_len pr_len, hn]) (by unfold maxLen; omega) (by omega) (fun j u hu => by
    have := row_cells (K := kPr) (cs := prC) pr_len (by decide) (fun h => h.1) h j u hu
    rwa [show ((⟨b, off, none⟩ : Addr).add j) = ⟨b, off + j, none⟩ by unfold Addr.add; split <;> simp_all] at this) (fun u hu => by obtain ⟨y, _, hy⟩ := List.mem_flatMap.1 hu; exact kPr_plain.one y u hy)
  refine Calls.mono hcon ?_
  rintro e w' ⟨v', rfl, ho, _, hb⟩
  have ho' : OwnL prC 80 2 w' w.heap.size v' l := by
    unfold OwnL
    rw [← hn]
    exact ho
  obtain ⟨a', c', rfl, _⟩ := ho'.form
  rw [← hn]
  rw [← hn] at ho'
  exact ⟨a', c', rfl, kPr_plain.own ho' (by omega) hok, hb⟩

theorem cmpLays_pr (blk off size : Nat) (w : World) : CmpLays Try.prog 60 #[] prC 2 cmpP blk off size w :=
  fun _ _ _ _ x y => comparePairs_g x y _
/-- Sorted. -/
def srtP (l : List (Int × Int)) : List (Int × Int) := l.mergeSort fun x y => !(ltOf cmpP) y x
theorem sortWK_kept (w : World) (b off m : Nat) (d : Array (Int × Int)) (os : Array Obj) : KeptO (fun k => k = b) w (sortWorldK prC 2 w b off m d os) := by
  refine ⟨rfl, rfl, rfl, size_sortWorldK_c prC 2 w b off m d os, fun k hk hn => ?_⟩
  unfold sortWorldK putRowK putRow mapBlock
  show (_ ++ os)[k]? = _
  rw [Array.getElem?_append_left (by simpa using hk)]
  simp [Sort.ahead]
  rw [Array.getElem?_modify, if_neg (fun e => hn e.symm)]
set_option maxHeartbeats 1000000 in
theorem sortPr_k (l : List (Int × Int)) (a : Option Addr) (n c : Nat) (S : Nat → Prop) (w : World) (h : (kRow kPr).is true w S [.slice a n c] l) (hl : l.length ≤ 2 ^ 20) :
    Calls Try.prog 78 #[.slice a n c, .func (.func 60) #[] #[]] w fun e w' => e = .returned (.tuple #[]) ∧ (kRow kPr).is true w' S [.slice a n c] (srtP l) ∧ KeptO S w w' := by
  have hn := row_len h
  have hok := kPr_plain.oks h
  by_cases h0 : l = []
  · subst h0
    have hn0 : n = 0 := hn
    subst hn0
    refine (AnyF.slices_SortFunc_none Try.lsoP a c (.func (.func 60) #[] #[]) w).mono ?_
    rintro e w' ⟨rfl, rfl⟩
    exact ⟨rfl, by unfold srtP; simpa using h, KeptO.refl _ _⟩
  · obtain ⟨x, hx⟩ : ∃ x, l[0]? = some x := ⟨_, List.getElem?_eq_getElem (List.length_pos_iff.2 h0)⟩
    obtain ⟨b, off, B, C, e, hb, hSb, _⟩ := row_at h hx
    subst e
    have hnc := row_cap h
    have eg : ∀ args w, (callFunc 60 args).run Try.prog w = .ok (.enter 60 args) w := enters_of Try.func60 (by kernel_rfl) rfl
    have hsz : l.toArray.size = n := by rw [hn]; simp
    have hH := kPr_plain.holdsK h
    have hcon := AnyQ.slices_SortFunc_total Try.lsoP 2 Try.isAgg80 Try.sizeOf80 prC pr_len kPr_plain.one cmpP (sto_swo ltP_sto cmpP_lt) 60 #[] b off c l.toArray w eg (cmpLays_pr b off _ w) hH hb (by rw [hsz]; omega) (fun x y h1 h2 => by rw [cmpP_lt] at h1 h2; exact ltP_sto.tot h1 h2)
    rw [hsz] at hcon
    refine Calls.mono hcon ?_
    rintro e w' ⟨rfl, m, os, rfl⟩
    have hp : (srtP l).Perm l := List.mergeSort_perm l _
    have hs : ((l.toArray.toList.mergeSort fun x y => !(ltOf cmpP) y x).toArray) = (srtP l).toArray := rfl
    rw [hs]
    have hH2 := holdsK_sortWorldK_c prC 2 w b off l.toArray (srtP l).toArray m os hH hb (by simp [hp.length_eq])
    have hz := size_sortWorldK_c prC 2 w b off m (srtP l).toArray os
    exact ⟨rfl, kPr_plain.ofHoldsK hH2 (by omega) hSb (by rw [hn, hp.length_eq]) hnc (by rw [hp.length_eq]; omega) (fun x hx => hok x (hp.mem_iff.1 hx)), (sortWK_kept w b off m _ os).mono fun k hk => hk ▸ hSb⟩
end Go.Proofs.Ytkboblfjchkedaa
