/- Two filters together: the program's AndFilters. A filter turned: the specification's own rows, and its NegateFilter. Two filters together: the specification's AndFilters. FnExactAndFilters answers true at every two filters: AndFilters answers as the specification, writes into nothing, and its answer is its own. -/
import Derived.Test.YtadlflgflnlhjaaGreatDoorFilN
import Derived.Test.YtadlflgflnlhjaaGreatDoorFilS
import Derived.Test.YtadlflgflnlhjaaGreatDoorFilHd
import Derived.Test.YtadlflgflnlhjaaGreatDoorFilToA
import Derived.Deep.RegionHeld3
import Derived.Deep.DeepFit
namespace Go.Proofs.YtadlflgflnlhjaaGreatDoor
open Go.RowKit
set_option linter.unusedVariables false

/-- The numbers of the two kids. -/
def twoK (t s : Nat) (i : Nat) : Int := if i = 0 then (t : Int) - 1 else (t : Int) + s - 1
/-- The terms of both. -/
def andF (F : Nat → Tm) (t : Nat) (G : Nat → Tm) (s : Nat) (i : Nat) : Tm := if i = t + s then aboveT 6 2 (twoK t s) else catF F t G i
/-- Both are good, and there is room. -/
def AndOK (F : Nat → Tm) (t : Nat) (G : Nat → Tm) (s : Nat) : Prop := GoodF F t ∧ GoodF G s ∧ t + s < 20
/-- WHAT AndFilters ANSWERS. -/
def AndIs (F : Nat → Tm) (t : Nat) (G : Nat → Tm) (s : Nat) (w : World) (e : Ending) (w' : World) : Prop := ∃ u q, ((AndOK F t G s ∧ u = t + s + 1 ∧ q = true) ∨ (¬ AndOK F t G s ∧ u = 0 ∧ q = false)) ∧ FlIs (andF F t G s) u q w e w'
theorem AndIs.no {F : Nat → Tm} {t : Nat} {G : Nat → Tm} {s : Nat} {w w' : World} (h : ¬ AndOK F t G s) (hb : Below w.heap.size w w') : AndIs F t G s w (.returned (.tuple #[.agg #[.slice none 0 0], .bool false])) w' := ⟨0, false, .inr ⟨h, rfl, rfl⟩, FlIs.no _ hb⟩
theorem AndIs.yes {F : Nat → Tm} {t : Nat} {G : Nat → Tm} {s B : Nat} {w w1 w' : World} {a : Option Addr} {c r : Nat} {x : Value} (h : AndOK F t G s) (hB : w.heap.size ≤ B) (hT : TBld w1 B (.slice a (t + s + 1) c) (t + s + 1) (andF F t G s)) (hw : w' = w1.setCell ⟨r, 0, none⟩ x) (hr : r < B) (hb : Below w.heap.size w w') : AndIs F t G s w (.returned (.tuple #[.agg #[.slice a (t + s + 1) c], .bool true])) w' := by
  have h20 := h.2.2
  obtain ⟨a', c', b, P, Q, e, _, h1, h2, h3⟩ := hT.own (by omega)
  injection e with e1 _ e3
  subst e1 e3
  have hb1 := h1 (by omega)
  have hz : w'.heap.size = w1.heap.size := by rw [hw]; simp [World.setCell]
  refine ⟨t + s + 1, true, .inl ⟨h, rfl, rfl⟩, a, c, b, P, Q, rfl, fun _ => ⟨by omega, by omega⟩, fun i hi => by have := h2 i hi; omega, ?_, hb⟩
  rw [hw]
  exact h3.but (g := r) (BelowBut.setCell _ _ _) (by omega) (fun i hi => .inl (by have := h2 i hi; omega))
theorem own_two (w : World) (x y : Int) (T : TypeId) : OwnK (w.alloc (.cells #[.int .i64 x, .int .i64 y] T)) w.heap.size (.slice (some ⟨w.heap.size, 0, none⟩) 2 2) 2 (fun i => if i = 0 then x else y) := by
  refine ⟨_, 2, rfl, by decide, .inr ⟨rfl, by simp, fun i hi => ⟨?_, World.frozen?_alloc_new _ _ _ _⟩⟩⟩
  have h : i = 0 ∨ i = 1 := by omega
  rcases h with rfl | rfl <;> simp [World.cell?_alloc_new]

set_option maxRecDepth 100000 in
set_option maxHeartbeats 4000000 in
theorem implAnd_any (a : Option Addr) (c t : Nat) (F : Nat → Tm) (a' : Option Addr) (c' s : Nat) (G : Nat → Tm) (w : World) (h : FArg w a t F) (hs : SmallF t F) (h' : FArg w a' s G) (hs' : SmallF s G) (htab : Tab w.heap.size w) (hml : ML w) :
    Calls Tryz.prog 25 #[.agg #[.slice a t c], .agg #[.slice a' s c']] w (AndIs F t G s w) := by
  have H : Hid (FArg w a t F) := h
  have HS : Hid (SmallF t F) := hs
  have H' : Hid (FArg w a' s G) := h'
  have HS' : Hid (SmallF s G) := hs'
  have HT : Hid (Tab w.heap.size w) := htab
  have HML : Hid (ML w) := hml
  clear h hs h' hs' htab hml
  go_enter Tryz.func25, Tryz.ntmps25
  go_wp2_with fail
  obtain ⟨W, hW⟩ : ∃ W, W = ((w.alloc (.cells #[.slice a t c] 42)).alloc (.cells #[.slice a' s c'] 42)).alloc (.cells #[.slice none 0 0] 42) := ⟨_, rfl⟩
  have bW : Below w.heap.size w W := by rw [hW]; exact (((Below.refl _ _).alloc (Nat.le_refl _) _).alloc (by simp) _).alloc (by simp; omega) _
  have zW2 : w.heap.size + 1 + 1 < W.heap.size := by rw [hW]; simp
  have zW1 : w.heap.size + 1 < W.heap.size := by omega
  have zW0 : w.heap.size < W.heap.size := by omega
  have f0 : W.cell? ⟨w.heap.size, 0, none⟩ = some (.slice a t c) := by rw [hW]; simp [go_sem]
  have g0 : W.cell? ⟨w.heap.size + 1, 0, none⟩ = some (.slice a' s c') := by rw [hW]; simp [go_sem]
  have r0 : W.cell? ⟨w.heap.size + 1 + 1, 0, none⟩ = some (.slice none 0 0) := by rw [hW]; simp [go_sem]
  have fr0 : W.frozen? ⟨w.heap.size + 1 + 1, 0, none⟩ = false := by rw [hW]; simp [go_sem]
  have HFW : Hid (FArg W a t F) := H.out.below bW
  have HGW : Hid (FArg W a' s G) := H'.out.below bW
  have HBW : Hid (Below w.heap.size w W) := bW
  rw [← hW]
  clear hW
  refine (implGoodF_any a c t F W HFW.out HS.out (HT.out.up bW) (HML.out.below bW)).mono ?_
  rintro e w1 ⟨q, rfl, hq, hb1⟩
  have z1 := hb1.size
  have f1 : w1.cell? ⟨w.heap.size, 0, none⟩ = some (.slice a t c) := (hb1.cell zW0).trans f0
  have g1 : w1.cell? ⟨w.heap.size + 1, 0, none⟩ = some (.slice a' s c') := (hb1.cell zW1).trans g0
  have r1 : w1.cell? ⟨w.heap.size + 1 + 1, 0, none⟩ = some (.slice none 0 0) := (hb1.cell zW2).trans r0
  have fr1 : w1.frozen? ⟨w.heap.size + 1 + 1, 0, none⟩ = false := (hb1.frozen zW2).trans fr0
  have HB1 : Hid (Below W.heap.size W w1) := hb1
  have HBw1 : Hid (Below w.heap.size w w1) := HBW.out.trans (hb1.mono HBW.out.size)
  clear hb1 bW f0 g0 r0 fr0
  cases q with
  | false =>
    have HN : Hid (¬ AndOK F t G s) := fun h => by simpa using hq.2 h.1
    clear hq
    go_wp2
    exact bodyPost_ret (v := .tuple #[.agg #[.slice none 0 0], .bool false]) (by simp [results, Tryz.results25, go_sem, r1]) rfl (AndIs.no HN.out (HBw1.out.setCell (by simp; omega) _))
  | true =>
    have hg := hq.1 rfl
    have ht20 := hg.1
    have HG : Hid (GoodF F t) := hg
    have HKS : Hid (∀ i, i < t → ∀ j, j < (F i).m → 0 ≤ (F i).K j ∧ (F i).K j ≤ 2 ^ 20) := kids_small hg
    clear hq hg
    go_wp2_with fail
    refine (implGoodF_any a' c' s G w1 (HGW.out.below HB1.out) HS'.out (HT.out.up HBw1.out) (HML.out.below HBw1.out)).mono ?_
    rintro e w2 ⟨q, rfl, hq, hb2⟩
    have z2 := hb2.size
    have f2 : w2.cell? ⟨w.heap.size, 0, none⟩ = some (.slice a t c) := (hb2.cell (by show w.heap.size < _; omega)).trans f1
    have g2 : w2.cell? ⟨w.heap.size + 1, 0, none⟩ = some (.slice a' s c') := (hb2.cell (by show w.heap.size + 1 < _; omega)).trans g1
    have r2 : w2.cell? ⟨w.heap.size + 1 + 1, 0, none⟩ = some (.slice none 0 0) := (hb2.cell (by show w.heap.size + 1 + 1 < _; omega)).trans r1
    have fr2 : w2.frozen? ⟨w.heap.size + 1 + 1, 0, none⟩ = false := (hb2.frozen (by show w.heap.size + 1 + 1 < _; omega)).trans fr1
    have HB2 : Hid (Below W.heap.size W w2) := HB1.out.trans (hb2.mono HB1.out.size)
    have HBw2 : Hid (Below w.heap.size w w2) := HBw1.out.trans (hb2.mono HBw1.out.size)
    clear hb2 f1 g1 r1 fr1
    cases q with
    | false =>
      have HN : Hid (¬ AndOK F t G s) := fun h => by simpa using hq.2 h.2.1
      clear hq
      go_wp2
      exact bodyPost_ret (v := .tuple #[.agg #[.slice none 0 0], .bool false]) (by simp [results, Tryz.results25, go_sem, r2]) rfl (AndIs.no HN.out (HBw2.out.setCell (by simp; omega) _))
    | true =>
      have hg := hq.1 rfl
      have hs20 := hg.1
      have HG' : Hid (GoodF G s) := hg
      have HKS' : Hid (∀ i, i < s → ∀ j, j < (G i).m → 0 ≤ (G i).K j ∧ (G i).K j ≤ 2 ^ 20) := kids_small hg
      clear hq hg
      go_wp2_with fail
      refine (appendTerms_any W w2 a c t F (.slice none 0 0) 0 F HFW.out HS.out (by omega) HKS.out HB2.out (TBld.nil _ _ _) (by omega)).mono ?_
      rintro e w3 ⟨v3, rfl, hT3, hb3⟩
      rw [catF_nil, Nat.zero_add] at hT3
      obtain ⟨a3, c3, rfl⟩ := hT3.form
      have z3 := hb3.size
      have g3 : w3.cell? ⟨w.heap.size + 1, 0, none⟩ = some (.slice a' s c') := (hb3.cell zW1).trans g2
      have r3 : w3.cell? ⟨w.heap.size + 1 + 1, 0, none⟩ = some (.slice none 0 0) := (hb3.cell zW2).trans r2
      have fr3 : w3.frozen? ⟨w.heap.size + 1 + 1, 0, none⟩ = false := (hb3.frozen zW2).trans fr2
      have HT3 : Hid (TBld w3 W.heap.size (.slice a3 t c3) t F) := hT3
      have HB3 : Hid (Below W.heap.size W w3) := HB2.out.trans hb3
      clear hT3 hb3 f2 g2 r2 fr2
      go_wp2_with fail
      refine (appendTerms_any W w3 a' c' s G (.slice a3 t c3) t F HGW.out HS'.out (by omega) HKS'.out HB3.out HT3.out (by omega)).mono ?_
      rintro e w4 ⟨v4, rfl, hT4, hb4⟩
      obtain ⟨a4, c4, rfl⟩ := hT4.form
      have z4 := hb4.size
      have r4 : w4.cell? ⟨w.heap.size + 1 + 1, 0, none⟩ = some (.slice none 0 0) := (hb4.cell zW2).trans r3
      have fr4 : w4.frozen? ⟨w.heap.size + 1 + 1, 0, none⟩ = false := (hb4.frozen zW2).trans fr3
      have HT4 : Hid (TBld w4 W.heap.size (.slice a4 (t + s) c4) (t + s) (catF F t G)) := hT4
      have HB4 : Hid (Below W.heap.size W w4) := HB3.out.trans hb4
      clear hT4 hb4 g3 r3 fr3 HT3
      go_wp2_with fail
      have hal4 : ∀ o, Below w4.heap.size w4 (w4.alloc o) := fun o => (Below.refl _ _).alloc (Nat.le_refl _) o
      refine (appendAbove_any W.heap.size w4 _ (.slice a4 (t + s) c4) (t + s) (catF F t G) 6 (some ⟨w4.heap.size, 0, none⟩) 2 2 w4.heap.size (twoK t s) HT4.out HB4.out.size (by omega) (hal4 _) (Nat.le_refl _) (own_two w4 ((t : Int) - 1) ((t : Int) + s - 1) 3) (fun _ => ⟨Nat.le_refl _, by simp⟩)).mono ?_
      rintro e w5 ⟨v5, rfl, hT5, hb5⟩
      obtain ⟨a5, c5, rfl⟩ := hT5.form
      have hb45 : Below W.heap.size w4 w5 := ((hal4 _).mono HB4.out.size).trans hb5
      have z5 := hb45.size
      have r5 : w5.cell? ⟨w.heap.size + 1 + 1, 0, none⟩ = some (.slice none 0 0) := (hb45.cell zW2).trans r4
      have fr5 : w5.frozen? ⟨w.heap.size + 1 + 1, 0, none⟩ = false := (hb45.frozen zW2).trans fr4
      have HT5 : Hid (TBld w5 W.heap.size (.slice a5 (t + s + 1) c5) (t + s + 1) (andF F t G s)) := hT5
      have HB5 : Hid (Below W.heap.size W w5) := HB4.out.trans hb45
      clear hT5 hb5 hb45 hal4 r4 fr4 HT4
      go_wp2_with fail
      by_cases h20 : t + s < 20
      · refine (filterOf_any W.heap.size _ (t + s + 1) (andF F t G s) _ HT5.out (by omega)).mono ?_
        rintro e w6 ⟨⟨a6, c6, e6, rfl⟩, hb6⟩
        injection e6 with e7 _ e8
        subst e7 e8
        have r6 : w6.cell? ⟨w.heap.size + 1 + 1, 0, none⟩ = some (.slice none 0 0) := (hb6.cell (by show w.heap.size + 1 + 1 < _; omega)).trans r5
        have fr6 : w6.frozen? ⟨w.heap.size + 1 + 1, 0, none⟩ = false := (hb6.frozen (by show w.heap.size + 1 + 1 < _; omega)).trans fr5
        have HT6 : Hid (TBld w6 W.heap.size (.slice a5 (t + s + 1) c5) (t + s + 1) (andF F t G s)) := HT5.out.below hb6
        have HB6 : Hid (Below w.heap.size w w6) := HBW.out.trans ((HB5.out.trans (hb6.mono HB5.out.size)).mono HBW.out.size)
        clear hb6 r5 fr5 HT5
        go_wp2
        exact bodyPost_ret (v := .tuple #[.agg #[.slice a5 (t + s + 1) c5], .bool true]) (by simp [results, Tryz.results25, go_sem, r6]) rfl (AndIs.yes ⟨HG.out, HG'.out, h20⟩ HBW.out.size HT6.out rfl zW2 (HB6.out.setCell (by simp; omega) _))
      · refine (filterOf_no a5 (t + s + 1) c5 _ (by omega) (by omega)).mono ?_
        rintro e w6 ⟨rfl, hb6⟩
        have r6 : w6.cell? ⟨w.heap.size + 1 + 1, 0, none⟩ = some (.slice none 0 0) := (hb6.cell (by show w.heap.size + 1 + 1 < _; omega)).trans r5
        have fr6 : w6.frozen? ⟨w.heap.size + 1 + 1, 0, none⟩ = false := (hb6.frozen (by show w.heap.size + 1 + 1 < _; omega)).trans fr5
        have HB6 : Hid (Below w.heap.size w w6) := HBW.out.trans ((HB5.out.trans (hb6.mono HB5.out.size)).mono HBW.out.size)
        clear hb6 r5 fr5 HT5
        go_wp2
        exact bodyPost_ret (v := .tuple #[.agg #[.slice none 0 0], .bool false]) (by simp [results, Tryz.results25, go_sem, r6]) rfl (AndIs.no (fun h => h20 h.2.2) (HB6.out.setCell (by simp; omega) _))

end Go.Proofs.YtadlflgflnlhjaaGreatDoor
namespace Go.Proofs.YtadlflgflnlhjaaGreatDoor
open Go.RowKit
set_option linter.unusedVariables false

theorem row_empty (W : World) (e : TypeId) (size : Nat) : (W.alloc (.cells #[] e)).ownsRow W.heap.size e size (.slice (some ⟨W.heap.size, 0, none⟩) 0 0) 0 [] :=
  ⟨by simp, .inr ⟨W.heap.size, 0, #[], rfl, Nat.le_refl _, World.alloc_heap_new W _, Nat.le_refl _, Nat.zero_le _, by simp, by simp⟩⟩

set_option maxRecDepth 100000 in
set_option maxHeartbeats 2000000 in
theorem l5OwnValue_any (a : Option Addr) (c n : Nat) (N : Nat → Nd) (w : World) (h : ArgIs w a n N) (hn : n ≤ 2 ^ 20) :
    Calls Tryz.prog 84 #[.agg #[.slice a n c]] w fun e w' => ∃ a' c' g, e = .returned (.agg #[.slice a' n c']) ∧ n ≤ c' ∧ (n ≠ 0 → w.heap.size ≤ g ∧ g < w'.heap.size) ∧ OwnAt w' g (.slice a' n c') n N ∧ Below w.heap.size w w' := by
  have H : Hid (ArgIs w a n N) := h
  clear h
  have HOE : Hid ((((w.alloc (.cells #[.slice a n c] 28)).alloc (.cells #[.slice none 0 0] 28)).alloc (.cells #[] 77)).ownsRow (w.heap.size + 1 + 1) 77 5 (.slice (some ⟨w.heap.size + 1 + 1, 0, none⟩) 0 0) 0 []) := by
    have h := row_empty ((w.alloc (.cells #[.slice a n c] 28)).alloc (.cells #[.slice none 0 0] 28)) 77 5
    show World.ownsRow _ _ _ _ _ _ _
    simpa using h
  have hal : ∀ o o' o'', Below w.heap.size w (((w.alloc o).alloc o').alloc o'') := fun o o' o'' => (((Below.refl _ _).alloc (Nat.le_refl _) o).alloc (by simp) o').alloc (by simp; omega) o''
  go_enter Tryz.func84, Tryz.ntmps84
  go_wp2_with (first | (at_builtin; refine wpList_append_nodes rfl _ _ rfl (w.heap.size + 1 + 1) (.slice (some ⟨w.heap.size + 1 + 1, 0, none⟩) 0 0) rfl HOE.out a n c N rfl (H.out.below (hal _ _ _)) (by omega) (by simp) ?_))
  intro v2 w2 hown2 hg2
  have n30 : n ≤ 2 ^ 30 := by omega
  obtain ⟨av, cv, gv, rfl, hcv, hgv, hov⟩ := own_nodeL hown2 n30
  have z2 := hg2.size
  simp at z2
  have r2 : w2.cell? ⟨w.heap.size + 1, 0, none⟩ = some (.slice none 0 0) := (hg2.cell_far _ (by simp) (by simp [Value.ownBlock])).trans (by simp [go_sem])
  have fr2 : w2.frozen? ⟨w.heap.size + 1, 0, none⟩ = false := (hg2.frozen_far _ (by simp) (by simp [Value.ownBlock])).trans (by simp [go_sem])
  have HB2 : Hid (Below w.heap.size w w2) := (hal _ _ _).grown hg2 (by simp; omega) (fun k hk => by simp [Value.ownBlock] at hk; omega)
  have HGV : Hid (n ≠ 0 → w.heap.size + 1 + 1 ≤ gv ∧ gv < w2.heap.size) := hgv
  have HOV : Hid (OwnAt w2 gv (.slice av n cv) n N) := hov
  have zz : w.heap.size + 1 < w2.heap.size := by omega
  clear hown2 hg2 hov hgv hal HOE
  go_wp2
  refine bodyPost_ret (v := .agg #[.slice av n cv]) (by simp [results, Tryz.results84, go_sem, r2]) rfl ⟨av, cv, gv, rfl, hcv, fun h => ⟨by have := HGV.out h; omega, by have := HGV.out h; simp [World.setCell]; omega⟩, ?_, HB2.out.setCell (by simp) _⟩
  exact HOV.out.butN (BelowBut.setCell _ _ _) (fun h => by have := HGV.out h; omega)

set_option maxRecDepth 100000 in
set_option maxHeartbeats 4000000 in
theorem l5Own_any (w : World) (a : Option Addr) (c t : Nat) (G : Nat → Tm) (by' : Nat) (hG : FArg w a t G) (hs : SmallF t G) (ht : t ≤ 2 ^ 10) (hK : ∀ i, i < t → ∀ j, j < (G i).m → 0 ≤ (G i).K j ∧ (G i).K j ≤ 2 ^ 20) (hby : by' ≤ 2 ^ 10) :
    Calls Tryz.prog 50 #[.slice a t c, .int .i64 (by' : Int)] w fun e w' => ∃ v', e = .returned v' ∧ TBld w' w.heap.size v' t (fun i => shiftT by' (G i)) ∧ Below w.heap.size w w' := by
  have HG : Hid (FArg w a t G) := hG
  have HS : Hid (SmallF t G) := hs
  have HK : Hid (∀ i, i < t → ∀ j, j < (G i).m → 0 ≤ (G i).K j ∧ (G i).K j ≤ 2 ^ 20) := hK
  clear hG hs hK
  obtain ⟨iI, hi, hz0, hz1, hz2⟩ := info_parts infoInt
  have HII : Hid (Tryz.prog.info? 3 = some iI ∧ iI.zero = some (.int .i64 0) ∧ iI.size = 1 ∧ iI.bytes = 8) := ⟨hi, hz0, hz1, hz2⟩
  clear hi hz0 hz1 hz2
  obtain ⟨iT, hi, hz0, hz1, hz2⟩ := info_parts infoTerm
  have HIT : Hid (Tryz.prog.info? 74 = some iT ∧ iT.zero = some (.agg #[.int .i64 0, .string ⟨#[]⟩, .slice none 0 0, .slice none 0 0]) ∧ iT.size = 4 ∧ iT.bytes = 72) := ⟨hi, hz0, hz1, hz2⟩
  clear hi hz0 hz1 hz2
  go_enter Tryz.func50, Tryz.ntmps50
  go_wp2_with fail
  go_loopw [5, 13] (fun v i wr => ∃ (j : Nat) (va : Option Addr) (vc : Nat), j ≤ t ∧ i = .int .i64 (j : Int) ∧ v = .slice va j vc ∧ Below w.heap.size w wr ∧ Hid (TBld wr w.heap.size (.slice va j vc) j (fun i => shiftT by' (G i)))) (fun _ i _ => t - (intOf i).toNat)
  case atStart => exact ⟨0, none, 0, Nat.zero_le _, rfl, rfl, Below.refl _ _, TBld.nil _ _ _⟩
  case round =>
    obtain ⟨j, va, vc, hj, rfl, rfl, hnx, HT⟩ := hrel
    rename World => x0
    by_cases hlt : j < t
    · obtain ⟨b, off, va', vc', ka, kc, rfl, hb, a0, a1, a2, a3, hv, hkk⟩ := HG.out.at hlt
      replace a0 := (hnx.cell hb).trans a0
      replace a1 := (hnx.cell hb).trans a1
      replace a2 := (hnx.cell hb).trans a2
      replace a3 := (hnx.cell hb).trans a3
      have i0 : (0 : Int) ≤ (j : Int) := by omega
      have i1 : (j : Int) < (t : Int) := by omega
      have zB := hnx.size
      have hbw : b < x0.heap.size := by omega
      have HV : Hid (ArgIs w va' (G j).n (G j).N ∧ ArgI w ka (G j).m (G j).K) := ⟨hv, hkk⟩
      have HST : Hid (SmallT (G j)) := HS.out.2 j hlt
      have HKB : Hid (∀ i, i < (G j).m → 0 ≤ (G j).K i ∧ (G j).K i ≤ 2 ^ 20) := HK.out j hlt
      have HNX : Hid (Below w.heap.size w x0) := hnx
      have HCF : Hid (∀ q, q < j + 1 → (if q = j then shiftT by' (G j) else shiftT by' (G q)) = shiftT by' (G q)) := fun q hq => by
        by_cases e : q = j
        · subst e; simp
        · simp [e]
      obtain ⟨y, hy⟩ : ∃ y, y = G j := ⟨_, rfl⟩
      rw [← hy] at a0 a1 a2 a3 HV HST HKB HCF
      clear hv hkk hnx hy
      obtain ⟨kd, p, n, N, m, K⟩ := y
      dsimp only at a0 a1 a2 a3 HV HST HKB HCF
      have m20 : m ≤ 2 ^ 20 := HST.out.2.2
      have n20 : n ≤ 2 ^ 20 := HST.out.2.1.1
      go_wp2_with fail
      obtain ⟨X1, hX1⟩ : ∃ X1, X1 = x0.alloc (.cells #[.int .i64 kd, .string p, .slice va' n vc', .slice ka m kc] 74) := ⟨_, rfl⟩
      have zX : x0.heap.size < X1.heap.size := by rw [hX1]; simp
      have bX : Below x0.heap.size x0 X1 := by rw [hX1]; exact (Below.refl _ _).alloc (Nat.le_refl _) _
      have t0 : X1.cell? ⟨x0.heap.size, 0, none⟩ = some (.int .i64 kd) := by rw [hX1]; simp [World.cell?_alloc_new]
      have t1 : X1.cell? ⟨x0.heap.size, 1, none⟩ = some (.string p) := by rw [hX1]; simp [World.cell?_alloc_new]
      have t2 : X1.cell? ⟨x0.heap.size, 2, none⟩ = some (.slice va' n vc') := by rw [hX1]; simp [World.cell?_alloc_new]
      have t3 : X1.cell? ⟨x0.heap.size, 3, none⟩ = some (.slice ka m kc) := by rw [hX1]; simp [World.cell?_alloc_new]
      have tf : ∀ o, X1.frozen? ⟨x0.heap.size, o, none⟩ = false := fun o => by rw [hX1]; exact World.frozen?_alloc_new _ _ _ _
      rw [← hX1]
      clear hX1 a0 a1 a2 a3
      refine (l5OwnValue_any va' vc' n N X1 (HV.out.1.below (HNX.out.trans (bX.mono zB))) n20).mono ?_
      rintro e w2 ⟨av, cv, gv, rfl, hcv, hgv, hov, hb2⟩
      have z2 := hb2.size
      have u0 : w2.cell? ⟨x0.heap.size, 0, none⟩ = some (.int .i64 kd) := (hb2.cell zX).trans t0
      have u1 : w2.cell? ⟨x0.heap.size, 1, none⟩ = some (.string p) := (hb2.cell zX).trans t1
      have u2 : w2.cell? ⟨x0.heap.size, 2, none⟩ = some (.slice va' n vc') := (hb2.cell zX).trans t2
      have u3 : w2.cell? ⟨x0.heap.size, 3, none⟩ = some (.slice ka m kc) := (hb2.cell zX).trans t3
      have uf2 : w2.frozen? ⟨x0.heap.size, 2, none⟩ = false := (hb2.frozen zX).trans (tf 2)
      have uf3 : w2.frozen? ⟨x0.heap.size, 3, none⟩ = false := (hb2.frozen zX).trans (tf 3)
      obtain ⟨X2, hX2⟩ : ∃ X2, X2 = w2.setCell ⟨x0.heap.size, 2, none⟩ (.slice av n cv) := ⟨_, rfl⟩
      have zX2 : X2.heap.size = w2.heap.size := by rw [hX2]; simp [World.setCell]
      have s0 : X2.cell? ⟨x0.heap.size, 0, none⟩ = some (.int .i64 kd) := by rw [hX2, cell_set (by rw [u2]; rfl), if_neg (by omega)]; exact u0
      have s1 : X2.cell? ⟨x0.heap.size, 1, none⟩ = some (.string p) := by rw [hX2, cell_set (by rw [u2]; rfl), if_neg (by omega)]; exact u1
      have s2 : X2.cell? ⟨x0.heap.size, 2, none⟩ = some (.slice av n cv) := by rw [hX2, cell_set (by rw [u2]; rfl), if_pos rfl]
      have s3 : X2.cell? ⟨x0.heap.size, 3, none⟩ = some (.slice ka m kc) := by rw [hX2, cell_set (by rw [u2]; rfl), if_neg (by omega)]; exact u3
      have sf3 : X2.frozen? ⟨x0.heap.size, 3, none⟩ = false := by rw [hX2, World.frozen?_setCell]; exact uf3
      have bX2 : Below x0.heap.size x0 X2 := by rw [hX2]; exact (bX.trans (hb2.mono (by omega))).setCell (Nat.le_refl _) _
      have HOV : Hid (OwnAt X2 gv (.slice av n cv) n N) := by
        show OwnAt _ _ _ _ _
        rw [hX2]
        exact hov.butN (BelowBut.setCell _ _ _) (fun h => by have := hgv h; omega)
      have HGV : Hid (n ≠ 0 → x0.heap.size < gv ∧ gv < X2.heap.size) := fun h => by have := hgv h; omega
      have HX2 : Hid (X2 = w2.setCell ⟨x0.heap.size, 2, none⟩ (.slice av n cv)) := hX2
      have zX3 : x0.heap.size < X2.heap.size := by omega
      clear hX2 hov hgv hb2 t0 t1 t2 t3 tf u0 u1 uf3 zX2
      go_wp2_with fail
      rw [← HX2.out]
      clear u2 u3 uf2 HX2
      go_loopw [8, 24] (fun kv i wr => ∃ (q : Nat) (ak : Option Addr) (ck : Nat), q ≤ m ∧ i = .int .i64 (q : Int) ∧ kv = .slice ak q ck ∧ Below X2.heap.size X2 wr ∧ Hid (wr.ownsRow X2.heap.size 3 1 (.slice ak q ck) q (kidL (fun i => K i + by') q))) (fun _ i _ => m - (intOf i).toNat)
      case atStart => exact ⟨0, none, 0, Nat.zero_le _, rfl, rfl, Below.refl _ _, World.ownsRow_nil _ _ _ _⟩
      case round =>
        obtain ⟨q, ak, ck, hq, rfl, rfl, hnx2, HR⟩ := hrel
        have z3 := hnx2.size
        by_cases hqm : q < m
        · rcases HV.out.2 with h0 | ⟨b', off', rfl, hb', hat⟩
          · omega
          have hB2 : Below w.heap.size w wr := HNX.out.trans ((bX2.mono zB).trans (hnx2.mono (by omega)))
          have d0 := (hB2.cell hb').trans (hat q hqm)
          obtain ⟨k0, k1⟩ := HKB.out q hqm
          have HKS : Hid (kidL (fun i => K i + by') (q + 1) = kidL (fun i => K i + by') q ++ [.int .i64 (K q + by')]) := rfl
          have HN2 : Hid (Below X2.heap.size X2 wr) := hnx2
          have j0 : (0 : Int) ≤ (q : Int) := by omega
          have j1 : (q : Int) < (m : Int) := by omega
          obtain ⟨x, hx⟩ : ∃ x, x = K q := ⟨_, rfl⟩
          rw [← hx] at d0 k0 k1 HKS
          clear hat hB2 hx hnx2
          go_wp2_with (first | (at_builtin; refine wpList_append_own _ rfl _ _ 72 rfl X2.heap.size 3 iI (.int .i64 0) 1 8 Tryz.underlying72 HII.out.1 HII.out.2.1 HII.out.2.2.1 HII.out.2.2.2 rfl (by decide) _ _ _ rfl (HR.out.alloc _) ⟨wr.heap.size, 0, none⟩ 1 1 [.int .i64 (x + by')] rfl rfl ?c1 ?c2 ?c3 ?c4 ?c5 ?_))
          case c1 => exact one_news _ _ _
          case c2 => intro u hu; simp at hu; subst hu; rfl
          case c3 => unfold maxLen; omega
          case c4 => omega
          case c5 => simp; omega
          intro v' w2 hown' hgrow _
          have HB2 : Hid (Below X2.heap.size X2 w2) := grow_below HR.out _ HN2.out z3 hgrow
          have HR2 : Hid (w2.ownsRow X2.heap.size 3 1 v' (q + 1) (kidL (fun i => K i + by') (q + 1))) := by
            show World.ownsRow _ _ _ _ _ _ _
            rw [HKS.out]
            exact hown'
          obtain ⟨ak', ck', rfl⟩ : ∃ a c, v' = .slice a (q + 1) c := by
            rcases row_open HR2.out with ⟨_, h⟩ | ⟨g, cap, e, _⟩
            · omega
            · exact ⟨_, _, e⟩
          clear hown' hgrow HR HN2 d0
          go_wp2
          go_roundw
          case rel => exact ⟨q + 1, ak', ck', by omega, by go_num, rfl, HB2.out, HR2⟩
          case measure => simp [intOf]; omega
        · obtain rfl : q = m := by omega
          have r0 : wr.cell? ⟨x0.heap.size, 0, none⟩ = some (.int .i64 kd) := (hnx2.cell zX3).trans s0
          have r1 : wr.cell? ⟨x0.heap.size, 1, none⟩ = some (.string p) := (hnx2.cell zX3).trans s1
          have r2 : wr.cell? ⟨x0.heap.size, 2, none⟩ = some (.slice av n cv) := (hnx2.cell zX3).trans s2
          have r3 : wr.cell? ⟨x0.heap.size, 3, none⟩ = some (.slice ka q kc) := (hnx2.cell zX3).trans s3
          have rf3 : wr.frozen? ⟨x0.heap.size, 3, none⟩ = false := (hnx2.frozen zX3).trans sf3
          have q30 : q ≤ 2 ^ 30 := by omega
          obtain ⟨ak', ck', gk, ek, hck, hgk, hok⟩ := own_kidL HR.out q30
          injection ek with e1 e2 e3
          subst e1 e3
          obtain ⟨X3, hX3⟩ : ∃ X3, X3 = wr.setCell ⟨x0.heap.size, 3, none⟩ (.slice ak q ck) := ⟨_, rfl⟩
          have zX4 : X3.heap.size = wr.heap.size := by rw [hX3]; simp [World.setCell]
          have v0 : X3.cell? ⟨x0.heap.size, 0, none⟩ = some (.int .i64 kd) := by rw [hX3, cell_set (by rw [r3]; rfl), if_neg (by omega)]; exact r0
          have v1 : X3.cell? ⟨x0.heap.size, 1, none⟩ = some (.string p) := by rw [hX3, cell_set (by rw [r3]; rfl), if_neg (by omega)]; exact r1
          have v2 : X3.cell? ⟨x0.heap.size, 2, none⟩ = some (.slice av n cv) := by rw [hX3, cell_set (by rw [r3]; rfl), if_neg (by omega)]; exact r2
          have v3 : X3.cell? ⟨x0.heap.size, 3, none⟩ = some (.slice ak q ck) := by rw [hX3, cell_set (by rw [r3]; rfl), if_pos rfl]
          have bX3 : Below x0.heap.size x0 X3 := by rw [hX3]; exact (bX2.trans (hnx2.mono (by omega))).setCell (Nat.le_refl _) _
          have HTO : Hid (TermOwn X3 x0.heap.size X3.heap.size ⟨kd, p, av, n, cv, ak, q, ck⟩ (shiftT by' ⟨kd, p, n, N, q, K⟩)) := by
            refine ⟨rfl, rfl, hcv, hck, gv, gk, fun h => ⟨by have := HGV.out h; omega, by have := HGV.out h; omega⟩, fun h => ⟨by have := hgk h; omega, by have := hgk h; omega⟩, fun h h' => by have := HGV.out h; have := hgk h'; omega, ?_, ?_⟩
            · rw [hX3]; exact (HOV.out.below hnx2).butN (BelowBut.setCell _ _ _) (fun h => by have := HGV.out h; omega)
            · rw [hX3]; exact hok.but (BelowBut.setCell _ _ _) (fun h => by have := hgk h; omega)
          obtain ⟨R, hR⟩ := HT.out.rows
          have HR' : Hid (TBldR x0 w.heap.size (.slice va j vc) j (fun i => shiftT by' (G i)) R) := hR
          have HRW : Hid (X3.ownsRow w.heap.size 74 4 (.slice va j vc) j (termL R j)) := row_keep hR.row bX3
          have HTN : ∀ j u, (tcC ⟨kd, p, av, n, cv, ak, q, ck⟩)[j]? = some u → ((wr.setCell ⟨x0.heap.size, 3, none⟩ (.slice ak q ck)).alloc (.cells #[.int .i64 kd, .string p, .slice av n cv, .slice ak q ck] 74)).cell? ((⟨wr.heap.size, 0, none⟩ : Addr).add j) = some u := by
            have h := tc_news X3 ⟨kd, p, av, n, cv, ak, q, ck⟩ 74
            rw [zX4, hX3] at h
            exact h
          have HRX : Hid ((wr.setCell ⟨x0.heap.size, 3, none⟩ (.slice ak q ck)).ownsRow w.heap.size 74 4 (.slice va j vc) j (termL R j)) := by
            rw [← hX3]
            exact HRW
          have HX3 : Hid (X3 = wr.setCell ⟨x0.heap.size, 3, none⟩ (.slice ak q ck)) := hX3
          have HBX3 : Hid (Below x0.heap.size x0 X3) := bX3
          have HZ4 : Hid (X3.heap.size = wr.heap.size) := zX4
          clear hR hok hgk hX3 s0 s1 s2 s3 sf3 HR HOV HGV hnx2 bX3 v0 v1 v2 v3 zX4
          go_wp2_with (first | (at_builtin; refine wpList_append_lies _ rfl _ _ 40 rfl w.heap.size 74 iT _ 4 72 Tryz.underlying40 HIT.out.1 HIT.out.2.1 HIT.out.2.2.1 HIT.out.2.2.2 rfl (by decide) _ _ _ rfl (HRX.out.alloc _) ⟨wr.heap.size, 0, none⟩ 1 1 (tcC ⟨kd, p, av, n, cv, ak, q, ck⟩) rfl rfl HTN (tc_ones _) (by decide) ?c3 ?c4 ?c5 (wr.heap.size + 1) ?c6 ?_))
          case c3 => unfold maxLen; omega
          case c4 => omega
          case c5 => omega
          intro g cap w3 hown3 hg3 hat3 hlt3
          rw [← HX3.out] at hg3
          have hal2 : Below x0.heap.size x0 (X3.alloc (.cells #[.int .i64 kd, .string p, .slice av n cv, .slice ak q ck] 74)) := HBX3.out.trans ((Below.refl _ _).alloc HBX3.out.size _)
          have hrow := HRW.out
          have z4 := HZ4.out
          have HT3 : Hid (TBld w3 w.heap.size (.slice (some ⟨g, 0, none⟩) (j + 1) cap) (j + 1) (fun i => shiftT by' (G i))) := (TBld.next (u := .slice (some ⟨g, 0, none⟩) (j + 1) cap) HR'.out zB hal2 ((HTO.out.below ((Below.refl _ _).alloc (Nat.le_refl _) _)).wide (Nat.le_refl _) (by simp)) hg3 (by simp; rcases hat3 with h | h; exact .inl h; exact .inr (by omega)) rfl hown3).same HCF.out
          have HB3 : Hid (Below w.heap.size w w3) := (HNX.out.trans (hal2.mono zB)).grown hg3 (by simp; have := HBX3.out.size; omega) (fun b hb => (hrow.lt b hb).1)
          clear hown3 hg3 hat3 hal2 hrow HTN HRW HRX HR' HTO HBX3 HX3 HZ4 z4 r0 r1 r2 r3 rf3
          go_wp2
          go_roundw
          case rel => exact ⟨j + 1, _, cap, by omega, by go_num, rfl, HB3.out, HT3⟩
          case measure => simp [intOf]; omega
    · obtain rfl : j = t := by omega
      go_wp2
      go_ret
      exact ⟨_, rfl, HT.out, hnx⟩

end Go.Proofs.YtadlflgflnlhjaaGreatDoor
namespace Go.Proofs.YtadlflgflnlhjaaGreatDoor
open Go.RowKit
set_option linter.unusedVariables false

theorem termL_cat (R R' : Nat → Tc) (k : Nat) : ∀ s, termL R k ++ termL R' s = termL (fun i => if i < k then R i else R' (i - k)) (k + s) := by
  intro s
  induction s with
  | zero =>
    unfold termL
    simp only [rowL, List.append_nil, Nat.add_zero]
    exact rowL_same k (fun i hi => by simp only [if_pos hi])
  | succ s ih =>
    have e : termL R' (s + 1) = termL R' s ++ tcC (R' s) := rfl
    have e2 : termL (fun i => if i < k then R i else R' (i - k)) (k + s + 1) = termL (fun i => if i < k then R i else R' (i - k)) (k + s) ++ tcC (if k + s < k then R (k + s) else R' (k + s - k)) := rfl
    rw [e, ← List.append_assoc, ih, Nat.add_succ, e2, if_neg (by omega), Nat.add_sub_cancel_left]

/-- One row is put behind another. -/
theorem TBld.cat {w3 w w5 : World} {B : Nat} {v v' : Value} {k s g cap : Nat} {F G : Nat → Tm} {R R' : Nat → Tc} {u : Value} (h : TBldR w3 B v k F R) (hB : B ≤ w3.heap.size) (hb : Below w3.heap.size w3 w) (h' : TBldR w w3.heap.size v' s G R')
    (hg : w.grownBy w5 v.ownBlock) (hat : v.ownBlock = some g ∨ w.heap.size ≤ g) (hu : u = .slice (some ⟨g, 0, none⟩) (k + s) cap) (hown : w5.ownsRow B 74 4 u (k + s) (termL R k ++ termL R' s)) :
    TBld w5 B u (k + s) (fun i => if i < k then F i else G (i - k)) := by
  obtain ⟨P, Q, h1, h2, h3, h4⟩ := h
  obtain ⟨P', Q', h1', h2', h3', h4'⟩ := h'
  have z1 := hb.size
  have z2 := hg.size
  have hold : ∀ q, v.ownBlock = some q → q < w3.heap.size := fun q hq => by
    rcases row_open h1 with ⟨rfl, rfl⟩ | ⟨g', cap', rfl, _, g2, _⟩
    · simp [Value.ownBlock] at hq
    · simp [Value.ownBlock] at hq; omega
  rw [termL_cat] at hown
  refine ⟨_, fun i => if i < k then P i else P' (i - k), fun i => if i < k then Q i else Q' (i - k), hown, fun i hi => ?_, fun i hi => ?_, fun i j hij hj => ?_⟩
  · by_cases e : i < k
    · simp only [if_pos e]
      exact grown_term ((h2 i e).below hb) hg (h3 i e).2.2
    · simp only [if_neg e]
      exact grown_term (h2' (i - k) (by omega)) hg (fun q hq => .inl (by have := hold q hq; have := (h3' (i - k) (by omega)).1; omega))
  · subst hu
    by_cases e : i < k
    · simp only [if_pos e]
      obtain ⟨p1, p2, p3⟩ := h3 i e
      refine ⟨p1, by omega, fun q hq => ?_⟩
      simp [Value.ownBlock] at hq
      subst hq
      rcases hat with h | h
      · exact p3 _ h
      · omega
    · simp only [if_neg e]
      obtain ⟨p1, p2, p3⟩ := h3' (i - k) (by omega)
      refine ⟨by omega, by omega, fun q hq => ?_⟩
      simp [Value.ownBlock] at hq
      subst hq
      rcases hat with h | h
      · have := hold _ h; omega
      · omega
  · by_cases e : j < k
    · have e2 : i < k := by omega
      simp only [if_pos e, if_pos e2]
      exact h4 i j hij e
    · simp only [if_neg e]
      by_cases e2 : i < k
      · simp only [if_pos e2]
        have := (h3 i e2).2.1
        have := (h3' (j - k) (by omega)).1
        omega
      · simp only [if_neg e2]
        exact h4' (i - k) (j - k) (by omega) (by omega)

theorem TBldR.src {w : World} {B : Nat} {v : Value} {s : Nat} {G : Nat → Tm} {R : Nat → Tc} (h : TBldR w B v s G R) (hs : 0 < s) : ∃ g c, v = .slice (some ⟨g, 0, none⟩) s c ∧ ∀ (j : Nat) (u : Value), (termL R s)[j]? = some u → w.cell? ((⟨g, 0, none⟩ : Addr).add j) = some u := by
  rcases row_open h.row with ⟨_, rfl⟩ | ⟨g, cap, rfl, _, _, _, g4, _⟩
  · omega
  · refine ⟨g, cap, rfl, fun j u hu => ?_⟩
    have hl : (termL R s).length = s * 4 := rowL_len (k := 4) (fun _ => rfl) s
    have hj : j < s * 4 := by rw [← hl]; exact (List.getElem?_eq_some_iff.1 hu).1
    rw [show ((⟨g, 0, none⟩ : Addr).add j) = ⟨g, j, none⟩ by unfold Addr.add; split <;> simp_all, g4 j hj]
    exact hu

set_option maxRecDepth 100000 in
set_option maxHeartbeats 4000000 in
theorem specAnd_any (a : Option Addr) (c t : Nat) (F : Nat → Tm) (a' : Option Addr) (c' s : Nat) (G : Nat → Tm) (w : World) (h : FArg w a t F) (hs : SmallF t F) (h' : FArg w a' s G) (hs' : SmallF s G) :
    Calls Tryz.prog 24 #[.agg #[.slice a t c], .agg #[.slice a' s c']] w (AndIs F t G s w) := by
  have H : Hid (FArg w a t F) := h
  have HS : Hid (SmallF t F) := hs
  have H' : Hid (FArg w a' s G) := h'
  have HS' : Hid (SmallF s G) := hs'
  have t20 := hs.1
  have s20 := hs'.1
  clear h hs h' hs'
  go_enter Tryz.func24, Tryz.ntmps24
  go_wp2_with fail
  obtain ⟨W, hW⟩ : ∃ W, W = ((w.alloc (.cells #[.slice a t c] 42)).alloc (.cells #[.slice a' s c'] 42)).alloc (.cells #[.slice none 0 0] 42) := ⟨_, rfl⟩
  have bW : Below w.heap.size w W := by rw [hW]; exact (((Below.refl _ _).alloc (Nat.le_refl _) _).alloc (by simp) _).alloc (by simp; omega) _
  have zW2 : w.heap.size + 1 + 1 < W.heap.size := by rw [hW]; simp
  have zW1 : w.heap.size + 1 < W.heap.size := by omega
  have zW0 : w.heap.size < W.heap.size := by omega
  have f0 : W.cell? ⟨w.heap.size, 0, none⟩ = some (.slice a t c) := by rw [hW]; simp [go_sem]
  have g0 : W.cell? ⟨w.heap.size + 1, 0, none⟩ = some (.slice a' s c') := by rw [hW]; simp [go_sem]
  have r0 : W.cell? ⟨w.heap.size + 1 + 1, 0, none⟩ = some (.slice none 0 0) := by rw [hW]; simp [go_sem]
  have fr0 : W.frozen? ⟨w.heap.size + 1 + 1, 0, none⟩ = false := by rw [hW]; simp [go_sem]
  have HFW : Hid (FArg W a t F) := H.out.below bW
  have HGW : Hid (FArg W a' s G) := H'.out.below bW
  have HBW : Hid (Below w.heap.size w W) := bW
  rw [← hW]
  clear hW
  refine (specGoodF_any a c t F W HFW.out HS.out).mono ?_
  rintro e w1 ⟨q, rfl, hq, hb1⟩
  have z1 := hb1.size
  have f1 : w1.cell? ⟨w.heap.size, 0, none⟩ = some (.slice a t c) := (hb1.cell zW0).trans f0
  have g1 : w1.cell? ⟨w.heap.size + 1, 0, none⟩ = some (.slice a' s c') := (hb1.cell zW1).trans g0
  have r1 : w1.cell? ⟨w.heap.size + 1 + 1, 0, none⟩ = some (.slice none 0 0) := (hb1.cell zW2).trans r0
  have fr1 : w1.frozen? ⟨w.heap.size + 1 + 1, 0, none⟩ = false := (hb1.frozen zW2).trans fr0
  have HB1 : Hid (Below W.heap.size W w1) := hb1
  have HBw1 : Hid (Below w.heap.size w w1) := HBW.out.trans (hb1.mono HBW.out.size)
  clear hb1 bW f0 g0 r0 fr0
  cases q with
  | false =>
    have HN : Hid (¬ AndOK F t G s) := fun h => by simpa using hq.2 h.1
    clear hq
    go_wp2
    exact bodyPost_ret (v := .tuple #[.agg #[.slice none 0 0], .bool false]) (by simp [results, Tryz.results24, go_sem, r1]) rfl (AndIs.no HN.out (HBw1.out.setCell (by simp; omega) _))
  | true =>
    have hg := hq.1 rfl
    have ht20 := hg.1
    have HG : Hid (GoodF F t) := hg
    have HKS : Hid (∀ i, i < t → ∀ j, j < (F i).m → 0 ≤ (F i).K j ∧ (F i).K j ≤ 2 ^ 20) := kids_small hg
    clear hq hg
    go_wp2_with fail
    refine (specGoodF_any a' c' s G w1 (HGW.out.below HB1.out) HS'.out).mono ?_
    rintro e w2 ⟨q, rfl, hq, hb2⟩
    have z2 := hb2.size
    have f2 : w2.cell? ⟨w.heap.size, 0, none⟩ = some (.slice a t c) := (hb2.cell (by show w.heap.size < _; omega)).trans f1
    have g2 : w2.cell? ⟨w.heap.size + 1, 0, none⟩ = some (.slice a' s c') := (hb2.cell (by show w.heap.size + 1 < _; omega)).trans g1
    have r2 : w2.cell? ⟨w.heap.size + 1 + 1, 0, none⟩ = some (.slice none 0 0) := (hb2.cell (by show w.heap.size + 1 + 1 < _; omega)).trans r1
    have fr2 : w2.frozen? ⟨w.heap.size + 1 + 1, 0, none⟩ = false := (hb2.frozen (by show w.heap.size + 1 + 1 < _; omega)).trans fr1
    have HB2 : Hid (Below W.heap.size W w2) := HB1.out.trans (hb2.mono HB1.out.size)
    have HBw2 : Hid (Below w.heap.size w w2) := HBw1.out.trans (hb2.mono HBw1.out.size)
    clear hb2 f1 g1 r1 fr1
    cases q with
    | false =>
      have HN : Hid (¬ AndOK F t G s) := fun h => by simpa using hq.2 h.2.1
      clear hq
      go_wp2
      exact bodyPost_ret (v := .tuple #[.agg #[.slice none 0 0], .bool false]) (by simp [results, Tryz.results24, go_sem, r2]) rfl (AndIs.no HN.out (HBw2.out.setCell (by simp; omega) _))
    | true =>
      have hg := hq.1 rfl
      have hs20 := hg.1
      have HG' : Hid (GoodF G s) := hg
      have HKS' : Hid (∀ i, i < s → ∀ j, j < (G i).m → 0 ≤ (G i).K j ∧ (G i).K j ≤ 2 ^ 20) := kids_small hg
      clear hq hg
      by_cases h20 : t + s < 20
      · have e20 : ¬ (20 : Int) ≤ (t : Int) + (s : Int) := by omega
        obtain ⟨iT, hi, hz0, hz1, hz2⟩ := info_parts infoTerm
        have HIT : Hid (Tryz.prog.info? 74 = some iT ∧ iT.zero = some (.agg #[.int .i64 0, .string ⟨#[]⟩, .slice none 0 0, .slice none 0 0]) ∧ iT.size = 4 ∧ iT.bytes = 72) := ⟨hi, hz0, hz1, hz2⟩
        have zw2 : w.heap.size + 1 + 1 < w2.heap.size := by omega
        have HD2 : Hid (Below w2.heap.size w2 w2.drew) := (Below.refl _ _).drew
        have HFD : Hid (FArg w2.drew a t F) := (HFW.out.below HB2.out).below HD2.out
        have HGD : Hid (FArg w2 a' s G) := HGW.out.below HB2.out
        have HC1 : Hid (Calls Tryz.prog 50 #[.slice a t c, .int .i64 0] w2.drew fun e w' => ∃ v', e = .returned v' ∧ TBld w' w2.drew.heap.size v' t (fun i => shiftT ((0 : Nat) : Int) (F i)) ∧ Below w2.drew.heap.size w2.drew w') := l5Own_any w2.drew a c t F 0 HFD.out HS.out (by omega) HKS.out (by omega)
        have HSK : Hid (∀ w', Below w2.heap.size w2 w' → w'.cell? ⟨w.heap.size, 0, none⟩ = some (.slice a t c) ∧ w'.cell? ⟨w.heap.size + 1, 0, none⟩ = some (.slice a' s c')) := fun w' hb => ⟨(hb.cell (by show w.heap.size < _; omega)).trans f2, (hb.cell (by show w.heap.size + 1 < _; omega)).trans g2⟩
        have HS2 : Hid (w2.cell? ⟨w.heap.size, 0, none⟩ = some (.slice a t c) ∧ w2.cell? ⟨w.heap.size + 1, 0, none⟩ = some (.slice a' s c')) := ⟨f2, g2⟩
        clear hi hz0 hz1 hz2
        go_upto_region 10 with fail
        go_cut [7] (fun l wx => ∃ (g cap : Nat), l = .slice (some ⟨g, 0, none⟩) (t + s) cap ∧ Hid (TBld wx w2.heap.size (.slice (some ⟨g, 0, none⟩) (t + s) cap) (t + s) (catF F t G)) ∧ Hid (Below w2.heap.size w2 wx))
        case first =>
          go_region_held3 (fun w' => w'.cell? ⟨w.heap.size, 0, none⟩ = some (.slice a t c) ∧ w'.cell? ⟨w.heap.size + 1, 0, none⟩ = some (.slice a' s c')) (first | (with_reducible exact HS5) | (with_reducible exact HS4) | (with_reducible exact HS3) | (with_reducible exact HS2.out) | (with_reducible exact HSK.out _ HD2.out) | fail)
            (first | (go_at_call 50; go_fit HC1.out; rintro e w3 ⟨v3, rfl, hT3, hb3⟩; obtain ⟨a3, c3, rfl⟩ := hT3.form; have B23 : Below w2.heap.size w2 w3 := HD2.out.trans hb3; have HS3 := HSK.out w3 B23; have HT3 : Hid (TBld w3 w2.heap.size (.slice a3 t c3) t F) := hT3.same (fun i hi => shiftT_zero _); clear hT3 hb3) | (go_at_call 50; go_fit (l5Own_any w3 a' c' s G t (HGD.out.below B23) HS'.out (by omega) HKS'.out (by omega)); rintro e w4 ⟨v4, rfl, hT4, hb4⟩; obtain ⟨R', hR4⟩ := hT4.rows; obtain ⟨g4, c4, rfl, hnw⟩ := hR4.src (by omega); obtain ⟨R, hR3⟩ := HT3.out.rows; have HRW4 : Hid (w4.ownsRow w2.heap.size 74 4 (.slice a3 t c3) t (termL R t)) := row_keep hR3.row hb4; have B24 : Below w2.heap.size w2 w4 := B23.trans (hb4.mono B23.size); have HS4 := HSK.out w4 B24; have z4 := B24.size) | (refine step_append_lies _ (by rfl) _ _ 40 (by rfl) w2.heap.size 74 iT _ 4 72 Tryz.underlying40 HIT.out.1 HIT.out.2.1 HIT.out.2.2.1 HIT.out.2.2.2 rfl (by decide) (.slice a3 t c3) t (termL R t) (by rfl) HRW4.out ⟨g4, 0, none⟩ s c4 (termL R' s) (by rfl) (rowL_len (k := 4) (fun _ => rfl) s) hnw (rowL_ones (fun i => tc_ones _) s) (by omega) (by unfold maxLen; omega) (by omega) (by omega) w4.heap.size rfl ?_; intro g5 cap5 w5 hown5 hg5 hat5 hlt5; have HT5 : Hid (TBld w5 w2.heap.size (.slice (some ⟨g5, 0, none⟩) (t + s) cap5) (t + s) (catF F t G)) := TBld.cat (u := .slice (some ⟨g5, 0, none⟩) (t + s) cap5) hR3 B23.size hb4 hR4 hg5 (by rcases hat5 with h | h; exact .inl h; exact .inr (by omega)) rfl hown5; have hrow4 := HRW4.out; have B25 : Below w2.heap.size w2 w5 := B24.grown hg5 (by omega) (fun b hb => (hrow4.lt b hb).1); have HB25 : Hid (Below w2.heap.size w2 w5) := B25; have HS5 := HSK.out w5 B25))
          all_goals
            clear HS3 HS4
            go_wp2_with fail
            go_meet
            case rel => exact ⟨_, _, rfl, HT5, HB25⟩
        case rest =>
          obtain ⟨g, cap, rfl, HT5, HB25⟩ := hcut
          have r5 : wc.cell? ⟨w.heap.size + 1 + 1, 0, none⟩ = some (.slice none 0 0) := (HB25.out.cell zw2).trans r2
          have fr5 : wc.frozen? ⟨w.heap.size + 1 + 1, 0, none⟩ = false := (HB25.out.frozen zw2).trans fr2
          have z5 := HB25.out.size
          obtain ⟨X2, hX2⟩ : ∃ X2, X2 = wc.alloc (.cells #[.int .i64 ((t : Int) - 1), .int .i64 ((t : Int) + s - 1)] 3) := ⟨_, rfl⟩
          have bX2 : Below wc.heap.size wc X2 := by rw [hX2]; exact (Below.refl _ _).alloc (Nat.le_refl _) _
          have zX2 : X2.heap.size = wc.heap.size + 1 := by rw [hX2]; simp
          obtain ⟨R, hR⟩ := HT5.out.rows
          have HR : Hid (TBldR wc w2.heap.size (.slice (some ⟨g, 0, none⟩) (t + s) cap) (t + s) (catF F t G) R) := hR
          have HRW : Hid (X2.ownsRow w2.heap.size 74 4 (.slice (some ⟨g, 0, none⟩) (t + s) cap) (t + s) (termL R (t + s))) := row_keep hR.row bX2
          have HRX : Hid ((wc.alloc (.cells #[.int .i64 ((t : Int) - 1), .int .i64 ((t : Int) + s - 1)] 3)).ownsRow w2.heap.size 74 4 (.slice (some ⟨g, 0, none⟩) (t + s) cap) (t + s) (termL R (t + s))) := by
            rw [← hX2]
            exact HRW
          have HTN : ∀ j u, (tcC ⟨6, ⟨#[]⟩, none, 0, 0, some ⟨wc.heap.size, 0, none⟩, 2, 2⟩)[j]? = some u → ((wc.alloc (.cells #[.int .i64 ((t : Int) - 1), .int .i64 ((t : Int) + s - 1)] 3)).alloc (.cells #[.int .i64 6, .string ⟨#[]⟩, .slice none 0 0, .slice (some ⟨wc.heap.size, 0, none⟩) 2 2] 74)).cell? ((⟨wc.heap.size + 1, 0, none⟩ : Addr).add j) = some u := by
            have h := tc_news X2 ⟨6, ⟨#[]⟩, none, 0, 0, some ⟨wc.heap.size, 0, none⟩, 2, 2⟩ 74
            rw [zX2, hX2] at h
            exact h
          have HTO : Hid (TermOwn X2 wc.heap.size X2.heap.size ⟨6, ⟨#[]⟩, none, 0, 0, some ⟨wc.heap.size, 0, none⟩, 2, 2⟩ (aboveT 6 2 (twoK t s))) := ⟨rfl, rfl, Nat.zero_le _, Nat.le_refl _, 0, wc.heap.size, fun h => absurd rfl h, fun _ => ⟨Nat.le_refl _, by omega⟩, fun h => absurd rfl h, ⟨none, 0, 0, rfl, Nat.zero_le _, .inl rfl⟩, by rw [hX2]; exact own_two wc _ _ _⟩
          have HX2 : Hid (X2 = wc.alloc (.cells #[.int .i64 ((t : Int) - 1), .int .i64 ((t : Int) + s - 1)] 3)) := hX2
          have HBX2 : Hid (Below wc.heap.size wc X2) := bX2
          have HZ2 : Hid (X2.heap.size = wc.heap.size + 1) := zX2
          clear hR hX2 bX2 zX2 f2 g2 r2 fr2 HS2 HSK HC1 HGD HFD HD2
          go_wp2_with (first | (at_builtin; refine wpList_append_lies _ rfl _ _ 40 rfl w2.heap.size 74 iT _ 4 72 Tryz.underlying40 HIT.out.1 HIT.out.2.1 HIT.out.2.2.1 HIT.out.2.2.2 rfl (by decide) _ _ _ rfl (HRX.out.alloc _) ⟨wc.heap.size + 1, 0, none⟩ 1 1 (tcC ⟨6, ⟨#[]⟩, none, 0, 0, some ⟨wc.heap.size, 0, none⟩, 2, 2⟩) rfl rfl HTN (tc_ones _) (by decide) ?c3 ?c4 ?c5 (wc.heap.size + 1 + 1) ?c6 ?_))
          case c3 => unfold maxLen; omega
          case c4 => omega
          case c5 => simp; omega
          case c6 => simp
          intro g6 cap6 w6 hown6 hg6 hat6 hlt6
          rw [← HX2.out] at hg6
          have hal2 : Below wc.heap.size wc (X2.alloc (.cells #[.int .i64 6, .string ⟨#[]⟩, .slice none 0 0, .slice (some ⟨wc.heap.size, 0, none⟩) 2 2] 74)) := HBX2.out.trans ((Below.refl _ _).alloc HBX2.out.size _)
          have hrow := HRW.out
          have zz2 := HZ2.out
          have HT6 : Hid (TBld w6 w2.heap.size (.slice (some ⟨g6, 0, none⟩) (t + s + 1) cap6) (t + s + 1) (andF F t G s)) := TBld.next (u := .slice (some ⟨g6, 0, none⟩) (t + s + 1) cap6) HR.out z5 hal2 ((HTO.out.below ((Below.refl _ _).alloc (Nat.le_refl _) _)).wide (Nat.le_refl _) (by simp)) hg6 (by rcases hat6 with h | h; exact .inl h; exact .inr (by simp; omega)) rfl hown6
          have hb26 : Below w2.heap.size w2 w6 := (HB25.out.trans (hal2.mono z5)).grown hg6 (by simp; omega) (fun b hb => (hrow.lt b hb).1)
          have r6 : w6.cell? ⟨w.heap.size + 1 + 1, 0, none⟩ = some (.slice none 0 0) := (hb26.cell zw2).trans ((HB25.out.cell zw2).symm.trans r5)
          have fr6 : w6.frozen? ⟨w.heap.size + 1 + 1, 0, none⟩ = false := (hb26.frozen zw2).trans ((HB25.out.frozen zw2).symm.trans fr5)
          have HB6 : Hid (Below w.heap.size w w6) := HBw2.out.trans (hb26.mono HBw2.out.size)
          clear hown6 hg6 hat6 hal2 hrow HTN HRW HRX HR HTO HBX2 HX2 HZ2 zz2 r5 fr5 hb26 HT5
          go_wp2
          exact bodyPost_ret (v := .tuple #[.agg #[.slice (some ⟨g6, 0, none⟩) (t + s + 1) cap6], .bool true]) (by simp [results, Tryz.results24, go_sem, r6]) rfl (AndIs.yes ⟨HG.out, HG'.out, h20⟩ HBw2.out.size HT6.out rfl zw2 (HB6.out.setCell (by simp; omega) _))
      · have HN : Hid (¬ AndOK F t G s) := fun h => h20 h.2.2
        have e20 : (20 : Int) ≤ (t : Int) + (s : Int) := by omega
        go_wp2
        exact bodyPost_ret (v := .tuple #[.agg #[.slice none 0 0], .bool false]) (by simp [results, Tryz.results24, go_sem, r2]) rfl (AndIs.no HN.out (HBw2.out.setCell (by simp; omega) _))

end Go.Proofs.YtadlflgflnlhjaaGreatDoor
namespace Go.Proofs.YtadlflgflnlhjaaGreatDoor
open Go.RowKit
set_option linter.unusedVariables false

theorem totF_and (F : Nat → Tm) (t : Nat) (G : Nat → Tm) (s : Nat) : totF (andF F t G s) (t + s + 1) ≤ totF F t + totF G s + 2 := by
  have h1 : ∀ j, j ≤ s → totF (andF F t G s) (t + j) = totF F t + totF G j := by
    intro j
    induction j with
    | zero =>
      intro _
      exact totF_same t (fun i hi => by simp [andF, catF, hi, show ¬ i = t + s by omega])
    | succ j ih =>
      intro hj
      have e : totF (andF F t G s) (t + j + 1) = totF (andF F t G s) (t + j) + (andF F t G s (t + j)).n + (andF F t G s (t + j)).m := rfl
      have e2 : totF G (j + 1) = totF G j + (G j).n + (G j).m := rfl
      have e3 : andF F t G s (t + j) = shiftT t (G j) := by
        have h : ¬ t + j < t := by omega
        have h' : ¬ j = s := by omega
        simp [andF, catF, h']
        exact fun hh => absurd hh h
      rw [Nat.add_succ, e, ih (by omega), e2, e3]
      simp only [shiftT]
      omega
  have e : totF (andF F t G s) (t + s + 1) = totF (andF F t G s) (t + s) + (andF F t G s (t + s)).n + (andF F t G s (t + s)).m := rfl
  rw [e, h1 s (Nat.le_refl _)]
  simp [andF, aboveT]

def OneAt (w : World) (B : Nat) (x : Value) : Prop := w.cell? ⟨B, 0, none⟩ = some x ∧ w.frozen? ⟨B, 0, none⟩ = false
theorem OneAt.below {w w' : World} {B Z : Nat} {x : Value} (h : OneAt w B x) (hb : Below Z w w') (hZ : B < Z) : OneAt w' B x := ⟨(hb.cell hZ).trans h.1, (hb.frozen hZ).trans h.2⟩
theorem oneAt_new (w : World) (x : Value) (T : TypeId) : OneAt (w.alloc (.cells #[x] T)) w.heap.size x := ⟨by rw [World.cell?_alloc_new]; rfl, World.frozen?_alloc_new _ _ _ _⟩

/-- What lies behind a call of AndFilters: its answer in a block of its own. -/
def CutF (T : Nat → Bool → Prop) (G : Nat → Tm) (wb wx : World) (b7 : Nat) (a : Option Addr) (u c : Nat) (q : Bool) (bb : Nat) (P Q : Nat → Nat) : Prop :=
  (OneAt wx b7 (.slice a u c) ∧ T u q) ∧ (wb.heap.size ≤ b7 ∧ b7 < wx.heap.size) ∧ Below wb.heap.size wb wx ∧ (u ≠ 0 → (wb.heap.size ≤ bb ∧ bb < wx.heap.size) ∧ bb ≠ b7) ∧ (∀ i, i < u → wb.heap.size ≤ P i ∧ (b7 < P i ∨ Q i ≤ b7)) ∧ FOwn wx bb a u G P Q
theorem cutF_new {T : Nat → Bool → Prop} {G : Nat → Tm} {wb W v5 : World} {a : Option Addr} {u c : Nat} {q : Bool} {bb : Nat} {P Q : Nat → Nat} (hB : Below wb.heap.size wb v5) (hW : wb.heap.size ≤ W.heap.size) (hT : T u q) (hb : u ≠ 0 → W.heap.size ≤ bb ∧ bb < v5.heap.size) (hP : ∀ i, i < u → W.heap.size ≤ P i) (hF : FOwn v5 bb a u G P Q) (Ty : TypeId) : CutF T G wb (v5.alloc (.cells #[.slice a u c] Ty)) v5.heap.size a u c q bb P Q :=
  ⟨⟨oneAt_new v5 _ Ty, hT⟩, ⟨hB.size, by simp⟩, hB.alloc hB.size _, fun h => ⟨⟨by have := hb h; omega, by have := hb h; simp; omega⟩, by have := hb h; omega⟩, fun i hi => ⟨by have := hP i hi; omega, .inr (hF.2.2.1 i hi).2⟩, hF.below ((Below.refl _ _).alloc (Nat.le_refl _) _)⟩
theorem cutF_set {T : Nat → Bool → Prop} {G : Nat → Tm} {wb W v5 : World} {a : Option Addr} {u c yb : Nat} {z : Value} {q : Bool} {bb : Nat} {P Q : Nat → Nat} (hB : Below wb.heap.size wb v5) (hW : wb.heap.size ≤ W.heap.size) (hy : wb.heap.size ≤ yb) (hyW : yb < W.heap.size) (hZ : OneAt v5 yb z) (hT : T u q) (hb : u ≠ 0 → W.heap.size ≤ bb ∧ bb < v5.heap.size) (hP : ∀ i, i < u → W.heap.size ≤ P i) (hF : FOwn v5 bb a u G P Q) : CutF T G wb (v5.setCell ⟨yb, 0, none⟩ (.slice a u c)) yb a u c q bb P Q := by
  have hlt := World.block_lt_of_cell? _ _ hZ.1
  have hbb : BelowBut v5.heap.size yb v5 (v5.setCell ⟨yb, 0, none⟩ (.slice a u c)) := BelowBut.setCell _ _ _
  refine ⟨⟨⟨World.cell?_setCell_same' _ _ _ (by rw [hZ.1]; rfl), (World.frozen?_setCell _ _ _ _).trans hZ.2⟩, hT⟩, ⟨hy, by simpa [World.setCell] using hlt⟩, hB.trans (hbb.below hB.size hy), fun h => ⟨⟨by have := hb h; omega, by have := hb h; simp [World.setCell]; omega⟩, by have := hb h; omega⟩, fun i hi => ⟨by have := hP i hi; omega, .inl (by have := hP i hi; omega)⟩, ?_⟩
  by_cases h0 : u = 0
  · exact ⟨hF.1, .inl h0, fun i hi => by omega, fun i j _ hj => by omega⟩
  · exact hF.but hbb (by have := hb h0; omega) (fun i hi => .inl (by have := hP i hi; omega))

/-- What is told of the answer: how many terms, and whether. -/
def AndT (N : Nat → Tm) (n : Nat) (M : Nat → Tm) (n' : Nat) (u : Nat) (q : Bool) : Prop := (AndOK N n M n' ∧ u = n + n' + 1 ∧ q = true) ∨ (¬ AndOK N n M n' ∧ u = 0 ∧ q = false)
theorem AndT.same {N : Nat → Tm} {n : Nat} {M : Nat → Tm} {n' u u' : Nat} {q q' : Bool} (h : AndT N n M n' u q) (k : AndT N n M n' u' q') : u' = u ∧ q' = q := by
  rcases h with ⟨h1, rfl, rfl⟩ | ⟨h1, rfl, rfl⟩ <;> rcases k with ⟨k1, rfl, rfl⟩ | ⟨k1, rfl, rfl⟩
  · exact ⟨rfl, rfl⟩
  · exact absurd h1 k1
  · exact absurd k1 h1
  · exact ⟨rfl, rfl⟩

set_option maxRecDepth 100000 in
set_option maxHeartbeats 8000000 in
theorem andFilters_law (a : Option Addr) (c n : Nat) (N : Nat → Tm) (a' : Option Addr) (c' n' : Nat) (M : Nat → Tm) (w : World) (hn : n ≤ maxLen) (h : FArg w a n N) (hz : ∀ i, i < n → BigT (N i)) (hn' : n' ≤ maxLen) (h' : FArg w a' n' M) (hz' : ∀ i, i < n' → BigT (M i)) (htab : Tab w.heap.size w) (hml : ML w) :
    Calls Tryz.prog 6 #[.agg #[.slice a n c], .agg #[.slice a' n' c']] w fun e w' => e = .returned (.bool true) ∧ Below w.heap.size w w' := by
  have HZ : Hid (∀ i, i < n → BigT (N i)) := hz
  have HZ' : Hid (∀ i, i < n' → BigT (M i)) := hz'
  have H : Hid (FArg w a n N) := h
  have H' : Hid (FArg w a' n' M) := h'
  have HTB : Hid (Tab w.heap.size w) := htab
  have HML : Hid (ML w) := hml
  clear hz h htab hz' h' hml
  go_enter Tryz.func6, Tryz.ntmps6
  go_wp2_with fail
  have hbl0 : ∀ o o', Below w.heap.size w ((w.alloc o).alloc o') := fun o o' => ((Below.refl _ _).alloc (Nat.le_refl _) o).alloc (by simp) o'
  refine (szFilter_less a c n N 1048576 (by decide) (by decide) _ hn (H.out.below (hbl0 _ _)) HZ.out).mono ?_
  rintro e w1 ⟨r, rfl, hr, hb1⟩
  have x1 : w1.cell? ⟨w.heap.size, 0, none⟩ = some (.slice a n c) := by rw [hb1.cell (by simp; omega)]; simp [go_sem]
  have y1 : w1.cell? ⟨w.heap.size + 1, 0, none⟩ = some (.slice a' n' c') := by rw [hb1.cell (by simp)]; simp [go_sem]
  have HB1 : Hid (Below w.heap.size w w1) := (hbl0 _ _).trans (hb1.mono (by simp; omega))
  have z1 : w.heap.size + 1 < w1.heap.size := by have := hb1.size; simp at this; omega
  have z1' : w.heap.size < w1.heap.size := by omega
  clear hb1 hbl0
  rcases hr with rfl | ⟨r0, rt, hsm⟩
  · go_wp2
    go_ret
    exact ⟨rfl, HB1.out⟩
  have HSM : Hid (SmallF n N) := hsm
  have n20 : n ≤ 2 ^ 20 := hsm.1
  have HTN : Hid (totF N n ≤ 2 ^ 20) := by show totF N n ≤ 2 ^ 20; omega
  have HFT : Hid (∀ i, i < n → FitT (N i)) := fun i hi => (hsm.2 i hi).fit
  have r20 : r ≤ 2 ^ 20 := by omega
  have r1 : ¬ r < 0 := by omega
  clear hsm rt
  go_wp2_with fail
  refine (szFilter_less a' c' n' M r r0 r20 _ hn' (H'.out.below HB1.out) HZ'.out).mono ?_
  rintro e w2 ⟨r', rfl, hr, hb2⟩
  have x2 : w2.cell? ⟨w.heap.size, 0, none⟩ = some (.slice a n c) := (hb2.cell z1').trans x1
  have y2 : w2.cell? ⟨w.heap.size + 1, 0, none⟩ = some (.slice a' n' c') := (hb2.cell z1).trans y1
  have HB2 : Hid (Below w.heap.size w w2) := HB1.out.trans (hb2.mono HB1.out.size)
  have z2 : w.heap.size + 1 < w2.heap.size := by have := hb2.size; omega
  have z2' : w.heap.size < w2.heap.size := by omega
  clear hb2
  rcases hr with rfl | ⟨r0', rt', hsm⟩
  · go_wp2
    go_ret
    exact ⟨rfl, HB2.out⟩
  have HSM' : Hid (SmallF n' M) := hsm
  have n20' : n' ≤ 2 ^ 20 := hsm.1
  have HTN' : Hid (totF M n' ≤ 2 ^ 20) := by show totF M n' ≤ 2 ^ 20; omega
  have HFT' : Hid (∀ i, i < n' → FitT (M i)) := fun i hi => (hsm.2 i hi).fit
  have r1' : ¬ r' < 0 := by omega
  have HFG : Hid (∀ i, i < n + n' + 1 → FitT (andF N n M n' i)) := fun i hi => by
    by_cases e : i = n + n'
    · subst e; simp [andF, aboveT, FitT]
    · by_cases e2 : i < n
      · have := HFT.out i e2
        simpa [andF, catF, e, e2] using this
      · have := HFT'.out (i - n) (by omega)
        simpa [andF, catF, e, e2, shiftT, FitT] using this
  have HTG : Hid (totF (andF N n M n') (n + n' + 1) ≤ 2 ^ 21 + 2) := by
    have h1 := totF_and N n M n'
    have h2 := HTN.out
    have h3 := HTN'.out
    show _ ≤ _
    omega
  obtain ⟨G, hG⟩ : ∃ G, G = andF N n M n' := ⟨_, rfl⟩
  rw [← hG] at HFG HTG
  have HGE : Hid (G = andF N n M n') := hG
  clear hsm x1 y1 rt' hG
  have HC1 : Hid (∀ W, Below w2.heap.size w2 W → _) := fun W hW => toFilter_any a c n N W HSM.out (H.out.below (HB2.out.trans (hW.mono HB2.out.size)))
  have HC2 : Hid (∀ W, Below w2.heap.size w2 W → _) := fun W hW => toFilter_any a' c' n' M W HSM'.out (H'.out.below (HB2.out.trans (hW.mono HB2.out.size)))
  have HC3 : Hid (∀ (W : World) (a3 : Option Addr) (c3 : Nat) (a4 : Option Addr) (c4 : Nat), Below w2.heap.size w2 W → FArg W a3 n N → FArg W a4 n' M → Calls Tryz.prog 24 #[.agg #[.slice a3 n c3], .agg #[.slice a4 n' c4]] W (AndIs N n M n' W)) := fun W a3 c3 a4 c4 hW h3 h4 => specAnd_any a3 c3 n N a4 c4 n' M W h3 HSM.out h4 HSM'.out
  have HSK : Hid (∀ w', Below w2.heap.size w2 w' → (w'.cell? ⟨w.heap.size, 0, none⟩ = some (.slice a n c) ∧ w'.cell? ⟨w.heap.size + 1, 0, none⟩ = some (.slice a' n' c'))) := fun w' hb => ⟨(hb.cell (by show w.heap.size < _; omega)).trans x2, (hb.cell (by show w.heap.size + 1 < _; omega)).trans y2⟩
  have HS2 : Hid (w2.cell? ⟨w.heap.size, 0, none⟩ = some (.slice a n c) ∧ w2.cell? ⟨w.heap.size + 1, 0, none⟩ = some (.slice a' n' c')) := ⟨x2, y2⟩
  have HBd : Hid (Below w2.heap.size w2 w2.drew) := (Below.refl _ _).drew
  have HBa : Hid (Below w2.heap.size w2 ((w2.alloc (.cells #[.slice none 0 0] 42)).drew)) := ((Below.refl _ _).alloc (Nat.le_refl _) _).drew
  have HBb : Hid (Below w2.heap.size w2 (w2.alloc (.cells #[.slice none 0 0] 42))) := (Below.refl _ _).alloc (Nat.le_refl _) _
  have HFa : Hid (OneAt ((w2.alloc (.cells #[.slice none 0 0] 42)).drew) w2.heap.size (.slice none 0 0)) := oneAt_new w2 (.slice none 0 0) 42
  go_upto_region 10 with fail
  go_cut [6, 7] (fun p q wx => ∃ (b7 : Nat) (a7 : Option Addr) (u7 c7 : Nat) (q7 : Bool) (bb7 : Nat) (P7 Q7 : Nat → Nat), p = .pointer (some ⟨b7, 0, none⟩) ∧ q = .bool q7 ∧ Hid (CutF (AndT N n M n') G w2 wx b7 a7 u7 c7 q7 bb7 P7 Q7))
  case first =>
    go_region_held3 (fun w' => w'.cell? ⟨w.heap.size, 0, none⟩ = some (.slice a n c) ∧ w'.cell? ⟨w.heap.size + 1, 0, none⟩ = some (.slice a' n' c')) (first | (with_reducible exact HS6) | (with_reducible exact HS5) | (with_reducible exact HS4) | (with_reducible exact HS3) | (with_reducible exact HSK.out _ (hB5.alloc hB5.size _)) | (with_reducible exact HSK.out _ (hB4.alloc hB4.size _)) | (with_reducible exact HSK.out _ (hB3.alloc hB3.size _)) | (with_reducible exact HSK.out _ HBa.out) | (with_reducible exact HSK.out _ HBd.out) | (with_reducible exact HS2.out) | (with_reducible exact HSK.out _ HBb.out) | fail)
      (first | (go_at_call 17; go_fit (HC1.out w2.drew HBd.out); rintro e v3 ⟨a3, c3, rfl, ho3, hb3⟩; have hB3 : Below w2.heap.size w2 v3 := HBd.out.trans hb3; have zz3 : w2.heap.size ≤ v3.heap.size := hB3.size; have HS3 := HSK.out v3 hB3; have HO3 : Hid (FArg v3 a3 n N) := ho3.arg; clear ho3 hb3) | (go_at_call 17; go_fit (HC1.out ((w2.alloc (.cells #[.slice none 0 0] 42)).drew) HBa.out); rintro e v3 ⟨a3, c3, rfl, ho3, hb3⟩; have hB3 : Below w2.heap.size w2 v3 := HBa.out.trans (hb3.mono (by show _ ≤ (w2.alloc _).heap.size; simp)); have zz3 : w2.heap.size + 1 ≤ v3.heap.size := (by have := hb3.size; change (w2.alloc _).heap.size ≤ _ at this; rw [World.size_alloc] at this; exact this); have HS3 := HSK.out v3 hB3; have HO3 : Hid (FArg v3 a3 n N) := ho3.arg; have HZ3 : Hid (OneAt v3 w2.heap.size (.slice none 0 0)) := HFa.out.below hb3 (by show _ < (w2.alloc _).heap.size; simp); clear ho3 hb3) | (go_at_call 17; go_fit (HC2.out v3 hB3); rintro e v4 ⟨a4, c4, rfl, ho4, hb4⟩; have HZ4 : Hid (OneAt v4 w2.heap.size (.slice none 0 0)) := HZ3.out.below hb4 (by omega); have hB4 : Below w2.heap.size w2 v4 := hB3.trans (hb4.mono hB3.size); have zz4 : w2.heap.size + 1 ≤ v4.heap.size := Nat.le_trans zz3 hb4.size; have HS4 := HSK.out v4 hB4; have HO34 : Hid (FArg v4 a3 n N) := HO3.out.below hb4; have HO4 : Hid (FArg v4 a4 n' M) := ho4.arg; clear ho4 hb4) | (go_at_call 17; go_fit (HC2.out v3 hB3); rintro e v4 ⟨a4, c4, rfl, ho4, hb4⟩; have hB4 : Below w2.heap.size w2 v4 := hB3.trans (hb4.mono hB3.size); have zz4 : w2.heap.size ≤ v4.heap.size := hB4.size; have HS4 := HSK.out v4 hB4; have HO34 : Hid (FArg v4 a3 n N) := HO3.out.below hb4; have HO4 : Hid (FArg v4 a4 n' M) := ho4.arg; clear ho4 hb4) | (go_at_call 17; go_fit (HC2.out (v3.alloc (.cells #[.slice none 0 0] 42)) (hB3.alloc hB3.size _)); rintro e v4 ⟨a4, c4, rfl, ho4, hb4⟩; have HY4 : Hid (OneAt v4 v3.heap.size (.slice none 0 0)) := (oneAt_new v3 (.slice none 0 0) 42).below hb4 (by simp); have hB4 : Below w2.heap.size w2 v4 := (hB3.alloc hB3.size _).trans (hb4.mono (by simp; omega)); have zz4 : v3.heap.size + 1 ≤ v4.heap.size := (by have := hb4.size; rw [World.size_alloc] at this; exact this); have HS4 := HSK.out v4 hB4; have HO34 : Hid (FArg v4 a3 n N) := (HO3.out.below ((Below.refl _ _).alloc (Nat.le_refl _) _)).below hb4; have HO4 : Hid (FArg v4 a4 n' M) := ho4.arg; clear ho4 hb4) | (go_at_call 24; go_fit (HC3.out v4 a3 c3 a4 c4 hB4 HO34.out HO4.out); rintro e v5 ⟨u5, q5, hq5, a5, c5, b5, P5, Q5, rfl, hr5, hP5, hF5, hb5⟩; rw [← HGE.out] at hF5; have hB5 : Below w2.heap.size w2 v5 := hB4.trans (hb5.mono hB4.size); have HS5 := HSK.out v5 hB5; have HZ5 : Hid (OneAt v5 w2.heap.size (.slice none 0 0)) := HZ4.out.below hb5 (by omega); have HGG : Hid (CutF (AndT N n M n') G w2 (v5.setCell ⟨w2.heap.size, 0, none⟩ (.slice a5 u5 c5)) w2.heap.size a5 u5 c5 q5 b5 P5 Q5) := cutF_set (W := v4) hB5 hB4.size (Nat.le_refl _) (by omega) HZ5.out hq5 hr5 hP5 hF5; have HS6 := HSK.out _ HGG.out.2.2.1; obtain ⟨q0, g0⟩ := HZ5.out; clear hq5 hr5 hP5 hF5 hb5) | (go_at_call 24; go_fit (HC3.out v4 a3 c3 a4 c4 hB4 HO34.out HO4.out); rintro e v5 ⟨u5, q5, hq5, a5, c5, b5, P5, Q5, rfl, hr5, hP5, hF5, hb5⟩; rw [← HGE.out] at hF5; have hB5 : Below w2.heap.size w2 v5 := hB4.trans (hb5.mono hB4.size); have HS5 := HSK.out v5 hB5; have HZ5 : Hid (OneAt v5 v3.heap.size (.slice none 0 0)) := HY4.out.below hb5 (by omega); have HGG : Hid (CutF (AndT N n M n') G w2 (v5.setCell ⟨v3.heap.size, 0, none⟩ (.slice a5 u5 c5)) v3.heap.size a5 u5 c5 q5 b5 P5 Q5) := cutF_set (W := v4) hB5 hB4.size zz3 (by omega) HZ5.out hq5 hr5 hP5 hF5; have HS6 := HSK.out _ HGG.out.2.2.1; obtain ⟨q0, g0⟩ := HZ5.out; clear hq5 hr5 hP5 hF5 hb5) | (go_at_call 24; go_fit (HC3.out v4 a3 c3 a4 c4 hB4 HO34.out HO4.out); rintro e v5 ⟨u5, q5, hq5, a5, c5, b5, P5, Q5, rfl, hr5, hP5, hF5, hb5⟩; rw [← HGE.out] at hF5; have hB5 : Below w2.heap.size w2 v5 := hB4.trans (hb5.mono hB4.size); have HS5 := HSK.out v5 hB5; have HGG : Hid (CutF (AndT N n M n') G w2 (v5.alloc (.cells #[.slice a5 u5 c5] 42)) v5.heap.size a5 u5 c5 q5 b5 P5 Q5) := cutF_new (W := v4) hB5 hB4.size hq5 hr5 hP5 hF5 _; clear hq5 hr5 hP5 hF5 hb5) | (go_at_call 24; go_fit (HC3.out (v4.alloc (.cells #[.slice none 0 0] 42)) a3 c3 a4 c4 (hB4.alloc hB4.size _) (HO34.out.below ((Below.refl _ _).alloc (Nat.le_refl _) _)) (HO4.out.below ((Below.refl _ _).alloc (Nat.le_refl _) _))); rintro e v5 ⟨u5, q5, hq5, a5, c5, b5, P5, Q5, rfl, hr5, hP5, hF5, hb5⟩; rw [← HGE.out] at hF5; have hB5 : Below w2.heap.size w2 v5 := (hB4.alloc hB4.size _).trans (hb5.mono (by simp; omega)); have HS5 := HSK.out v5 hB5; have HZ5 : Hid (OneAt v5 v4.heap.size (.slice none 0 0)) := (oneAt_new v4 (.slice none 0 0) 42).below hb5 (by simp); have HGG : Hid (CutF (AndT N n M n') G w2 (v5.setCell ⟨v4.heap.size, 0, none⟩ (.slice a5 u5 c5)) v4.heap.size a5 u5 c5 q5 b5 P5 Q5) := cutF_set (W := v4.alloc (.cells #[.slice none 0 0] 42)) hB5 (by simp; omega) zz4 (by simp) HZ5.out hq5 hr5 hP5 hF5; have HS6 := HSK.out _ HGG.out.2.2.1; obtain ⟨q0, g0⟩ := HZ5.out; clear hq5 hr5 hP5 hF5 hb5))
    all_goals
      clear HS3 HS4 HS5
      go_wp2_with fail
      go_meet
      case rel => exact ⟨_, _, _, _, _, _, _, _, rfl, rfl, HGG⟩
  case rest =>
    obtain ⟨b7, a3, u, c3, q, b3, P3, Q3, rfl, rfl, HGG⟩ := hcut
    obtain ⟨⟨⟨u3, _⟩, hq7⟩, hb7, hB7, hg7, hP7, ho7⟩ := HGG.out
    have HQ : Hid (AndT N n M n' u q) := hq7
    have hu : u ≤ n + n' + 1 := by rcases hq7 with h | h; omega; omega
    have u21 : u ≤ 21 := by rcases hq7 with h | h; have := h.1.2.2; omega; omega
    have HU : Hid (totF G u ≤ 2 ^ 22 ∧ ∀ i, i < u → FitT (G i)) := by
      have h1 := totF_mono G hu
      have h2 := HTG.out
      exact ⟨by omega, fun i hi => HFG.out i (by omega)⟩
    have HL3 : Hid ((u ≠ 0 → b3 < wc.heap.size) ∧ ∀ i, i < u → Q3 i ≤ wc.heap.size) := ⟨fun h => (hg7 h).1.2, fun i hi => (ho7.2.2.1 i hi).2⟩
    have HK5 : Hid (FOwn wc b3 a3 u G P3 Q3) := ho7
    have x5 : wc.cell? ⟨w.heap.size, 0, none⟩ = some (.slice a n c) := (hB7.cell z2').trans x2
    have y5 : wc.cell? ⟨w.heap.size + 1, 0, none⟩ = some (.slice a' n' c') := (hB7.cell z2).trans y2
    have HB5 : Hid (Below w.heap.size w wc) := HB2.out.trans (hB7.mono HB2.out.size)
    have zb7 := hb7.2
    have zb7' : w.heap.size + 1 < b7 := by omega
    have z5 : w.heap.size + 1 < wc.heap.size := by omega
    have z5' : w.heap.size < wc.heap.size := by omega
    have u40 : u ≤ 2 ^ 40 := by omega
    have n40 : n ≤ 2 ^ 40 := by omega
    have n40' : n' ≤ 2 ^ 40 := by omega
    clear HGG hq7 hb7 hB7 hg7 hP7 ho7 HC1 HC2 HC3 HSK HS2 HBd HBa HBb HFa x2 y2
    go_wp2_with fail
    refine (toFilter_any a c n N _ HSM.out (H.out.below HB5.out)).mono ?_
    rintro e w6 ⟨a6, c6, rfl, ho6, hb6⟩
    obtain ⟨_, b6, P6, Q6, hb6a, hb6b, hP6, hF6⟩ := ho6
    have z56 := hb6.size
    have x6 : w6.cell? ⟨w.heap.size, 0, none⟩ = some (.slice a n c) := (hb6.cell z5').trans x5
    have y6 : w6.cell? ⟨w.heap.size + 1, 0, none⟩ = some (.slice a' n' c') := (hb6.cell z5).trans y5
    have u6 : w6.cell? ⟨b7, 0, none⟩ = some (.slice a3 u c3) := (hb6.cell zb7).trans u3
    have HB6 : Hid (Below w.heap.size w w6) := HB5.out.trans (hb6.mono HB5.out.size)
    have HO6 : Hid (FOwn w6 b6 a6 n N P6 Q6) := hF6
    have HR6 : Hid ((wc.heap.size ≤ b6 ∧ b6 < w6.heap.size) ∧ ∀ i, i < n → wc.heap.size ≤ P6 i ∧ Q6 i ≤ w6.heap.size) := ⟨⟨hb6a, hb6b⟩, fun i hi => ⟨hP6 i hi, (hF6.2.2.1 i hi).2⟩⟩
    have HK6 : Hid (FOwn w6 b3 a3 u G P3 Q3) := HK5.out.below hb6
    have z6 : w.heap.size + 1 < w6.heap.size := by omega
    have z6' : w.heap.size < w6.heap.size := by omega
    have z6b : b7 < w6.heap.size := by omega
    clear hF6 hb6 hb6a hb6b hP6 HK5 x5 y5 u3
    go_wp2_with fail
    have al6 : ∀ o, Below w6.heap.size w6 (w6.alloc o) := fun o => (Below.refl _ _).alloc (Nat.le_refl _) o
    refine (toFilter_any a' c' n' M _ HSM'.out (H'.out.below (HB6.out.trans ((al6 _).mono HB6.out.size)))).mono ?_
    rintro e w7 ⟨a7, c7, rfl, ho7, hb7⟩
    obtain ⟨_, b7x, P7, Q7, hb7a, hb7b, hP7, hF7⟩ := ho7
    have z67 := hb7.size
    simp at z67 hb7a hP7
    have B67 : Below w6.heap.size w6 w7 := (al6 _).trans (hb7.mono (by simp))
    have x7 : w7.cell? ⟨w.heap.size, 0, none⟩ = some (.slice a n c) := (B67.cell z6').trans x6
    have y7 : w7.cell? ⟨w.heap.size + 1, 0, none⟩ = some (.slice a' n' c') := (B67.cell z6).trans y6
    have u7 : w7.cell? ⟨b7, 0, none⟩ = some (.slice a3 u c3) := (B67.cell z6b).trans u6
    have v7 : w7.cell? ⟨w6.heap.size, 0, none⟩ = some (.slice a6 n c6) := by rw [hb7.cell (by simp)]; simp [World.cell?_alloc_new]
    have HB7 : Hid (Below w.heap.size w w7) := HB6.out.trans (B67.mono HB6.out.size)
    have HO67 : Hid (FOwn w7 b6 a6 n N P6 Q6) := HO6.out.below B67
    have HO7 : Hid (FOwn w7 b7x a7 n' M P7 Q7) := hF7
    have HR7 : Hid ((w6.heap.size < b7x ∧ b7x < w7.heap.size) ∧ ∀ i, i < n' → w6.heap.size < P7 i ∧ Q7 i ≤ w7.heap.size) := ⟨⟨by omega, hb7b⟩, fun i hi => ⟨by have := hP7 i hi; omega, (hF7.2.2.1 i hi).2⟩⟩
    have HK7 : Hid (FOwn w7 b3 a3 u G P3 Q3) := HK6.out.below B67
    have z7 : w.heap.size + 1 < w7.heap.size := by omega
    have z7' : w.heap.size < w7.heap.size := by omega
    have z7u : w6.heap.size < w7.heap.size := by omega
    have z7b : b7 < w7.heap.size := by omega
    clear hF7 hb7 hb7a hb7b hP7 x6 y6 u6 B67 al6 HO6 HK6
    go_wp2_with fail
    have al7 : ∀ o, Below w7.heap.size w7 (w7.alloc o) := fun o => (Below.refl _ _).alloc (Nat.le_refl _) o
    refine (implAnd_any a6 c6 n N a7 c7 n' M _ (HO67.out.below (al7 _)).arg HSM.out (HO7.out.below (al7 _)).arg HSM'.out (HTB.out.up (HB7.out.trans ((al7 _).mono HB7.out.size))) (HML.out.below (HB7.out.trans ((al7 _).mono HB7.out.size)))).mono ?_
    rintro e w8 ⟨u8', q8, hq8, a8, c8, b8, P8, Q8, rfl, hr8, hP8, hF8, hb8⟩
    obtain ⟨hue, hqe⟩ : u8' = u ∧ q8 = q := HQ.out.same hq8
    subst hue hqe
    have z78 := hb8.size
    simp at z78
    have B78 : Below w7.heap.size w7 w8 := (al7 _).trans (hb8.mono (by simp))
    have x8 : w8.cell? ⟨w.heap.size, 0, none⟩ = some (.slice a n c) := (B78.cell (by show w.heap.size < _; omega)).trans x7
    have y8 : w8.cell? ⟨w.heap.size + 1, 0, none⟩ = some (.slice a' n' c') := (B78.cell (by show w.heap.size + 1 < _; omega)).trans y7
    have u8 : w8.cell? ⟨b7, 0, none⟩ = some (.slice a3 u8' c3) := (B78.cell (by show b7 < _; omega)).trans u7
    have v8 : w8.cell? ⟨w6.heap.size, 0, none⟩ = some (.slice a6 n c6) := (B78.cell (by show w6.heap.size < _; omega)).trans v7
    have HB8 : Hid (Below w.heap.size w w8) := HB7.out.trans (B78.mono HB7.out.size)
    have t8 : w8.cell? ⟨w7.heap.size, 0, none⟩ = some (.slice a7 n' c7) := by rw [hb8.cell (by simp)]; simp [World.cell?_alloc_new]
    have HO68 : Hid (FOwn w8 b6 a6 n N P6 Q6) := HO67.out.below B78
    have HO78 : Hid (FOwn w8 b7x a7 n' M P7 Q7) := HO7.out.below B78
    have HK8 : Hid (FOwn w8 b3 a3 u8' G P3 Q3) := HK7.out.below B78
    have HG8 : Hid (FOwn w8 b8 a8 u8' G P8 Q8) := by rw [HGE.out]; exact hF8
    have HR8 : Hid ((u8' ≠ 0 → w7.heap.size < b8 ∧ b8 < w8.heap.size) ∧ ∀ i, i < u8' → w7.heap.size < P8 i ∧ Q8 i ≤ w8.heap.size) := ⟨fun h => by have := hr8 h; simp at this; omega, fun i hi => ⟨by have := hP8 i hi; simp at this; omega, (hF8.2.2.1 i hi).2⟩⟩
    have z8 : w.heap.size + 1 < w8.heap.size := by omega
    have z8' : w.heap.size < w8.heap.size := by omega
    have z8u : w6.heap.size < w8.heap.size := by omega
    have z8v : w7.heap.size < w8.heap.size := by omega
    have z8b : b7 < w8.heap.size := by omega
    clear hb8 hq8 hr8 hP8 hF8 B78 al7 HO67 HO7 HK7 x7 y7 u7 v7
    go_wp2_with fail
    have al8 : ∀ o, Below w8.heap.size w8 (w8.alloc o) := fun o => (Below.refl _ _).alloc (Nat.le_refl _) o
    refine (eqFilter_same a8 a3 c8 c3 u8' G _ u40 HU.out.2 (HG8.out.below (al8 _)).arg (HK8.out.below (al8 _)).arg).mono ?_
    rintro e w9 ⟨rfl, hb9⟩
    have B89 : Below w8.heap.size w8 w9 := (al8 _).trans (hb9.mono (by simp))
    have z89 := hb9.size
    simp at z89
    have x9 : w9.cell? ⟨w.heap.size, 0, none⟩ = some (.slice a n c) := (B89.cell (by show w.heap.size < _; omega)).trans x8
    have y9 : w9.cell? ⟨w.heap.size + 1, 0, none⟩ = some (.slice a' n' c') := (B89.cell (by show w.heap.size + 1 < _; omega)).trans y8
    have u9 : w9.cell? ⟨b7, 0, none⟩ = some (.slice a3 u8' c3) := (B89.cell (by show b7 < _; omega)).trans u8
    have v9 : w9.cell? ⟨w6.heap.size, 0, none⟩ = some (.slice a6 n c6) := (B89.cell (by show w6.heap.size < _; omega)).trans v8
    have t9 : w9.cell? ⟨w7.heap.size, 0, none⟩ = some (.slice a7 n' c7) := (B89.cell (by show w7.heap.size < _; omega)).trans t8
    have HB9 : Hid (Below w.heap.size w w9) := HB8.out.trans (B89.mono HB8.out.size)
    have p9 : w9.cell? ⟨w8.heap.size, 0, none⟩ = some (.slice a8 u8' c8) := by rw [hb9.cell (by simp)]; simp [World.cell?_alloc_new]
    have HO69 : Hid (FOwn w9 b6 a6 n N P6 Q6) := HO68.out.below B89
    have HO79 : Hid (FOwn w9 b7x a7 n' M P7 Q7) := HO78.out.below B89
    have HK9 : Hid (FOwn w9 b3 a3 u8' G P3 Q3) := HK8.out.below B89
    have HG9 : Hid (FOwn w9 b8 a8 u8' G P8 Q8) := HG8.out.below B89
    clear hb9 B89 al8 HO68 HO78 HK8 HG8 x8 y8 u8 v8 t8
    have z9 : w.heap.size + 1 < w9.heap.size := by omega
    have z9' : w.heap.size < w9.heap.size := by omega
    have z9u : w6.heap.size < w9.heap.size := by omega
    have z9v : w7.heap.size < w9.heap.size := by omega
    go_wp2_with fail
    go_region_held3 (fun w' => w'.cell? ⟨w.heap.size, 0, none⟩ = some (.slice a n c) ∧ w'.cell? ⟨w6.heap.size, 0, none⟩ = some (.slice a6 n c6)) (first | exact ⟨x9, v9⟩ | exact ⟨x10, v10⟩ | exact ⟨x11, v11⟩ | fail)
      (first | (go_at_call 17; go_fit (toFilter_any a c n N w9.drew HSM.out (H.out.below HB9.out.drew)); rintro e w10 ⟨a10, c10, rfl, ho10, hb10⟩; have x10 := (hb10.cell (p := ⟨w.heap.size, 0, none⟩) z9').trans x9; have v10 := (hb10.cell (p := ⟨w6.heap.size, 0, none⟩) z9u).trans v9; have zz10 : w9.heap.size ≤ w10.heap.size := hb10.size; have B910 : Below w9.heap.size w9 w10 := (Below.drew (Below.refl w9.heap.size w9)).trans hb10) | (go_at_call 19; refine (eqFilter_same a6 a10 c6 c10 n N _ n40 HFT.out (HO69.out.below B910).arg ho10.arg).mono ?_; rintro e w11 ⟨rfl, hb11⟩; have x11 := (hb11.cell (p := ⟨w.heap.size, 0, none⟩) (Nat.lt_of_lt_of_le z9' zz10)).trans x10; have v11 := (hb11.cell (p := ⟨w6.heap.size, 0, none⟩) (Nat.lt_of_lt_of_le z9u zz10)).trans v10))
    have B911 : Below w9.heap.size w9 w11 := B910.trans (hb11.mono zz10)
    have zz11 := B911.size
    have y11 : w11.cell? ⟨w.heap.size + 1, 0, none⟩ = some (.slice a' n' c') := (B911.cell (by show w.heap.size + 1 < _; omega)).trans y9
    have u11 : w11.cell? ⟨b7, 0, none⟩ = some (.slice a3 u8' c3) := (B911.cell (by show b7 < _; omega)).trans u9
    have t11 : w11.cell? ⟨w7.heap.size, 0, none⟩ = some (.slice a7 n' c7) := (B911.cell (by show w7.heap.size < _; omega)).trans t9
    have p11 : w11.cell? ⟨w8.heap.size, 0, none⟩ = some (.slice a8 u8' c8) := (B911.cell (by show w8.heap.size < _; omega)).trans p9
    have HB11 : Hid (Below w.heap.size w w11) := HB9.out.trans (B911.mono HB9.out.size)
    have HO611 : Hid (FOwn w11 b6 a6 n N P6 Q6) := HO69.out.below B911
    have HO711 : Hid (FOwn w11 b7x a7 n' M P7 Q7) := HO79.out.below B911
    have HK11 : Hid (FOwn w11 b3 a3 u8' G P3 Q3) := HK9.out.below B911
    have HG11 : Hid (FOwn w11 b8 a8 u8' G P8 Q8) := HG9.out.below B911
    have z11 : w.heap.size + 1 < w11.heap.size := by omega
    have z11v : w7.heap.size < w11.heap.size := by omega
    clear hb10 hb11 B910 B911 ho10 x9 y9 u9 v9 t9 p9 x10 v10 HO69 HO79 HK9 HG9 zz10
    go_wp2_with fail
    go_region_held3 (fun w' => w'.cell? ⟨w.heap.size + 1, 0, none⟩ = some (.slice a' n' c') ∧ w'.cell? ⟨w7.heap.size, 0, none⟩ = some (.slice a7 n' c7)) (first | exact ⟨y11, t11⟩ | exact ⟨y12, t12⟩ | exact ⟨y13, t13⟩ | fail)
      (first | (go_at_call 17; go_fit (toFilter_any a' c' n' M w11.drew HSM'.out (H'.out.below HB11.out.drew)); rintro e w12 ⟨a12, c12, rfl, ho12, hb12⟩; have y12 := (hb12.cell (p := ⟨w.heap.size + 1, 0, none⟩) z11).trans y11; have t12 := (hb12.cell (p := ⟨w7.heap.size, 0, none⟩) z11v).trans t11; have zz12 : w11.heap.size ≤ w12.heap.size := hb12.size; have B1112 : Below w11.heap.size w11 w12 := (Below.drew (Below.refl w11.heap.size w11)).trans hb12) | (go_at_call 19; refine (eqFilter_same a7 a12 c7 c12 n' M _ n40' HFT'.out (HO711.out.below B1112).arg ho12.arg).mono ?_; rintro e w13 ⟨rfl, hb13⟩; have y13 := (hb13.cell (p := ⟨w.heap.size + 1, 0, none⟩) (Nat.lt_of_lt_of_le z11 zz12)).trans y12; have t13 := (hb13.cell (p := ⟨w7.heap.size, 0, none⟩) (Nat.lt_of_lt_of_le z11v zz12)).trans t12))
    have B1113 : Below w11.heap.size w11 w13 := B1112.trans (hb13.mono zz12)
    have zz13 := B1113.size
    have x13 : w13.cell? ⟨w.heap.size, 0, none⟩ = some (.slice a n c) := (B1113.cell (by show w.heap.size < _; omega)).trans x11
    have u13 : w13.cell? ⟨b7, 0, none⟩ = some (.slice a3 u8' c3) := (B1113.cell (by show b7 < _; omega)).trans u11
    have v13 : w13.cell? ⟨w6.heap.size, 0, none⟩ = some (.slice a6 n c6) := (B1113.cell (by show w6.heap.size < _; omega)).trans v11
    have p13 : w13.cell? ⟨w8.heap.size, 0, none⟩ = some (.slice a8 u8' c8) := (B1113.cell (by show w8.heap.size < _; omega)).trans p11
    have HB13 : Hid (Below w.heap.size w w13) := HB11.out.trans (B1113.mono HB11.out.size)
    have HO613 : Hid (FOwn w13 b6 a6 n N P6 Q6) := HO611.out.below B1113
    have HO713 : Hid (FOwn w13 b7x a7 n' M P7 Q7) := HO711.out.below B1113
    have HK13 : Hid (FOwn w13 b3 a3 u8' G P3 Q3) := HK11.out.below B1113
    have HG13 : Hid (FOwn w13 b8 a8 u8' G P8 Q8) := HG11.out.below B1113
    clear hb12 hb13 B1112 B1113 ho12 x11 y11 u11 v11 t11 p11 y12 t12 HO611 HO711 HK11 HG11 zz12
    have htn := HTN.out
    have htn' := HTN'.out
    have kb1 := kAt_bound N 1 n
    go_wp2_with fail
    refine (markFilter_any b6 c6 n a6 N P6 Q6 1 _ (by omega) (by omega) n20 (by omega) HO613.out).mono ?_
    rintro e w14 ⟨rfl, hk14, _⟩
    have z1314 := hk14.size
    have hin : ∀ x, InF b6 n P6 Q6 x → wc.heap.size ≤ x ∧ x < w6.heap.size := fun x hx => InF.in HR6.out.1 HR6.out.2 hx
    have x14 : w14.cell? ⟨w.heap.size, 0, none⟩ = some (.slice a n c) := (hk14.cell (by omega) (fun hx => by have := hin _ hx; omega)).trans x13
    have y14 : w14.cell? ⟨w.heap.size + 1, 0, none⟩ = some (.slice a' n' c') := (hk14.cell (by omega) (fun hx => by have := hin _ hx; omega)).trans y13
    have u14 : w14.cell? ⟨b7, 0, none⟩ = some (.slice a3 u8' c3) := (hk14.cell (by omega) (fun hx => by have := hin _ hx; omega)).trans u13
    have t14 : w14.cell? ⟨w7.heap.size, 0, none⟩ = some (.slice a7 n' c7) := (hk14.cell (by omega) (fun hx => by have := hin _ hx; omega)).trans t13
    have p14 : w14.cell? ⟨w8.heap.size, 0, none⟩ = some (.slice a8 u8' c8) := (hk14.cell (by omega) (fun hx => by have := hin _ hx; omega)).trans p13
    have HB14 : Hid (Below w.heap.size w w14) := HB13.out.trans (hk14.below HB13.out.size (fun k hk hx => by have := hin _ hx; omega))
    have HO714 : Hid (FOwn w14 b7x a7 n' M P7 Q7) := HO713.out.away hk14 (w6.heap.size + 1) w7.heap.size (fun _ => by have := HR7.out.1; omega) (fun i hi => by have := HR7.out.2 i hi; omega) (fun x hx => by have := hin _ hx; omega)
    have HK14 : Hid (FOwn w14 b3 a3 u8' G P3 Q3) := HK13.out.away hk14 0 wc.heap.size (fun h => ⟨Nat.zero_le _, HL3.out.1 h⟩) (fun i hi => ⟨Nat.zero_le _, HL3.out.2 i hi⟩) (fun x hx => by have := hin _ hx; omega)
    have HG14 : Hid (FOwn w14 b8 a8 u8' G P8 Q8) := HG13.out.away hk14 (w7.heap.size + 1) w8.heap.size (fun h => by have := HR8.out.1 h; omega) (fun i hi => by have := HR8.out.2 i hi; omega) (fun x hx => by have := hin _ hx; omega)
    clear hk14 hin x13 y13 u13 v13 t13 p13 HO613 HO713 HK13 HG13
    obtain ⟨k1, hk1⟩ : ∃ k1, k1 = kAt N 1 n := ⟨_, rfl⟩
    rw [← hk1] at kb1
    rw [← hk1]
    clear hk1
    go_wp2_with fail
    refine (markFilter_any b7x c7 n' a7 M P7 Q7 k1 _ (by omega) (by omega) n20' (by omega) HO714.out).mono ?_
    rintro e w15 ⟨rfl, hk15, _⟩
    have z1415 := hk15.size
    have hin : ∀ x, InF b7x n' P7 Q7 x → w6.heap.size < x ∧ x < w7.heap.size := fun x hx => by
      have := InF.in (lo := w6.heap.size + 1) (hi := w7.heap.size) ⟨by have := HR7.out.1; omega, HR7.out.1.2⟩ (fun i hi => by have := HR7.out.2 i hi; omega) hx
      omega
    have x15 : w15.cell? ⟨w.heap.size, 0, none⟩ = some (.slice a n c) := (hk15.cell (by omega) (fun hx => by have := hin _ hx; omega)).trans x14
    have y15 : w15.cell? ⟨w.heap.size + 1, 0, none⟩ = some (.slice a' n' c') := (hk15.cell (by omega) (fun hx => by have := hin _ hx; omega)).trans y14
    have u15 : w15.cell? ⟨b7, 0, none⟩ = some (.slice a3 u8' c3) := (hk15.cell (by omega) (fun hx => by have := hin _ hx; omega)).trans u14
    have p15 : w15.cell? ⟨w8.heap.size, 0, none⟩ = some (.slice a8 u8' c8) := (hk15.cell (by omega) (fun hx => by have := hin _ hx; omega)).trans p14
    have HB15 : Hid (Below w.heap.size w w15) := HB14.out.trans (hk15.below HB14.out.size (fun k hk hx => by have := hin _ hx; omega))
    have HK15 : Hid (FOwn w15 b3 a3 u8' G P3 Q3) := HK14.out.away hk15 0 wc.heap.size (fun h => ⟨Nat.zero_le _, HL3.out.1 h⟩) (fun i hi => ⟨Nat.zero_le _, HL3.out.2 i hi⟩) (fun x hx => by have := hin _ hx; omega)
    have HG15 : Hid (FOwn w15 b8 a8 u8' G P8 Q8) := HG14.out.away hk15 (w7.heap.size + 1) w8.heap.size (fun h => by have := HR8.out.1 h; omega) (fun i hi => by have := HR8.out.2 i hi; omega) (fun x hx => by have := hin _ hx; omega)
    have kb2 := kAt_bound M k1 n'
    have nk2 : ¬ kAt M k1 n' < 0 := by omega
    clear hk15 hin x14 y14 u14 t14 p14 HO714 HK14 HG14
    go_wp2_with fail
    refine (eqFilter_same a8 a3 c8 c3 u8' G _ u40 HU.out.2 HG15.out.arg HK15.out.arg).mono ?_
    rintro e w16 ⟨rfl, hb16⟩
    have z1516 := hb16.size
    have x16 : w16.cell? ⟨w.heap.size, 0, none⟩ = some (.slice a n c) := (hb16.cell (by show w.heap.size < _; omega)).trans x15
    have y16 : w16.cell? ⟨w.heap.size + 1, 0, none⟩ = some (.slice a' n' c') := (hb16.cell (by show w.heap.size + 1 < _; omega)).trans y15
    have u16 : w16.cell? ⟨b7, 0, none⟩ = some (.slice a3 u8' c3) := (hb16.cell (by show b7 < _; omega)).trans u15
    have p16 : w16.cell? ⟨w8.heap.size, 0, none⟩ = some (.slice a8 u8' c8) := (hb16.cell (by show w8.heap.size < _; omega)).trans p15
    have HB16 : Hid (Below w.heap.size w w16) := HB15.out.trans (hb16.mono HB15.out.size)
    have HK16 : Hid (FOwn w16 b3 a3 u8' G P3 Q3) := HK15.out.below hb16
    obtain ⟨b9, hb9, HG16⟩ : ∃ b9, ((w7.heap.size < b9 ∧ b9 < w8.heap.size) ∨ (u8' = 0 ∧ w16.heap.size ≤ b9)) ∧ Hid (FOwn w16 b9 a8 u8' G P8 Q8) := by
      by_cases hu0 : u8' = 0
      · refine ⟨w16.heap.size, .inr ⟨hu0, Nat.le_refl _⟩, ?_⟩
        exact ⟨by omega, .inl hu0, fun i hi => by omega, fun i j _ hj => by omega⟩
      · exact ⟨b8, .inl (HR8.out.1 hu0), HG15.out.below hb16⟩
    clear hb16 x15 y15 u15 p15 HK15 HG15 kb2
    go_wp2_with fail
    refine (markFilter_any b9 c8 u8' a8 G P8 Q8 1 _ (by omega) (by omega) (by omega) HU.out.1 HG16.out).mono ?_
    rintro e w17 ⟨rfl, hk17, hF17⟩
    have z1617 := hk17.size
    have hin : ∀ x, InF b9 u8' P8 Q8 x → (w7.heap.size < x ∧ x < w8.heap.size) ∨ w16.heap.size ≤ x := fun x hx => by
      rcases hx with rfl | ⟨i, hi, h3, h4⟩
      · omega
      · have := HR8.out.2 i hi; omega
    have x17 : w17.cell? ⟨w.heap.size, 0, none⟩ = some (.slice a n c) := (hk17.cell (by omega) (fun hx => by have := hin _ hx; omega)).trans x16
    have y17 : w17.cell? ⟨w.heap.size + 1, 0, none⟩ = some (.slice a' n' c') := (hk17.cell (by omega) (fun hx => by have := hin _ hx; omega)).trans y16
    have u17 : w17.cell? ⟨b7, 0, none⟩ = some (.slice a3 u8' c3) := (hk17.cell (by omega) (fun hx => by have := hin _ hx; omega)).trans u16
    have p17 : w17.cell? ⟨w8.heap.size, 0, none⟩ = some (.slice a8 u8' c8) := (hk17.cell (by omega) (fun hx => by have := hin _ hx; omega)).trans p16
    have HB17 : Hid (Below w.heap.size w w17) := HB16.out.trans (hk17.below HB16.out.size (fun k hk hx => by have := hin _ hx; omega))
    have HK17 : Hid (FOwn w17 b3 a3 u8' G P3 Q3) := HK16.out.away hk17 0 wc.heap.size (fun h => ⟨Nat.zero_le _, HL3.out.1 h⟩) (fun i hi => ⟨Nat.zero_le _, HL3.out.2 i hi⟩) (fun x hx => by have := hin _ hx; omega)
    have HG17 : Hid (FOwn w17 b9 a8 u8' (mkTo G 1 u8') P8 Q8) := hF17
    have kb3 := kAt_bound G 1 u8'
    have htu := HU.out.1
    have nk3 : ¬ kAt G 1 u8' < 0 := by omega
    clear hk17 hin hF17 x16 y16 u16 p16 HK16 HG16
    go_wp2_with fail
    refine (heldFilter_any b9 c8 u8' a8 G P8 Q8 1 _ (by omega) (by omega) (by omega) HU.out.1 HG17.out).mono ?_
    rintro e w18 ⟨rfl, hb18⟩
    have z1718 := hb18.size
    have x18 : w18.cell? ⟨w.heap.size, 0, none⟩ = some (.slice a n c) := (hb18.cell (by show w.heap.size < _; omega)).trans x17
    have y18 : w18.cell? ⟨w.heap.size + 1, 0, none⟩ = some (.slice a' n' c') := (hb18.cell (by show w.heap.size + 1 < _; omega)).trans y17
    have u18 : w18.cell? ⟨b7, 0, none⟩ = some (.slice a3 u8' c3) := (hb18.cell (by show b7 < _; omega)).trans u17
    have p18 : w18.cell? ⟨w8.heap.size, 0, none⟩ = some (.slice a8 u8' c8) := (hb18.cell (by show w8.heap.size < _; omega)).trans p17
    have HB18 : Hid (Below w.heap.size w w18) := HB17.out.trans (hb18.mono HB17.out.size)
    have HK18 : Hid (FOwn w18 b3 a3 u8' G P3 Q3) := HK17.out.below hb18
    have HG18 : Hid (FOwn w18 b9 a8 u8' (mkTo G 1 u8') P8 Q8) := HG17.out.below hb18
    obtain ⟨kk, hkk⟩ : ∃ kk, kk = kAt G 1 u8' := ⟨_, rfl⟩
    have HKK : Hid (kk = kAt G 1 u8') := hkk
    rw [← hkk] at nk3
    rw [← hkk]
    clear hb18 x17 y17 u17 p17 HK17 HG17 hkk kb3
    have z18 : w.heap.size + 1 < w18.heap.size := by omega
    have z18' : w.heap.size < w18.heap.size := by omega
    have z18b : b7 < w18.heap.size := by omega
    have z18p : w8.heap.size < w18.heap.size := by omega
    have HC1 : Hid (∀ W, Below w18.heap.size w18 W → _) := fun W hW => toFilter_any a c n N W HSM.out (H.out.below (HB18.out.trans (hW.mono HB18.out.size)))
    have HC2 : Hid (∀ W, Below w18.heap.size w18 W → _) := fun W hW => toFilter_any a' c' n' M W HSM'.out (H'.out.below (HB18.out.trans (hW.mono HB18.out.size)))
    have HC3 : Hid (∀ (W : World) (a3 : Option Addr) (c3 : Nat) (a4 : Option Addr) (c4 : Nat), Below w18.heap.size w18 W → FArg W a3 n N → FArg W a4 n' M → Calls Tryz.prog 25 #[.agg #[.slice a3 n c3], .agg #[.slice a4 n' c4]] W (AndIs N n M n' W)) := fun W a3 c3 a4 c4 hW h3 h4 => implAnd_any a3 c3 n N a4 c4 n' M W h3 HSM.out h4 HSM'.out (HTB.out.up (HB18.out.trans (hW.mono HB18.out.size))) (HML.out.below (HB18.out.trans (hW.mono HB18.out.size)))
    have HSK : Hid (∀ w', Below w18.heap.size w18 w' → (w'.cell? ⟨w.heap.size, 0, none⟩ = some (.slice a n c) ∧ w'.cell? ⟨w.heap.size + 1, 0, none⟩ = some (.slice a' n' c'))) := fun w' hb => ⟨(hb.cell (by show w.heap.size < _; omega)).trans x18, (hb.cell (by show w.heap.size + 1 < _; omega)).trans y18⟩
    have HS2 : Hid (w18.cell? ⟨w.heap.size, 0, none⟩ = some (.slice a n c) ∧ w18.cell? ⟨w.heap.size + 1, 0, none⟩ = some (.slice a' n' c')) := ⟨x18, y18⟩
    have HBd : Hid (Below w18.heap.size w18 w18.drew) := (Below.refl _ _).drew
    have HBa : Hid (Below w18.heap.size w18 ((w18.alloc (.cells #[.slice none 0 0] 42)).drew)) := ((Below.refl _ _).alloc (Nat.le_refl _) _).drew
    have HBb : Hid (Below w18.heap.size w18 (w18.alloc (.cells #[.slice none 0 0] 42))) := (Below.refl _ _).alloc (Nat.le_refl _) _
    have HFa : Hid (OneAt ((w18.alloc (.cells #[.slice none 0 0] 42)).drew) w18.heap.size (.slice none 0 0)) := oneAt_new w18 (.slice none 0 0) 42
    go_upto_region 10 with fail
    go_cut [15, 16] (fun p q wx => ∃ (b7 : Nat) (a7 : Option Addr) (u7 c7 : Nat) (q7 : Bool) (bb7 : Nat) (P7 Q7 : Nat → Nat), p = .pointer (some ⟨b7, 0, none⟩) ∧ q = .bool q7 ∧ Hid (CutF (AndT N n M n') G w18 wx b7 a7 u7 c7 q7 bb7 P7 Q7))
    case first =>
      go_region_held3 (fun w' => w'.cell? ⟨w.heap.size, 0, none⟩ = some (.slice a n c) ∧ w'.cell? ⟨w.heap.size + 1, 0, none⟩ = some (.slice a' n' c')) (first | (with_reducible exact HS6) | (with_reducible exact HS5) | (with_reducible exact HS4) | (with_reducible exact HS3) | (with_reducible exact HSK.out _ (hB5.alloc hB5.size _)) | (with_reducible exact HSK.out _ (hB4.alloc hB4.size _)) | (with_reducible exact HSK.out _ (hB3.alloc hB3.size _)) | (with_reducible exact HSK.out _ HBa.out) | (with_reducible exact HSK.out _ HBd.out) | (with_reducible exact HS2.out) | (with_reducible exact HSK.out _ HBb.out) | fail)
        (first | (go_at_call 17; go_fit (HC1.out w18.drew HBd.out); rintro e v3 ⟨a3, c3, rfl, ho3, hb3⟩; have hB3 : Below w18.heap.size w18 v3 := HBd.out.trans hb3; have zz3 : w18.heap.size ≤ v3.heap.size := hB3.size; have HS3 := HSK.out v3 hB3; have HO3 : Hid (FArg v3 a3 n N) := ho3.arg; clear ho3 hb3) | (go_at_call 17; go_fit (HC1.out ((w18.alloc (.cells #[.slice none 0 0] 42)).drew) HBa.out); rintro e v3 ⟨a3, c3, rfl, ho3, hb3⟩; have hB3 : Below w18.heap.size w18 v3 := HBa.out.trans (hb3.mono (by show _ ≤ (w18.alloc _).heap.size; simp)); have zz3 : w18.heap.size + 1 ≤ v3.heap.size := (by have := hb3.size; change (w18.alloc _).heap.size ≤ _ at this; rw [World.size_alloc] at this; exact this); have HS3 := HSK.out v3 hB3; have HO3 : Hid (FArg v3 a3 n N) := ho3.arg; have HZ3 : Hid (OneAt v3 w18.heap.size (.slice none 0 0)) := HFa.out.below hb3 (by show _ < (w18.alloc _).heap.size; simp); clear ho3 hb3) | (go_at_call 17; go_fit (HC2.out v3 hB3); rintro e v4 ⟨a4, c4, rfl, ho4, hb4⟩; have HZ4 : Hid (OneAt v4 w18.heap.size (.slice none 0 0)) := HZ3.out.below hb4 (by omega); have hB4 : Below w18.heap.size w18 v4 := hB3.trans (hb4.mono hB3.size); have zz4 : w18.heap.size + 1 ≤ v4.heap.size := Nat.le_trans zz3 hb4.size; have HS4 := HSK.out v4 hB4; have HO34 : Hid (FArg v4 a3 n N) := HO3.out.below hb4; have HO4 : Hid (FArg v4 a4 n' M) := ho4.arg; clear ho4 hb4) | (go_at_call 17; go_fit (HC2.out v3 hB3); rintro e v4 ⟨a4, c4, rfl, ho4, hb4⟩; have hB4 : Below w18.heap.size w18 v4 := hB3.trans (hb4.mono hB3.size); have zz4 : w18.heap.size ≤ v4.heap.size := hB4.size; have HS4 := HSK.out v4 hB4; have HO34 : Hid (FArg v4 a3 n N) := HO3.out.below hb4; have HO4 : Hid (FArg v4 a4 n' M) := ho4.arg; clear ho4 hb4) | (go_at_call 17; go_fit (HC2.out (v3.alloc (.cells #[.slice none 0 0] 42)) (hB3.alloc hB3.size _)); rintro e v4 ⟨a4, c4, rfl, ho4, hb4⟩; have HY4 : Hid (OneAt v4 v3.heap.size (.slice none 0 0)) := (oneAt_new v3 (.slice none 0 0) 42).below hb4 (by simp); have hB4 : Below w18.heap.size w18 v4 := (hB3.alloc hB3.size _).trans (hb4.mono (by simp; omega)); have zz4 : v3.heap.size + 1 ≤ v4.heap.size := (by have := hb4.size; rw [World.size_alloc] at this; exact this); have HS4 := HSK.out v4 hB4; have HO34 : Hid (FArg v4 a3 n N) := (HO3.out.below ((Below.refl _ _).alloc (Nat.le_refl _) _)).below hb4; have HO4 : Hid (FArg v4 a4 n' M) := ho4.arg; clear ho4 hb4) | (go_at_call 25; go_fit (HC3.out v4 a3 c3 a4 c4 hB4 HO34.out HO4.out); rintro e v5 ⟨u5, q5, hq5, a5, c5, b5, P5, Q5, rfl, hr5, hP5, hF5, hb5⟩; rw [← HGE.out] at hF5; have hB5 : Below w18.heap.size w18 v5 := hB4.trans (hb5.mono hB4.size); have HS5 := HSK.out v5 hB5; have HZ5 : Hid (OneAt v5 w18.heap.size (.slice none 0 0)) := HZ4.out.below hb5 (by omega); have HGG : Hid (CutF (AndT N n M n') G w18 (v5.setCell ⟨w18.heap.size, 0, none⟩ (.slice a5 u5 c5)) w18.heap.size a5 u5 c5 q5 b5 P5 Q5) := cutF_set (W := v4) hB5 hB4.size (Nat.le_refl _) (by omega) HZ5.out hq5 hr5 hP5 hF5; have HS6 := HSK.out _ HGG.out.2.2.1; obtain ⟨q0, g0⟩ := HZ5.out; clear hq5 hr5 hP5 hF5 hb5) | (go_at_call 25; go_fit (HC3.out v4 a3 c3 a4 c4 hB4 HO34.out HO4.out); rintro e v5 ⟨u5, q5, hq5, a5, c5, b5, P5, Q5, rfl, hr5, hP5, hF5, hb5⟩; rw [← HGE.out] at hF5; have hB5 : Below w18.heap.size w18 v5 := hB4.trans (hb5.mono hB4.size); have HS5 := HSK.out v5 hB5; have HZ5 : Hid (OneAt v5 v3.heap.size (.slice none 0 0)) := HY4.out.below hb5 (by omega); have HGG : Hid (CutF (AndT N n M n') G w18 (v5.setCell ⟨v3.heap.size, 0, none⟩ (.slice a5 u5 c5)) v3.heap.size a5 u5 c5 q5 b5 P5 Q5) := cutF_set (W := v4) hB5 hB4.size zz3 (by omega) HZ5.out hq5 hr5 hP5 hF5; have HS6 := HSK.out _ HGG.out.2.2.1; obtain ⟨q0, g0⟩ := HZ5.out; clear hq5 hr5 hP5 hF5 hb5) | (go_at_call 25; go_fit (HC3.out v4 a3 c3 a4 c4 hB4 HO34.out HO4.out); rintro e v5 ⟨u5, q5, hq5, a5, c5, b5, P5, Q5, rfl, hr5, hP5, hF5, hb5⟩; rw [← HGE.out] at hF5; have hB5 : Below w18.heap.size w18 v5 := hB4.trans (hb5.mono hB4.size); have HS5 := HSK.out v5 hB5; have HGG : Hid (CutF (AndT N n M n') G w18 (v5.alloc (.cells #[.slice a5 u5 c5] 42)) v5.heap.size a5 u5 c5 q5 b5 P5 Q5) := cutF_new (W := v4) hB5 hB4.size hq5 hr5 hP5 hF5 _; clear hq5 hr5 hP5 hF5 hb5) | (go_at_call 25; go_fit (HC3.out (v4.alloc (.cells #[.slice none 0 0] 42)) a3 c3 a4 c4 (hB4.alloc hB4.size _) (HO34.out.below ((Below.refl _ _).alloc (Nat.le_refl _) _)) (HO4.out.below ((Below.refl _ _).alloc (Nat.le_refl _) _))); rintro e v5 ⟨u5, q5, hq5, a5, c5, b5, P5, Q5, rfl, hr5, hP5, hF5, hb5⟩; rw [← HGE.out] at hF5; have hB5 : Below w18.heap.size w18 v5 := (hB4.alloc hB4.size _).trans (hb5.mono (by simp; omega)); have HS5 := HSK.out v5 hB5; have HZ5 : Hid (OneAt v5 v4.heap.size (.slice none 0 0)) := (oneAt_new v4 (.slice none 0 0) 42).below hb5 (by simp); have HGG : Hid (CutF (AndT N n M n') G w18 (v5.setCell ⟨v4.heap.size, 0, none⟩ (.slice a5 u5 c5)) v4.heap.size a5 u5 c5 q5 b5 P5 Q5) := cutF_set (W := v4.alloc (.cells #[.slice none 0 0] 42)) hB5 (by simp; omega) zz4 (by simp) HZ5.out hq5 hr5 hP5 hF5; have HS6 := HSK.out _ HGG.out.2.2.1; obtain ⟨q0, g0⟩ := HZ5.out; clear hq5 hr5 hP5 hF5 hb5))
      all_goals
        clear HS3 HS4 HS5
        go_wp2_with fail
        go_meet
        case rel => exact ⟨_, _, _, _, _, _, _, _, rfl, rfl, HGG⟩
    case rest =>
      obtain ⟨b19, a19, u19', c19, q', b19b, P19, Q19, rfl, rfl, HGG⟩ := hcut
      obtain ⟨⟨⟨s19, _⟩, hq19⟩, hb19, hB19, _, _, ho19⟩ := HGG.out
      obtain ⟨hue, hqe⟩ : u19' = u8' ∧ q' = q8 := HQ.out.same hq19
      subst hue hqe
      have z1819 := hB19.size
      have u19 : wc.cell? ⟨b7, 0, none⟩ = some (.slice a3 u19' c3) := (hB19.cell z18b).trans u18
      have p19 : wc.cell? ⟨w8.heap.size, 0, none⟩ = some (.slice a8 u19' c8) := (hB19.cell z18p).trans p18
      have HB19 : Hid (Below w.heap.size w wc) := HB18.out.trans (hB19.mono HB18.out.size)
      have HK19 : Hid (FOwn wc b3 a3 u19' G P3 Q3) := HK18.out.below hB19
      have HG19 : Hid (FOwn wc b9 a8 u19' (mkTo G 1 u19') P8 Q8) := HG18.out.below hB19
      have HH19 : Hid (FOwn wc b19b a19 u19' G P19 Q19) := ho19
      clear HGG hq19 hB19 ho19 HC1 HC2 HC3 HSK HS2 HBd HBa HBb HFa x18 y18 u18 p18 HK18 HG18
      go_wp2_with fail
      refine (eqFilter_same a19 a3 c19 c3 u19' G _ u40 HU.out.2 HH19.out.arg HK19.out.arg).mono ?_
      rintro e w20 ⟨rfl, hb20⟩
      have z1920 := hb20.size
      have p20 : w20.cell? ⟨w8.heap.size, 0, none⟩ = some (.slice a8 u19' c8) := (hb20.cell (by show w8.heap.size < _; omega)).trans p19
      have HB20 : Hid (Below w.heap.size w w20) := HB19.out.trans (hb20.mono HB19.out.size)
      have HG20 : Hid (FOwn w20 b9 a8 u19' (mkTo G 1 u19') P8 Q8) := HG19.out.below hb20
      clear hb20 HK19 HG19 HH19 u19 p19 s19
      go_wp2_with fail
      refine (heldFilter_any b9 c8 u19' a8 G P8 Q8 1 _ (by omega) (by omega) (by omega) HU.out.1 HG20.out).mono ?_
      rw [← HKK.out]
      rintro e w21 ⟨rfl, hb21⟩
      have HB21 : Hid (Below w.heap.size w w21) := HB20.out.trans (hb21.mono HB20.out.size)
      clear hb21 HG20
      go_wp2
      go_ret
      exact ⟨rfl, HB21.out⟩

end Go.Proofs.YtadlflgflnlhjaaGreatDoor
