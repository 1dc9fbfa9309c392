/- FnExactGoodFilter answers true at every filter: GoodFilter answers as the specification and writes into nothing. -/
import Derived.Test.YtadlflgflnlhjaaGreatDoorFilI
import Derived.Test.YtadlflgflnlhjaaGreatDoorFilS
import Derived.Test.YtadlflgflnlhjaaGreatDoorFilSz
import Derived.Test.YtadlflgflnlhjaaGreatDoorFilEq
import Derived.Test.YtadlflgflnlhjaaGreatDoorFilToA
namespace Go.Proofs.YtadlflgflnlhjaaGreatDoor
open Go.RowKit
set_option linter.unusedVariables false

set_option maxRecDepth 100000 in
set_option maxHeartbeats 2000000 in
theorem goodFilter_law (a : Option Addr) (c n : Nat) (N : Nat → Tm) (w : World) (hn : n ≤ maxLen) (h : FArg w a n N) (hz : ∀ i, i < n → BigT (N i)) (htab : Tab w.heap.size w) (hml : ML w) :
    Calls Tryz.prog 4 #[.agg #[.slice a n c]] w fun e w' => e = .returned (.bool true) ∧ Below w.heap.size w w' := by
  have HZ : Hid (∀ i, i < n → BigT (N i)) := hz
  have HML : Hid (ML w) := hml
  have H : Hid (FArg w a n N) := h
  have HTB : Hid (Tab w.heap.size w) := htab
  clear hz h htab hml
  go_enter Tryz.func4, Tryz.ntmps4
  go_wp2_with fail
  have hbl0 : ∀ o, Below w.heap.size w (w.alloc o) := fun o => (Below.refl _ _).alloc (Nat.le_refl _) o
  refine (szFilter_left a c n N 1048576 (by decide) (by decide) _ hn (H.out.below (hbl0 _)) HZ.out).mono ?_
  rintro e w1 ⟨r, rfl, hr, hb1⟩
  have x1 : w1.cell? ⟨w.heap.size, 0, none⟩ = some (.slice a n c) := by rw [hb1.cell (by simp)]; simp [go_sem]
  have HB1 : Hid (Below w.heap.size w w1) := (hbl0 _).trans (hb1.mono (by simp))
  have z1 : w.heap.size < w1.heap.size := by have := hb1.size; simp at this; omega
  clear hb1 hbl0
  rcases hr with rfl | ⟨r0, _, hsm⟩
  · go_wp2
    go_ret
    exact ⟨rfl, HB1.out⟩
  have HSM : Hid (SmallF n N) := hsm
  have n20 : n ≤ 2 ^ 20 := hsm.1
  have HFT : Hid (∀ i, i < n → FitT (N i)) := fun i hi => (hsm.2 i hi).fit
  have r1 : ¬ r < 0 := by omega
  clear hsm
  go_wp2_with fail
  refine (toFilter_any a c n N _ HSM.out (H.out.below HB1.out)).mono ?_
  rintro e w2 ⟨a2, c2, rfl, ho2, hb2⟩
  have x2 : w2.cell? ⟨w.heap.size, 0, none⟩ = some (.slice a n c) := (hb2.cell z1).trans x1
  have HB2 : Hid (Below w.heap.size w w2) := HB1.out.trans (hb2.mono HB1.out.size)
  have z2 : w.heap.size < w2.heap.size := by have := hb2.size; omega
  have HO2 : Hid (FArg w2 a2 n N) := ho2.arg
  clear ho2 hb2
  go_wp2_with fail
  refine (specGoodF_any a2 c2 n N _ HO2.out HSM.out).mono ?_
  rintro e w3 ⟨q, rfl, hq, hb3⟩
  have HQ : Hid (q = true ↔ GoodF N n) := hq
  have x3 : w3.cell? ⟨w.heap.size, 0, none⟩ = some (.slice a n c) := (hb3.cell z2).trans x2
  have HB3 : Hid (Below w.heap.size w w3) := HB2.out.trans (hb3.mono HB2.out.size)
  have z3 : w.heap.size < w3.heap.size := by have := hb3.size; omega
  clear hb3 hq HO2
  go_wp2_with fail
  refine (toFilter_any a c n N _ HSM.out (H.out.below HB3.out)).mono ?_
  rintro e w4 ⟨a4, c4, rfl, ho4, hb4⟩
  have x4 : w4.cell? ⟨w.heap.size, 0, none⟩ = some (.slice a n c) := (hb4.cell z3).trans x3
  have HB4 : Hid (Below w.heap.size w w4) := HB3.out.trans (hb4.mono HB3.out.size)
  have z4 : w.heap.size < w4.heap.size := by have := hb4.size; omega
  have HO4 : Hid (FArg w4 a4 n N) := ho4.arg
  clear ho4 hb4
  go_wp2_with fail
  have hal : ∀ o, Below w4.heap.size w4 (w4.alloc o) := fun o => (Below.refl _ _).alloc (Nat.le_refl _) o
  refine (implGoodF_any a4 c4 n N _ (HO4.out.below (hal _)) HSM.out (HTB.out.up (HB4.out.trans ((hal _).mono HB4.out.size))) (HML.out.below (HB4.out.trans ((hal _).mono HB4.out.size)))).mono ?_
  rintro e w5 ⟨g, rfl, hg, hb5⟩
  have hgq : g = q := bool_same hg HQ.out
  subst hgq
  have x5 : w5.cell? ⟨w.heap.size, 0, none⟩ = some (.slice a n c) := by rw [hb5.cell (by simp; omega)]; simp [World.cell?_alloc_past, z4, x4]
  have y5 : w5.cell? ⟨w4.heap.size, 0, none⟩ = some (.slice a4 n c4) := by rw [hb5.cell (by simp)]; simp [World.cell?_alloc_new]
  have hbb : Below w4.heap.size w4 w5 := (hal _).trans (hb5.mono (by simp))
  have HB5 : Hid (Below w.heap.size w w5) := HB4.out.trans (hbb.mono HB4.out.size)
  have z5 : w4.heap.size < w5.heap.size := by have := hb5.size; simp at this; omega
  have z5' : w.heap.size < w5.heap.size := by omega
  have HO5 : Hid (FArg w5 a4 n N) := HO4.out.below hbb
  clear hb5 hbb hal hg HO4
  go_wp2_with fail
  go_region_held3 (fun w' => w'.cell? ⟨w.heap.size, 0, none⟩ = some (.slice a n c) ∧ w'.cell? ⟨w4.heap.size, 0, none⟩ = some (.slice a4 n c4)) (first | exact ⟨x5, y5⟩ | exact ⟨(hc7 _ _ (Nat.lt_of_lt_of_le z5' zz6)).trans ((hc6 _ _ z5').trans x5), (hc7 _ _ (Nat.lt_of_lt_of_le z5 zz6)).trans ((hc6 _ _ z5).trans y5)⟩ | exact ⟨(hc6 _ _ z5').trans x5, (hc6 _ _ z5).trans y5⟩)
    (first | (go_at_call 17; refine (toFilter_any a c n N _ HSM.out (H.out.below (HB5.out.drew))).mono ?_; rintro e w6 ⟨a6, c6, rfl, ho6, hb6⟩; obtain ⟨hc6, hf6⟩ := bcell hb6; have zz6 := hb6.size) | (go_at_call 19; refine (eqFilter_same a4 a6 c4 c6 n N _ (by omega) HFT.out (HO5.out.below ((Below.drew (Below.refl w5.heap.size w5)).trans (hb6.mono (Nat.le_refl w5.heap.size)))) ho6.arg).mono ?_; rintro e w7 ⟨rfl, hb7⟩; obtain ⟨hc7, hf7⟩ := bcell hb7))
  go_wp2
  go_ret
  exact ⟨rfl, (HB5.out.drew.trans (hb6.mono HB5.out.size)).trans (hb7.mono (Nat.le_trans HB5.out.size zz6))⟩

end Go.Proofs.YtadlflgflnlhjaaGreatDoor
