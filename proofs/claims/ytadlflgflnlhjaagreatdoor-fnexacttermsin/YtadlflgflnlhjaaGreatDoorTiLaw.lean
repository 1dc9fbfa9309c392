/- How many terms a good filter has: program and specification. FnExactTermsIn answers true at every filter: TermsIn answers as the specification and writes into nothing. -/
import Derived.Test.YtadlflgflnlhjaaGreatDoorFilI
import Derived.Test.YtadlflgflnlhjaaGreatDoorFilS
import Derived.Test.YtadlflgflnlhjaaGreatDoorFilSz
import Derived.Test.YtadlflgflnlhjaaGreatDoorFilEq
import Derived.Test.YtadlflgflnlhjaaGreatDoorFilToA
namespace Go.Proofs.YtadlflgflnlhjaaGreatDoor
open Go.RowKit
set_option linter.unusedVariables false

/-- How many of the first i terms turn. -/
def nots (F : Nat → Tm) : Nat → Nat
  | 0 => 0
  | i + 1 => nots F i + if (F i).kind = 8 then 1 else 0
theorem nots_le (F : Nat → Tm) : ∀ i, nots F i ≤ i := by
  intro i
  induction i with
  | zero => simp [nots]
  | succ i ih => simp only [nots]; split <;> omega
/-- WHAT TermsIn TELLS. -/
def TermsTold (F : Nat → Tm) (t : Nat) (x y : Int) (q : Bool) : Prop := (q = true ∧ GoodF F t ∧ x = t ∧ y = nots F t) ∨ (q = false ∧ ¬ GoodF F t ∧ x = 0 ∧ y = 0)
theorem TermsTold.same {F : Nat → Tm} {t : Nat} {x y x' y' : Int} {q q' : Bool} (h : TermsTold F t x y q) (k : TermsTold F t x' y' q') : x = x' ∧ y = y' ∧ q = q' := by
  rcases h with ⟨rfl, g, rfl, rfl⟩ | ⟨rfl, g, rfl, rfl⟩ <;> rcases k with ⟨rfl, g', rfl, rfl⟩ | ⟨rfl, g', rfl, rfl⟩
  · exact ⟨rfl, rfl, rfl⟩
  · exact absurd g g'
  · exact absurd g' g
  · exact ⟨rfl, rfl, rfl⟩
def TermsSaid (F : Nat → Tm) (t : Nat) (w : World) (e : Ending) (w' : World) : Prop := ∃ x y q, e = .returned (.tuple #[.int .i64 x, .int .i64 y, .bool q]) ∧ TermsTold F t x y q ∧ Below w.heap.size w w'

set_option maxRecDepth 100000 in
set_option maxHeartbeats 2000000 in
theorem implTermsIn_any (a : Option Addr) (c t : Nat) (F : Nat → Tm) (w : World) (h : FArg w a t F) (hs : SmallF t F) (htab : Tab w.heap.size w) (hml : ML w) :
    Calls Tryz.prog 27 #[.agg #[.slice a t c]] w (TermsSaid F t w) := by
  have H : Hid (FArg w a t F) := h
  have HS : Hid (SmallF t F) := hs
  have HT : Hid (Tab w.heap.size w) := htab
  have HML : Hid (ML w) := hml
  have t20 := hs.1
  clear h hs htab hml
  have hal : ∀ o, Below w.heap.size w (w.alloc o) := fun o => (Below.refl _ _).alloc (Nat.le_refl _) o
  go_enter Tryz.func27, Tryz.ntmps27
  go_wp2_with fail
  refine (implGoodF_any a c t F _ (H.out.below (hal _)) HS.out (HT.out.up (hal _)) (HML.out.below (hal _))).mono ?_
  rintro e w1 ⟨q, rfl, hq, hb1⟩
  have x1 : w1.cell? ⟨w.heap.size, 0, none⟩ = some (.slice a t c) := by rw [hb1.cell (by simp)]; simp [go_sem]
  have HB1 : Hid (Below w.heap.size w w1) := (hal _).trans (hb1.mono (by simp))
  have z1 : w.heap.size < w1.heap.size := by have := hb1.size; simp at this; omega
  clear hb1 hal
  cases q with
  | false =>
    have HN : Hid (¬ GoodF F t) := fun h => by simpa using hq.2 h
    clear hq
    go_wp2
    exact bodyPost_ret (v := .tuple #[.int .i64 0, .int .i64 0, .bool false]) (by simp [results, Tryz.results27, go_sem]) rfl ⟨0, 0, false, rfl, .inr ⟨rfl, HN.out, rfl, rfl⟩, HB1.out⟩
  | true =>
    have HG : Hid (GoodF F t) := hq.1 rfl
    clear hq
    go_wp2_with fail
    go_loopw [5, 14] (fun n i wr => ∃ k : Nat, k ≤ t ∧ i = .int .i64 (k : Int) ∧ n = .int .i64 (nots F k : Nat) ∧ w.heap.size < wr.heap.size ∧ Below w.heap.size w wr ∧ wr.cell? ⟨w.heap.size, 0, none⟩ = some (.slice a t c)) (fun _ i _ => t - (intOf i).toNat)
    case atStart => exact ⟨0, Nat.zero_le _, rfl, rfl, z1, HB1.out, x1⟩
    case round =>
      obtain ⟨k, hk, rfl, rfl, hz, hnx, hf⟩ := hrel
      by_cases hlt : k < t
      · obtain ⟨b, off, va, vc, ka, kc, rfl, hb, a0, a1, a2, a3, _, _⟩ := (H.out.below hnx).at hlt
        have i0 : (0 : Int) ≤ (k : Int) := by omega
        have i1 : (k : Int) < (t : Int) := by omega
        have HNX : Hid (Below w.heap.size w wr) := hnx
        have HWA : ∀ o, Below wr.heap.size wr (wr.alloc o) := fun o => (Below.refl _ _).alloc (Nat.le_refl _) o
        have hnl := nots_le F k
        clear hnx
        by_cases h8 : (F k).kind = 8
        · have HN1 : Hid (nots F (k + 1) = nots F k + 1) := by show nots F k + _ = _; rw [if_pos h8]
          rw [h8] at a0
          clear h8
          obtain ⟨x, hx⟩ : ∃ x, x = nots F k := ⟨_, rfl⟩
          rw [← hx] at HN1 hnl
          rw [← hx]
          clear hx
          go_wp2
          go_roundw
          case rel => exact ⟨k + 1, by omega, by go_num, by rw [HN1.out]; go_num, by simp; omega, HNX.out.trans ((HWA _).mono HNX.out.size), by simp [World.cell?_alloc_past, hz, hf]⟩
          case measure => simp [intOf]; omega
        · have HN1 : Hid (nots F (k + 1) = nots F k) := by show nots F k + _ = _; rw [if_neg h8]; rfl
          obtain ⟨kd, hkd⟩ : ∃ kd, kd = (F k).kind := ⟨_, rfl⟩
          rw [← hkd] at a0 h8
          clear hkd
          obtain ⟨x, hx⟩ : ∃ x, x = nots F k := ⟨_, rfl⟩
          rw [← hx] at HN1 hnl
          rw [← hx]
          clear hx
          go_wp2
          go_roundw
          case rel => exact ⟨k + 1, by omega, by go_num, by rw [HN1.out], by simp; omega, HNX.out.trans ((HWA _).mono HNX.out.size), by simp [World.cell?_alloc_past, hz, hf]⟩
          case measure => simp [intOf]; omega
      · obtain rfl : k = t := by omega
        obtain ⟨x, hx⟩ : ∃ x, x = nots F k := ⟨_, rfl⟩
        have HX : Hid (x = nots F k) := hx
        rw [← hx]
        clear hx
        go_wp2
        exact bodyPost_ret (v := .tuple #[.int .i64 k, .int .i64 x, .bool true]) (by simp [results, Tryz.results27, go_sem]) rfl ⟨k, x, true, rfl, .inl ⟨rfl, HG.out, rfl, by rw [HX.out]⟩, hnx⟩

set_option maxRecDepth 100000 in
set_option maxHeartbeats 2000000 in
theorem specTermsIn_any (a : Option Addr) (c t : Nat) (F : Nat → Tm) (w : World) (h : FArg w a t F) (hs : SmallF t F) :
    Calls Tryz.prog 26 #[.agg #[.slice a t c]] w (TermsSaid F t w) := by
  have H : Hid (FArg w a t F) := h
  have HS : Hid (SmallF t F) := hs
  have t20 := hs.1
  clear h hs
  have hal : ∀ o, Below w.heap.size w (w.alloc o) := fun o => (Below.refl _ _).alloc (Nat.le_refl _) o
  go_enter Tryz.func26, Tryz.ntmps26
  go_wp2_with fail
  refine (specGoodF_any a c t F _ (H.out.below (hal _)) HS.out).mono ?_
  rintro e w1 ⟨q, rfl, hq, hb1⟩
  have x1 : w1.cell? ⟨w.heap.size, 0, none⟩ = some (.slice a t c) := by rw [hb1.cell (by simp)]; simp [go_sem]
  have HB1 : Hid (Below w.heap.size w w1) := (hal _).trans (hb1.mono (by simp))
  have z1 : w.heap.size < w1.heap.size := by have := hb1.size; simp at this; omega
  clear hb1 hal
  cases q with
  | false =>
    have HN : Hid (¬ GoodF F t) := fun h => by simpa using hq.2 h
    clear hq
    go_wp2
    exact bodyPost_ret (v := .tuple #[.int .i64 0, .int .i64 0, .bool false]) (by simp [results, Tryz.results26, go_sem]) rfl ⟨0, 0, false, rfl, .inr ⟨rfl, HN.out, rfl, rfl⟩, HB1.out⟩
  | true =>
    have HG : Hid (GoodF F t) := hq.1 rfl
    clear hq
    go_wp2_with fail
    go_loopw [5, 14] (fun n i wr => ∃ k : Nat, k ≤ t ∧ i = .int .i64 (k : Int) ∧ n = .int .i64 (nots F k : Nat) ∧ w.heap.size < wr.heap.size ∧ Below w.heap.size w wr ∧ wr.cell? ⟨w.heap.size, 0, none⟩ = some (.slice a t c)) (fun _ i _ => t - (intOf i).toNat)
    case atStart => exact ⟨0, Nat.zero_le _, rfl, rfl, z1, HB1.out, x1⟩
    case round =>
      obtain ⟨k, hk, rfl, rfl, hz, hnx, hf⟩ := hrel
      by_cases hlt : k < t
      · obtain ⟨b, off, va, vc, ka, kc, rfl, hb, a0, a1, a2, a3, _, _⟩ := (H.out.below hnx).at hlt
        have i0 : (0 : Int) ≤ (k : Int) := by omega
        have i1 : (k : Int) < (t : Int) := by omega
        have HNX : Hid (Below w.heap.size w wr) := hnx
        have HWA : ∀ o, Below wr.heap.size wr (wr.alloc o) := fun o => (Below.refl _ _).alloc (Nat.le_refl _) o
        have hnl := nots_le F k
        clear hnx
        by_cases h8 : (F k).kind = 8
        · have HN1 : Hid (nots F (k + 1) = nots F k + 1) := by show nots F k + _ = _; rw [if_pos h8]
          rw [h8] at a0
          clear h8
          obtain ⟨x, hx⟩ : ∃ x, x = nots F k := ⟨_, rfl⟩
          rw [← hx] at HN1 hnl
          rw [← hx]
          clear hx
          go_wp2
          go_roundw
          case rel => exact ⟨k + 1, by omega, by go_num, by rw [HN1.out]; go_num, by simp; omega, HNX.out.trans ((HWA _).mono HNX.out.size), by simp [World.cell?_alloc_past, hz, hf]⟩
          case measure => simp [intOf]; omega
        · have HN1 : Hid (nots F (k + 1) = nots F k) := by show nots F k + _ = _; rw [if_neg h8]; rfl
          obtain ⟨kd, hkd⟩ : ∃ kd, kd = (F k).kind := ⟨_, rfl⟩
          rw [← hkd] at a0 h8
          clear hkd
          obtain ⟨x, hx⟩ : ∃ x, x = nots F k := ⟨_, rfl⟩
          rw [← hx] at HN1 hnl
          rw [← hx]
          clear hx
          go_wp2
          go_roundw
          case rel => exact ⟨k + 1, by omega, by go_num, by rw [HN1.out], by simp; omega, HNX.out.trans ((HWA _).mono HNX.out.size), by simp [World.cell?_alloc_past, hz, hf]⟩
          case measure => simp [intOf]; omega
      · obtain rfl : k = t := by omega
        obtain ⟨x, hx⟩ : ∃ x, x = nots F k := ⟨_, rfl⟩
        have HX : Hid (x = nots F k) := hx
        rw [← hx]
        clear hx
        go_wp2
        exact bodyPost_ret (v := .tuple #[.int .i64 k, .int .i64 x, .bool true]) (by simp [results, Tryz.results26, go_sem]) rfl ⟨k, x, true, rfl, .inl ⟨rfl, HG.out, rfl, by rw [HX.out]⟩, hnx⟩

end Go.Proofs.YtadlflgflnlhjaaGreatDoor
namespace Go.Proofs.YtadlflgflnlhjaaGreatDoor
open Go.RowKit
set_option linter.unusedVariables false

set_option maxRecDepth 100000 in
set_option maxHeartbeats 2000000 in
theorem termsIn_law (a : Option Addr) (c n : Nat) (N : Nat → Tm) (w : World) (hn : n ≤ maxLen) (h : FArg w a n N) (hz : ∀ i, i < n → BigT (N i)) (htab : Tab w.heap.size w) (hml : ML w) :
    Calls Tryz.prog 7 #[.agg #[.slice a n c]] w fun e w' => e = .returned (.bool true) ∧ Below w.heap.size w w' := by
  have HZ : Hid (∀ i, i < n → BigT (N i)) := hz
  have HML : Hid (ML w) := hml
  have H : Hid (FArg w a n N) := h
  have HTB : Hid (Tab w.heap.size w) := htab
  clear hz h htab hml
  go_enter Tryz.func7, Tryz.ntmps7
  go_wp2_with fail
  have hbl0 : ∀ o, Below w.heap.size w (w.alloc o) := fun o => (Below.refl _ _).alloc (Nat.le_refl _) o
  refine (szFilter_left a c n N 1048576 (by decide) (by decide) _ hn (H.out.below (hbl0 _)) HZ.out).mono ?_
  rintro e w1 ⟨r, rfl, hr, hb1⟩
  have x1 : w1.cell? ⟨w.heap.size, 0, none⟩ = some (.slice a n c) := by rw [hb1.cell (by simp)]; simp [go_sem]
  have HB1 : Hid (Below w.heap.size w w1) := (hbl0 _).trans (hb1.mono (by simp))
  have z1 : w.heap.size < w1.heap.size := by have := hb1.size; simp at this; omega
  clear hb1 hbl0
  rcases hr with rfl | ⟨r0, _, hsm⟩
  · go_wp2
    go_ret
    exact ⟨rfl, HB1.out⟩
  have HSM : Hid (SmallF n N) := hsm
  have n20 : n ≤ 2 ^ 20 := hsm.1
  have HFT : Hid (∀ i, i < n → FitT (N i)) := fun i hi => (hsm.2 i hi).fit
  have r1 : ¬ r < 0 := by omega
  clear hsm
  go_wp2_with fail
  refine (toFilter_any a c n N _ HSM.out (H.out.below HB1.out)).mono ?_
  rintro e w2 ⟨a2, c2, rfl, ho2, hb2⟩
  have x2 : w2.cell? ⟨w.heap.size, 0, none⟩ = some (.slice a n c) := (hb2.cell z1).trans x1
  have HB2 : Hid (Below w.heap.size w w2) := HB1.out.trans (hb2.mono HB1.out.size)
  have z2 : w.heap.size < w2.heap.size := by have := hb2.size; omega
  have HO2 : Hid (FArg w2 a2 n N) := ho2.arg
  clear ho2 hb2
  go_wp2_with fail
  refine (specTermsIn_any a2 c2 n N _ HO2.out HSM.out).mono ?_
  rintro e w3 ⟨x, y, q, rfl, hq, hb3⟩
  have HQ : Hid (TermsTold N n x y q) := hq
  have x3 : w3.cell? ⟨w.heap.size, 0, none⟩ = some (.slice a n c) := (hb3.cell z2).trans x2
  have HB3 : Hid (Below w.heap.size w w3) := HB2.out.trans (hb3.mono HB2.out.size)
  have z3 : w.heap.size < w3.heap.size := by have := hb3.size; omega
  clear hb3 hq HO2
  go_wp2_with fail
  refine (toFilter_any a c n N _ HSM.out (H.out.below HB3.out)).mono ?_
  rintro e w4 ⟨a4, c4, rfl, ho4, hb4⟩
  have x4 : w4.cell? ⟨w.heap.size, 0, none⟩ = some (.slice a n c) := (hb4.cell z3).trans x3
  have HB4 : Hid (Below w.heap.size w w4) := HB3.out.trans (hb4.mono HB3.out.size)
  have z4 : w.heap.size < w4.heap.size := by have := hb4.size; omega
  have HO4 : Hid (FArg w4 a4 n N) := ho4.arg
  clear ho4 hb4
  go_wp2_with fail
  have hal : ∀ o, Below w4.heap.size w4 (w4.alloc o) := fun o => (Below.refl _ _).alloc (Nat.le_refl _) o
  refine (implTermsIn_any a4 c4 n N _ (HO4.out.below (hal _)) HSM.out (HTB.out.up (HB4.out.trans ((hal _).mono HB4.out.size))) (HML.out.below (HB4.out.trans ((hal _).mono HB4.out.size)))).mono ?_
  rintro e w5 ⟨x', y', g, rfl, hg, hb5⟩
  obtain ⟨hxx, hyy, hgq⟩ := hg.same HQ.out
  subst hxx hyy hgq
  have x5 : w5.cell? ⟨w.heap.size, 0, none⟩ = some (.slice a n c) := by rw [hb5.cell (by simp; omega)]; simp [World.cell?_alloc_past, z4, x4]
  have y5 : w5.cell? ⟨w4.heap.size, 0, none⟩ = some (.slice a4 n c4) := by rw [hb5.cell (by simp)]; simp [World.cell?_alloc_new]
  have hbb : Below w4.heap.size w4 w5 := (hal _).trans (hb5.mono (by simp))
  have HB5 : Hid (Below w.heap.size w w5) := HB4.out.trans (hbb.mono HB4.out.size)
  have z5 : w4.heap.size < w5.heap.size := by have := hb5.size; simp at this; omega
  have z5' : w.heap.size < w5.heap.size := by omega
  have HO5 : Hid (FArg w5 a4 n N) := HO4.out.below hbb
  clear hb5 hbb hal hg HO4
  go_wp2_with fail
  go_region_held3 (fun w' => w'.cell? ⟨w.heap.size, 0, none⟩ = some (.slice a n c) ∧ w'.cell? ⟨w4.heap.size, 0, none⟩ = some (.slice a4 n c4)) (first | exact ⟨x5, y5⟩ | exact ⟨(hc7 _ _ (Nat.lt_of_lt_of_le z5' zz6)).trans ((hc6 _ _ z5').trans x5), (hc7 _ _ (Nat.lt_of_lt_of_le z5 zz6)).trans ((hc6 _ _ z5).trans y5)⟩ | exact ⟨(hc6 _ _ z5').trans x5, (hc6 _ _ z5).trans y5⟩)
    (first | (go_at_call 17; refine (toFilter_any a c n N _ HSM.out (H.out.below (HB5.out.drew))).mono ?_; rintro e w6 ⟨a6, c6, rfl, ho6, hb6⟩; obtain ⟨hc6, hf6⟩ := bcell hb6; have zz6 := hb6.size) | (go_at_call 19; refine (eqFilter_same a4 a6 c4 c6 n N _ (by omega) HFT.out (HO5.out.below ((Below.drew (Below.refl w5.heap.size w5)).trans (hb6.mono (Nat.le_refl w5.heap.size)))) ho6.arg).mono ?_; rintro e w7 ⟨rfl, hb7⟩; obtain ⟨hc7, hf7⟩ := bcell hb7))
  go_wp2
  go_ret
  exact ⟨rfl, (HB5.out.drew.trans (hb6.mono HB5.out.size)).trans (hb7.mono (Nat.le_trans HB5.out.size zz6))⟩

end Go.Proofs.YtadlflgflnlhjaaGreatDoor
