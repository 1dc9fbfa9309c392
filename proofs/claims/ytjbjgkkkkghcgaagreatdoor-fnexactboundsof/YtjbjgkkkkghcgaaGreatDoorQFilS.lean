/- Whether a filter is good: the specification. -/
import Derived.Test.YtjbjgkkkkghcgaaGreatDoorQPlN
import Derived.Test.YtjbjgkkkkghcgaaGreatDoorQIn
import Derived.Deep.DeepFit
namespace Go.Proofs.YtjbjgkkkkghcgaaGreatDoor
open Go.RowKit
set_option linter.unusedVariables false

set_option maxHeartbeats 400000 in
theorem l5Leaf_any (k : Int) (w : World) :
    Calls Tryz.prog 22 #[.int .i64 k] w fun e w' => e = .returned (.bool (decide (1 ≤ k) && decide (k ≤ 5))) ∧ Below w.heap.size w w' := by
  go_enter Tryz.func22, Tryz.ntmps22
  go_wp2_with fail
  refine (l1In_any k 1 5 _).mono ?_
  rintro e w1 ⟨rfl, hb⟩
  go_wp2
  go_ret
  exact ⟨rfl, hb⟩

set_option maxRecDepth 100000 in
set_option maxHeartbeats 4000000 in
theorem specGoodF_any (a : Option Addr) (c t : Nat) (F : Nat → Tm) (w : World) (h : FArg w a t F) (hs : SmallF t F) :
    Calls Tryz.prog 11 #[.agg #[.slice a t c]] w (BoolIs (GoodF F t) w) := by
  have H : Hid (FArg w a t F) := h
  have HS : Hid (SmallF t F) := hs
  have t20 := hs.1
  clear h hs
  have hal : ∀ o, Below w.heap.size w (w.alloc o) := fun o => (Below.refl _ _).alloc (Nat.le_refl _) o
  by_cases t0 : t = 0 ∨ 20 < t
  · have HN : Hid (¬ GoodF F t) := fun h => by have := h.1; omega
    have hd : (decide ((1 : Int) ≤ (t : Int)) && decide ((t : Int) ≤ 20)) = false := by simp; omega
    go_enter Tryz.func11, Tryz.ntmps11
    go_wp2_with fail
    refine (l1In_any t 1 20 _).mono ?_
    rw [hd]
    rintro e w1 ⟨rfl, hb⟩
    have HB1 : Hid (Below w.heap.size w w1) := (hal _).trans (hb.mono (by simp))
    clear hb
    go_wp2
    go_ret
    exact BoolIs.no HN.out HB1.out
  have hd : (decide ((1 : Int) ≤ (t : Int)) && decide ((t : Int) ≤ 20)) = true := by simp; omega
  go_enter Tryz.func11, Tryz.ntmps11
  go_wp2_with fail
  refine (l1In_any t 1 20 _).mono ?_
  rw [hd]
  rintro e w1 ⟨rfl, hb⟩
  have hf1 : w1.cell? ⟨w.heap.size, 0, none⟩ = some (.slice a t c) := by rw [hb.cell (by simp)]; simp [go_sem]
  have HB1 : Hid (Below w.heap.size w w1) := (hal _).trans (hb.mono (by simp))
  have z1 : w.heap.size < w1.heap.size := by have := hb.size; simp at this; omega
  clear hb hd hal
  have hmw := make_ints t (by omega) w1
  have n1 := ints_made t w1 3
  obtain ⟨W, hW⟩ : ∃ W, W = w1.alloc (.cells (madeCells #[.int .i64 0] t) 3) := ⟨_, rfl⟩
  have hsz : W.heap.size = w1.heap.size + 1 := by rw [hW]; simp
  have hbl : Below w1.heap.size w1 W := by rw [hW]; go_grown
  rw [← hW] at n1 hmw
  have HN : Hid (IntsAt W w1.heap.size t (fun z => tcnt F 0 z)) := n1.same fun i hi => rfl
  clear n1 hW
  have hfW : W.cell? ⟨w.heap.size, 0, none⟩ = some (.slice a t c) := (hbl.cell z1).trans hf1
  have HBW : Hid (Below w.heap.size w W) := HB1.out.trans (hbl.mono HB1.out.size)
  go_wp2_with fail
  go_loopw [24] (fun i wr => ∃ k : Nat, k ≤ t ∧ i = .int .i64 (k : Int) ∧ w.heap.size < wr.heap.size ∧ Below w.heap.size w wr ∧ w1.heap.size < wr.heap.size ∧ wr.cell? ⟨w.heap.size, 0, none⟩ = some (.slice a t c) ∧ Hid (IntsAt wr w1.heap.size t (fun z => tcnt F k z)) ∧ Hid (∀ j, j < k → FieldsOK (F j) ∧ RisA (F j).K (F j).m j)) (fun i _ => t - (intOf i).toNat)
  case atStart => exact ⟨0, Nat.zero_le _, rfl, by omega, HBW.out, by omega, hfW, HN, fun j hj => by omega⟩
  case round =>
    rename World => x0
    clear hfW hf1 hbl hsz hmw HBW HN
    obtain ⟨k, hk, rfl, hz, hnx, hz1, hf, HI, HJ⟩ := hrel
    by_cases hlt : k < t
    · obtain ⟨b, off, va, vc, ka, kc, rfl, hb, a0, a1, a2, a3, hv, hkk⟩ := H.out.at hlt
      replace a0 := (hnx.cell hb).trans a0
      replace a1 := (hnx.cell hb).trans a1
      replace a2 := (hnx.cell hb).trans a2
      replace a3 := (hnx.cell hb).trans a3
      have i0 : (0 : Int) ≤ (k : Int) := by omega
      have i1 : (k : Int) < (t : Int) := by omega
      have HNX : Hid (Below w.heap.size w x0) := hnx
      have hbw : b < x0.heap.size := Nat.lt_of_lt_of_le hb hnx.size
      have HCB : Hid (∀ j z, j ≤ (F k).m → 0 ≤ cntAt F k j z ∧ cntAt F k j z ≤ 2 ^ 30) := fun j z hj => cnt_bound (fun i hi => (HS.out.2 i hi).2.2) hlt (by omega) hj z
      have HI0 : Hid (IntsAt x0 w1.heap.size t (cntAt F k 0)) := by rw [cnt_zero]; exact HI
      have HCW : Hid (cntAt F k (F k).m = fun z : Nat => tcnt F (k + 1) z) := cnt_whole F k
      have HC0 : Hid ((F k).m = 0 → (fun z : Nat => tcnt F k z) = fun z : Nat => tcnt F (k + 1) z) := fun h => by rw [← cnt_whole, h, cnt_zero]
      have HCS : Hid (∀ j q : Nat, (F k).K j = (q : Int) → (fun z => if z = q then cntAt F k j q + 1 else cntAt F k j z) = cntAt F k (j + 1)) := cnt_step F k
      have HBAD : Hid (¬ FieldsOK (F k) → ¬ GoodF F t) := fun h g => h (g.2.1 k hlt).1
      have HRIS : Hid (¬ RisA (F k).K (F k).m k → ¬ GoodF F t) := fun h g => h (g.2.1 k hlt).2
      have HNEXT : Hid (FieldsOK (F k) → RisA (F k).K (F k).m k → ∀ j, j < k + 1 → FieldsOK (F j) ∧ RisA (F j).K (F j).m j) := fun h1 h2 j hj => by
        by_cases e : j = k
        · subst e; exact ⟨h1, h2⟩
        · exact HJ.out j (by omega)
      have HST : Hid (SmallT (F k)) := HS.out.2 k hlt
      have HV : Hid (ArgIs x0 va (F k).n (F k).N ∧ ArgI w ka (F k).m (F k).K) := ⟨hv.below hnx, hkk⟩
      obtain ⟨C, hC⟩ : ∃ C, C = cntAt F k := ⟨_, rfl⟩
      rw [← hC] at HCB HI0 HCW HCS
      obtain ⟨x, hx⟩ : ∃ x, x = F k := ⟨_, rfl⟩
      rw [← hx] at a0 a1 a2 a3 HCB HCW HC0 HCS HBAD HRIS HNEXT HST HV
      clear hv hkk hnx hC hx
      obtain ⟨kd, p, n, N, m, K⟩ := x
      dsimp only at a0 a1 a2 a3 HCB HCW HC0 HCS HBAD HRIS HNEXT HST HV
      have s1 : p.data.toList.length ≤ 2 ^ 20 := by have := HST.out.1; rw [Array.length_toList]; exact this
      have s3 : m ≤ 2 ^ 20 := HST.out.2.2
      have HSN : Hid (SmallN n N) := HST.out.2.1
      have HWA : ∀ o, Below x0.heap.size x0 (x0.alloc o) := fun o => (Below.refl _ _).alloc (Nat.le_refl _) o
      by_cases hkd : kd < 1 ∨ 8 < kd
      · have HN : Hid (¬ GoodF F t) := HBAD.out (fields_else kd p n N m K hkd)
        have hd : (decide (1 ≤ kd) && decide (kd ≤ 8)) = false := by simp; omega
        go_wp2_with fail
        refine (l1In_any kd 1 8 _).mono ?_
        rw [hd]
        rintro e v1 ⟨rfl, hb1⟩
        have HR1 : Hid (Below x0.heap.size x0 v1) := (HWA _).trans (hb1.mono (by simp))
        clear hb1 HWA
        go_wp2
        go_ret
        exact BoolIs.no HN.out (HNX.out.trans (HR1.out.mono HNX.out.size))
      rcases (show kd = 1 ∨ kd = 2 ∨ kd = 3 ∨ kd = 4 ∨ kd = 5 ∨ kd = 6 ∨ kd = 7 ∨ kd = 8 by omega) with hkd | hkd | hkd | hkd | hkd | hkd | hkd | hkd
      · subst hkd
        have HIF : Hid (FieldsOK ⟨1, p, n, N, m, K⟩ ↔ _) := fields_cmp 1 p n N m K (by decide)
        go_wp2_with fail
        refine (l1In_any 1 1 8 _).mono ?_
        rintro e v1 ⟨rfl, hb1⟩
        have f1 : v1.cell? ⟨w.heap.size, 0, none⟩ = some (.slice (some ⟨b, off, none⟩) t c) := by rw [hb1.cell (by simp; omega)]; simp [World.cell?_alloc_past, hz, hf]
        have x10 : v1.cell? ⟨x0.heap.size, 0, none⟩ = some (.int .i64 1) := by rw [hb1.cell (by simp)]; simp [World.cell?_alloc_new]
        have x11 : v1.cell? ⟨x0.heap.size, 1, none⟩ = some (.string p) := by rw [hb1.cell (by simp)]; simp [World.cell?_alloc_new]
        have x12 : v1.cell? ⟨x0.heap.size, 2, none⟩ = some (.slice va n vc) := by rw [hb1.cell (by simp)]; simp [World.cell?_alloc_new]
        have x13 : v1.cell? ⟨x0.heap.size, 3, none⟩ = some (.slice ka m kc) := by rw [hb1.cell (by simp)]; simp [World.cell?_alloc_new]
        have z1' := hb1.size
        simp at z1'
        have HR1 : Hid (Below x0.heap.size x0 v1) := (HWA _).trans (hb1.mono (by simp))
        clear hb1 HWA
        go_wp2_with fail
        refine (l5Leaf_any 1 _).mono ?_
        rintro e v2 ⟨rfl, hb2⟩
        have f2 : v2.cell? ⟨w.heap.size, 0, none⟩ = some (.slice (some ⟨b, off, none⟩) t c) := (hb2.cell (by show w.heap.size < _; omega)).trans f1
        have x20 : v2.cell? ⟨x0.heap.size, 0, none⟩ = some (.int .i64 1) := (hb2.cell (by show x0.heap.size < _; omega)).trans x10
        have x21 : v2.cell? ⟨x0.heap.size, 1, none⟩ = some (.string p) := (hb2.cell (by show x0.heap.size < _; omega)).trans x11
        have x22 : v2.cell? ⟨x0.heap.size, 2, none⟩ = some (.slice va n vc) := (hb2.cell (by show x0.heap.size < _; omega)).trans x12
        have x23 : v2.cell? ⟨x0.heap.size, 3, none⟩ = some (.slice ka m kc) := (hb2.cell (by show x0.heap.size < _; omega)).trans x13
        have z2 := hb2.size
        have HR2 : Hid (Below x0.heap.size x0 v2) := HR1.out.trans (hb2.mono HR1.out.size)
        clear hb2 f1 x10 x11 x12 x13 HR1
        go_wp2_with fail
        refine (show Calls Tryz.prog 10 #[.string p] _ (NamesIs p.data.toList _) from l3Path_any p.data.toList _ s1).mono ?_
        rintro e v3 ⟨vv, g, rfl, _, _, hb3⟩
        have f3 : v3.cell? ⟨w.heap.size, 0, none⟩ = some (.slice (some ⟨b, off, none⟩) t c) := (hb3.cell (by show w.heap.size < _; omega)).trans f2
        have x30 : v3.cell? ⟨x0.heap.size, 0, none⟩ = some (.int .i64 1) := (hb3.cell (by show x0.heap.size < _; omega)).trans x20
        have x31 : v3.cell? ⟨x0.heap.size, 1, none⟩ = some (.string p) := (hb3.cell (by show x0.heap.size < _; omega)).trans x21
        have x32 : v3.cell? ⟨x0.heap.size, 2, none⟩ = some (.slice va n vc) := (hb3.cell (by show x0.heap.size < _; omega)).trans x22
        have x33 : v3.cell? ⟨x0.heap.size, 3, none⟩ = some (.slice ka m kc) := (hb3.cell (by show x0.heap.size < _; omega)).trans x23
        have z3 := hb3.size
        have HR3 : Hid (Below x0.heap.size x0 v3) := HR2.out.trans (hb3.mono HR2.out.size)
        clear hb3 f2 x20 x21 x22 x23 HR2
        cases hpp : (namesL p.data.toList).isSome with
        | false =>
          have HN : Hid (¬ GoodF F t) := HBAD.out fun h => by have := (HIF.out.1 h).1; unfold PathIs at this; rw [hpp] at this; simp at this
          clear hpp
          go_wp2
          go_ret
          exact BoolIs.no HN.out (HNX.out.trans (HR3.out.mono HNX.out.size))
        | true =>
          have HP : Hid (PathIs p) := hpp
          clear hpp
          by_cases m0 : m = 0
          · have HM0 : Hid (m = 0) := m0
            have m1 : ¬ ((0 : Int) < (m : Int)) := by omega
            clear m0
            go_wp2_with fail
            refine (specGood_arg va vc n N _ (HV.out.1.below HR3.out) HSN.out).mono ?_
            rintro e v4 ⟨q, rfl, hq, hb4⟩
            have f4 : v4.cell? ⟨w.heap.size, 0, none⟩ = some (.slice (some ⟨b, off, none⟩) t c) := (hb4.cell (by show w.heap.size < _; omega)).trans f3
            have x40 : v4.cell? ⟨x0.heap.size, 0, none⟩ = some (.int .i64 1) := (hb4.cell (by show x0.heap.size < _; omega)).trans x30
            have x41 : v4.cell? ⟨x0.heap.size, 1, none⟩ = some (.string p) := (hb4.cell (by show x0.heap.size < _; omega)).trans x31
            have x42 : v4.cell? ⟨x0.heap.size, 2, none⟩ = some (.slice va n vc) := (hb4.cell (by show x0.heap.size < _; omega)).trans x32
            have x43 : v4.cell? ⟨x0.heap.size, 3, none⟩ = some (.slice ka m kc) := (hb4.cell (by show x0.heap.size < _; omega)).trans x33
            have z4 := hb4.size
            have HR4 : Hid (Below x0.heap.size x0 v4) := HR3.out.trans (hb4.mono HR3.out.size)
            clear hb4 f3 x30 x31 x32 x33 HR3
            cases q with
            | false =>
              have HN : Hid (¬ GoodF F t) := HBAD.out fun h => by simpa using hq.2 (HIF.out.1 h).2.1
              clear hq
              go_wp2
              go_ret
              exact BoolIs.no HN.out (HNX.out.trans (HR4.out.mono HNX.out.size))
            | true =>
              have HY := HNEXT.out (HIF.out.2 ⟨HP.out, hq.1 rfl, HM0.out⟩) (fun j hj => by have := HM0.out; omega)
              have HY' : Hid (∀ j, j < k + 1 → FieldsOK (F j) ∧ RisA (F j).K (F j).m j) := HY
              clear HY hq
              go_wp2
              go_roundw
              case rel => exact ⟨k + 1, by omega, by go_num, by omega, HNX.out.trans (HR4.out.mono HNX.out.size), by omega, f4, by have h := HI.out.below HR4.out (by omega); rw [HC0.out HM0.out] at h; exact h, HY'⟩
              case measure => simp [intOf]; omega
          · have HN : Hid (¬ GoodF F t) := HBAD.out fun h => m0 (HIF.out.1 h).2.2
            have m1 : (0 : Int) < (m : Int) := by omega
            go_wp2
            go_ret
            exact BoolIs.no HN.out (HNX.out.trans (HR3.out.mono HNX.out.size))
      · subst hkd
        have HIF : Hid (FieldsOK ⟨2, p, n, N, m, K⟩ ↔ _) := fields_cmp 2 p n N m K (by decide)
        go_wp2_with fail
        refine (l1In_any 2 1 8 _).mono ?_
        rintro e v1 ⟨rfl, hb1⟩
        have f1 : v1.cell? ⟨w.heap.size, 0, none⟩ = some (.slice (some ⟨b, off, none⟩) t c) := by rw [hb1.cell (by simp; omega)]; simp [World.cell?_alloc_past, hz, hf]
        have x10 : v1.cell? ⟨x0.heap.size, 0, none⟩ = some (.int .i64 2) := by rw [hb1.cell (by simp)]; simp [World.cell?_alloc_new]
        have x11 : v1.cell? ⟨x0.heap.size, 1, none⟩ = some (.string p) := by rw [hb1.cell (by simp)]; simp [World.cell?_alloc_new]
        have x12 : v1.cell? ⟨x0.heap.size, 2, none⟩ = some (.slice va n vc) := by rw [hb1.cell (by simp)]; simp [World.cell?_alloc_new]
        have x13 : v1.cell? ⟨x0.heap.size, 3, none⟩ = some (.slice ka m kc) := by rw [hb1.cell (by simp)]; simp [World.cell?_alloc_new]
        have z1' := hb1.size
        simp at z1'
        have HR1 : Hid (Below x0.heap.size x0 v1) := (HWA _).trans (hb1.mono (by simp))
        clear hb1 HWA
        go_wp2_with fail
        refine (l5Leaf_any 2 _).mono ?_
        rintro e v2 ⟨rfl, hb2⟩
        have f2 : v2.cell? ⟨w.heap.size, 0, none⟩ = some (.slice (some ⟨b, off, none⟩) t c) := (hb2.cell (by show w.heap.size < _; omega)).trans f1
        have x20 : v2.cell? ⟨x0.heap.size, 0, none⟩ = some (.int .i64 2) := (hb2.cell (by show x0.heap.size < _; omega)).trans x10
        have x21 : v2.cell? ⟨x0.heap.size, 1, none⟩ = some (.string p) := (hb2.cell (by show x0.heap.size < _; omega)).trans x11
        have x22 : v2.cell? ⟨x0.heap.size, 2, none⟩ = some (.slice va n vc) := (hb2.cell (by show x0.heap.size < _; omega)).trans x12
        have x23 : v2.cell? ⟨x0.heap.size, 3, none⟩ = some (.slice ka m kc) := (hb2.cell (by show x0.heap.size < _; omega)).trans x13
        have z2 := hb2.size
        have HR2 : Hid (Below x0.heap.size x0 v2) := HR1.out.trans (hb2.mono HR1.out.size)
        clear hb2 f1 x10 x11 x12 x13 HR1
        go_wp2_with fail
        refine (show Calls Tryz.prog 10 #[.string p] _ (NamesIs p.data.toList _) from l3Path_any p.data.toList _ s1).mono ?_
        rintro e v3 ⟨vv, g, rfl, _, _, hb3⟩
        have f3 : v3.cell? ⟨w.heap.size, 0, none⟩ = some (.slice (some ⟨b, off, none⟩) t c) := (hb3.cell (by show w.heap.size < _; omega)).trans f2
        have x30 : v3.cell? ⟨x0.heap.size, 0, none⟩ = some (.int .i64 2) := (hb3.cell (by show x0.heap.size < _; omega)).trans x20
        have x31 : v3.cell? ⟨x0.heap.size, 1, none⟩ = some (.string p) := (hb3.cell (by show x0.heap.size < _; omega)).trans x21
        have x32 : v3.cell? ⟨x0.heap.size, 2, none⟩ = some (.slice va n vc) := (hb3.cell (by show x0.heap.size < _; omega)).trans x22
        have x33 : v3.cell? ⟨x0.heap.size, 3, none⟩ = some (.slice ka m kc) := (hb3.cell (by show x0.heap.size < _; omega)).trans x23
        have z3 := hb3.size
        have HR3 : Hid (Below x0.heap.size x0 v3) := HR2.out.trans (hb3.mono HR2.out.size)
        clear hb3 f2 x20 x21 x22 x23 HR2
        cases hpp : (namesL p.data.toList).isSome with
        | false =>
          have HN : Hid (¬ GoodF F t) := HBAD.out fun h => by have := (HIF.out.1 h).1; unfold PathIs at this; rw [hpp] at this; simp at this
          clear hpp
          go_wp2
          go_ret
          exact BoolIs.no HN.out (HNX.out.trans (HR3.out.mono HNX.out.size))
        | true =>
          have HP : Hid (PathIs p) := hpp
          clear hpp
          by_cases m0 : m = 0
          · have HM0 : Hid (m = 0) := m0
            have m1 : ¬ ((0 : Int) < (m : Int)) := by omega
            clear m0
            go_wp2_with fail
            refine (specGood_arg va vc n N _ (HV.out.1.below HR3.out) HSN.out).mono ?_
            rintro e v4 ⟨q, rfl, hq, hb4⟩
            have f4 : v4.cell? ⟨w.heap.size, 0, none⟩ = some (.slice (some ⟨b, off, none⟩) t c) := (hb4.cell (by show w.heap.size < _; omega)).trans f3
            have x40 : v4.cell? ⟨x0.heap.size, 0, none⟩ = some (.int .i64 2) := (hb4.cell (by show x0.heap.size < _; omega)).trans x30
            have x41 : v4.cell? ⟨x0.heap.size, 1, none⟩ = some (.string p) := (hb4.cell (by show x0.heap.size < _; omega)).trans x31
            have x42 : v4.cell? ⟨x0.heap.size, 2, none⟩ = some (.slice va n vc) := (hb4.cell (by show x0.heap.size < _; omega)).trans x32
            have x43 : v4.cell? ⟨x0.heap.size, 3, none⟩ = some (.slice ka m kc) := (hb4.cell (by show x0.heap.size < _; omega)).trans x33
            have z4 := hb4.size
            have HR4 : Hid (Below x0.heap.size x0 v4) := HR3.out.trans (hb4.mono HR3.out.size)
            clear hb4 f3 x30 x31 x32 x33 HR3
            cases q with
            | false =>
              have HN : Hid (¬ GoodF F t) := HBAD.out fun h => by simpa using hq.2 (HIF.out.1 h).2.1
              clear hq
              go_wp2
              go_ret
              exact BoolIs.no HN.out (HNX.out.trans (HR4.out.mono HNX.out.size))
            | true =>
              have HY := HNEXT.out (HIF.out.2 ⟨HP.out, hq.1 rfl, HM0.out⟩) (fun j hj => by have := HM0.out; omega)
              have HY' : Hid (∀ j, j < k + 1 → FieldsOK (F j) ∧ RisA (F j).K (F j).m j) := HY
              clear HY hq
              go_wp2
              go_roundw
              case rel => exact ⟨k + 1, by omega, by go_num, by omega, HNX.out.trans (HR4.out.mono HNX.out.size), by omega, f4, by have h := HI.out.below HR4.out (by omega); rw [HC0.out HM0.out] at h; exact h, HY'⟩
              case measure => simp [intOf]; omega
          · have HN : Hid (¬ GoodF F t) := HBAD.out fun h => m0 (HIF.out.1 h).2.2
            have m1 : (0 : Int) < (m : Int) := by omega
            go_wp2
            go_ret
            exact BoolIs.no HN.out (HNX.out.trans (HR3.out.mono HNX.out.size))
      · subst hkd
        have HIF : Hid (FieldsOK ⟨3, p, n, N, m, K⟩ ↔ _) := fields_cmp 3 p n N m K (by decide)
        go_wp2_with fail
        refine (l1In_any 3 1 8 _).mono ?_
        rintro e v1 ⟨rfl, hb1⟩
        have f1 : v1.cell? ⟨w.heap.size, 0, none⟩ = some (.slice (some ⟨b, off, none⟩) t c) := by rw [hb1.cell (by simp; omega)]; simp [World.cell?_alloc_past, hz, hf]
        have x10 : v1.cell? ⟨x0.heap.size, 0, none⟩ = some (.int .i64 3) := by rw [hb1.cell (by simp)]; simp [World.cell?_alloc_new]
        have x11 : v1.cell? ⟨x0.heap.size, 1, none⟩ = some (.string p) := by rw [hb1.cell (by simp)]; simp [World.cell?_alloc_new]
        have x12 : v1.cell? ⟨x0.heap.size, 2, none⟩ = some (.slice va n vc) := by rw [hb1.cell (by simp)]; simp [World.cell?_alloc_new]
        have x13 : v1.cell? ⟨x0.heap.size, 3, none⟩ = some (.slice ka m kc) := by rw [hb1.cell (by simp)]; simp [World.cell?_alloc_new]
        have z1' := hb1.size
        simp at z1'
        have HR1 : Hid (Below x0.heap.size x0 v1) := (HWA _).trans (hb1.mono (by simp))
        clear hb1 HWA
        go_wp2_with fail
        refine (l5Leaf_any 3 _).mono ?_
        rintro e v2 ⟨rfl, hb2⟩
        have f2 : v2.cell? ⟨w.heap.size, 0, none⟩ = some (.slice (some ⟨b, off, none⟩) t c) := (hb2.cell (by show w.heap.size < _; omega)).trans f1
        have x20 : v2.cell? ⟨x0.heap.size, 0, none⟩ = some (.int .i64 3) := (hb2.cell (by show x0.heap.size < _; omega)).trans x10
        have x21 : v2.cell? ⟨x0.heap.size, 1, none⟩ = some (.string p) := (hb2.cell (by show x0.heap.size < _; omega)).trans x11
        have x22 : v2.cell? ⟨x0.heap.size, 2, none⟩ = some (.slice va n vc) := (hb2.cell (by show x0.heap.size < _; omega)).trans x12
        have x23 : v2.cell? ⟨x0.heap.size, 3, none⟩ = some (.slice ka m kc) := (hb2.cell (by show x0.heap.size < _; omega)).trans x13
        have z2 := hb2.size
        have HR2 : Hid (Below x0.heap.size x0 v2) := HR1.out.trans (hb2.mono HR1.out.size)
        clear hb2 f1 x10 x11 x12 x13 HR1
        go_wp2_with fail
        refine (show Calls Tryz.prog 10 #[.string p] _ (NamesIs p.data.toList _) from l3Path_any p.data.toList _ s1).mono ?_
        rintro e v3 ⟨vv, g, rfl, _, _, hb3⟩
        have f3 : v3.cell? ⟨w.heap.size, 0, none⟩ = some (.slice (some ⟨b, off, none⟩) t c) := (hb3.cell (by show w.heap.size < _; omega)).trans f2
        have x30 : v3.cell? ⟨x0.heap.size, 0, none⟩ = some (.int .i64 3) := (hb3.cell (by show x0.heap.size < _; omega)).trans x20
        have x31 : v3.cell? ⟨x0.heap.size, 1, none⟩ = some (.string p) := (hb3.cell (by show x0.heap.size < _; omega)).trans x21
        have x32 : v3.cell? ⟨x0.heap.size, 2, none⟩ = some (.slice va n vc) := (hb3.cell (by show x0.heap.size < _; omega)).trans x22
        have x33 : v3.cell? ⟨x0.heap.size, 3, none⟩ = some (.slice ka m kc) := (hb3.cell (by show x0.heap.size < _; omega)).trans x23
        have z3 := hb3.size
        have HR3 : Hid (Below x0.heap.size x0 v3) := HR2.out.trans (hb3.mono HR2.out.size)
        clear hb3 f2 x20 x21 x22 x23 HR2
        cases hpp : (namesL p.data.toList).isSome with
        | false =>
          have HN : Hid (¬ GoodF F t) := HBAD.out fun h => by have := (HIF.out.1 h).1; unfold PathIs at this; rw [hpp] at this; simp at this
          clear hpp
          go_wp2
          go_ret
          exact BoolIs.no HN.out (HNX.out.trans (HR3.out.mono HNX.out.size))
        | true =>
          have HP : Hid (PathIs p) := hpp
          clear hpp
          by_cases m0 : m = 0
          · have HM0 : Hid (m = 0) := m0
            have m1 : ¬ ((0 : Int) < (m : Int)) := by omega
            clear m0
            go_wp2_with fail
            refine (specGood_arg va vc n N _ (HV.out.1.below HR3.out) HSN.out).mono ?_
            rintro e v4 ⟨q, rfl, hq, hb4⟩
            have f4 : v4.cell? ⟨w.heap.size, 0, none⟩ = some (.slice (some ⟨b, off, none⟩) t c) := (hb4.cell (by show w.heap.size < _; omega)).trans f3
            have x40 : v4.cell? ⟨x0.heap.size, 0, none⟩ = some (.int .i64 3) := (hb4.cell (by show x0.heap.size < _; omega)).trans x30
            have x41 : v4.cell? ⟨x0.heap.size, 1, none⟩ = some (.string p) := (hb4.cell (by show x0.heap.size < _; omega)).trans x31
            have x42 : v4.cell? ⟨x0.heap.size, 2, none⟩ = some (.slice va n vc) := (hb4.cell (by show x0.heap.size < _; omega)).trans x32
            have x43 : v4.cell? ⟨x0.heap.size, 3, none⟩ = some (.slice ka m kc) := (hb4.cell (by show x0.heap.size < _; omega)).trans x33
            have z4 := hb4.size
            have HR4 : Hid (Below x0.heap.size x0 v4) := HR3.out.trans (hb4.mono HR3.out.size)
            clear hb4 f3 x30 x31 x32 x33 HR3
            cases q with
            | false =>
              have HN : Hid (¬ GoodF F t) := HBAD.out fun h => by simpa using hq.2 (HIF.out.1 h).2.1
              clear hq
              go_wp2
              go_ret
              exact BoolIs.no HN.out (HNX.out.trans (HR4.out.mono HNX.out.size))
            | true =>
              have HY := HNEXT.out (HIF.out.2 ⟨HP.out, hq.1 rfl, HM0.out⟩) (fun j hj => by have := HM0.out; omega)
              have HY' : Hid (∀ j, j < k + 1 → FieldsOK (F j) ∧ RisA (F j).K (F j).m j) := HY
              clear HY hq
              go_wp2
              go_roundw
              case rel => exact ⟨k + 1, by omega, by go_num, by omega, HNX.out.trans (HR4.out.mono HNX.out.size), by omega, f4, by have h := HI.out.below HR4.out (by omega); rw [HC0.out HM0.out] at h; exact h, HY'⟩
              case measure => simp [intOf]; omega
          · have HN : Hid (¬ GoodF F t) := HBAD.out fun h => m0 (HIF.out.1 h).2.2
            have m1 : (0 : Int) < (m : Int) := by omega
            go_wp2
            go_ret
            exact BoolIs.no HN.out (HNX.out.trans (HR3.out.mono HNX.out.size))
      · subst hkd
        have HIF : Hid (FieldsOK ⟨4, p, n, N, m, K⟩ ↔ _) := fields_has p n N m K
        go_wp2_with fail
        refine (l1In_any 4 1 8 _).mono ?_
        rintro e v1 ⟨rfl, hb1⟩
        have f1 : v1.cell? ⟨w.heap.size, 0, none⟩ = some (.slice (some ⟨b, off, none⟩) t c) := by rw [hb1.cell (by simp; omega)]; simp [World.cell?_alloc_past, hz, hf]
        have x10 : v1.cell? ⟨x0.heap.size, 0, none⟩ = some (.int .i64 4) := by rw [hb1.cell (by simp)]; simp [World.cell?_alloc_new]
        have x11 : v1.cell? ⟨x0.heap.size, 1, none⟩ = some (.string p) := by rw [hb1.cell (by simp)]; simp [World.cell?_alloc_new]
        have x12 : v1.cell? ⟨x0.heap.size, 2, none⟩ = some (.slice va n vc) := by rw [hb1.cell (by simp)]; simp [World.cell?_alloc_new]
        have x13 : v1.cell? ⟨x0.heap.size, 3, none⟩ = some (.slice ka m kc) := by rw [hb1.cell (by simp)]; simp [World.cell?_alloc_new]
        have z1' := hb1.size
        simp at z1'
        have HR1 : Hid (Below x0.heap.size x0 v1) := (HWA _).trans (hb1.mono (by simp))
        clear hb1 HWA
        go_wp2_with fail
        refine (l5Leaf_any 4 _).mono ?_
        rintro e v2 ⟨rfl, hb2⟩
        have f2 : v2.cell? ⟨w.heap.size, 0, none⟩ = some (.slice (some ⟨b, off, none⟩) t c) := (hb2.cell (by show w.heap.size < _; omega)).trans f1
        have x20 : v2.cell? ⟨x0.heap.size, 0, none⟩ = some (.int .i64 4) := (hb2.cell (by show x0.heap.size < _; omega)).trans x10
        have x21 : v2.cell? ⟨x0.heap.size, 1, none⟩ = some (.string p) := (hb2.cell (by show x0.heap.size < _; omega)).trans x11
        have x22 : v2.cell? ⟨x0.heap.size, 2, none⟩ = some (.slice va n vc) := (hb2.cell (by show x0.heap.size < _; omega)).trans x12
        have x23 : v2.cell? ⟨x0.heap.size, 3, none⟩ = some (.slice ka m kc) := (hb2.cell (by show x0.heap.size < _; omega)).trans x13
        have z2 := hb2.size
        have HR2 : Hid (Below x0.heap.size x0 v2) := HR1.out.trans (hb2.mono HR1.out.size)
        clear hb2 f1 x10 x11 x12 x13 HR1
        go_wp2_with fail
        refine (show Calls Tryz.prog 10 #[.string p] _ (NamesIs p.data.toList _) from l3Path_any p.data.toList _ s1).mono ?_
        rintro e v3 ⟨vv, g, rfl, _, _, hb3⟩
        have f3 : v3.cell? ⟨w.heap.size, 0, none⟩ = some (.slice (some ⟨b, off, none⟩) t c) := (hb3.cell (by show w.heap.size < _; omega)).trans f2
        have x30 : v3.cell? ⟨x0.heap.size, 0, none⟩ = some (.int .i64 4) := (hb3.cell (by show x0.heap.size < _; omega)).trans x20
        have x31 : v3.cell? ⟨x0.heap.size, 1, none⟩ = some (.string p) := (hb3.cell (by show x0.heap.size < _; omega)).trans x21
        have x32 : v3.cell? ⟨x0.heap.size, 2, none⟩ = some (.slice va n vc) := (hb3.cell (by show x0.heap.size < _; omega)).trans x22
        have x33 : v3.cell? ⟨x0.heap.size, 3, none⟩ = some (.slice ka m kc) := (hb3.cell (by show x0.heap.size < _; omega)).trans x23
        have z3 := hb3.size
        have HR3 : Hid (Below x0.heap.size x0 v3) := HR2.out.trans (hb3.mono HR2.out.size)
        clear hb3 f2 x20 x21 x22 x23 HR2
        cases hpp : (namesL p.data.toList).isSome with
        | false =>
          have HN : Hid (¬ GoodF F t) := HBAD.out fun h => by have := (HIF.out.1 h).1; unfold PathIs at this; rw [hpp] at this; simp at this
          clear hpp
          go_wp2
          go_ret
          exact BoolIs.no HN.out (HNX.out.trans (HR3.out.mono HNX.out.size))
        | true =>
          have HP : Hid (PathIs p) := hpp
          clear hpp
          by_cases m0 : m = 0
          · have HM0 : Hid (m = 0) := m0
            have m1 : ¬ ((0 : Int) < (m : Int)) := by omega
            clear m0
            go_wp2_with fail
            refine (l5Zero_any va vc n _ HSN.out.1).mono ?_
            rintro e v4 ⟨q, rfl, hq, hb4⟩
            have f4 : v4.cell? ⟨w.heap.size, 0, none⟩ = some (.slice (some ⟨b, off, none⟩) t c) := (hb4.cell (by show w.heap.size < _; omega)).trans f3
            have x40 : v4.cell? ⟨x0.heap.size, 0, none⟩ = some (.int .i64 4) := (hb4.cell (by show x0.heap.size < _; omega)).trans x30
            have x41 : v4.cell? ⟨x0.heap.size, 1, none⟩ = some (.string p) := (hb4.cell (by show x0.heap.size < _; omega)).trans x31
            have x42 : v4.cell? ⟨x0.heap.size, 2, none⟩ = some (.slice va n vc) := (hb4.cell (by show x0.heap.size < _; omega)).trans x32
            have x43 : v4.cell? ⟨x0.heap.size, 3, none⟩ = some (.slice ka m kc) := (hb4.cell (by show x0.heap.size < _; omega)).trans x33
            have z4 := hb4.size
            have HR4 : Hid (Below x0.heap.size x0 v4) := HR3.out.trans (hb4.mono HR3.out.size)
            clear hb4 f3 x30 x31 x32 x33 HR3
            cases q with
            | false =>
              have HN : Hid (¬ GoodF F t) := HBAD.out fun h => by simpa using hq.2 (HIF.out.1 h).2.1
              clear hq
              go_wp2
              go_ret
              exact BoolIs.no HN.out (HNX.out.trans (HR4.out.mono HNX.out.size))
            | true =>
              have HY' : Hid (∀ j, j < k + 1 → FieldsOK (F j) ∧ RisA (F j).K (F j).m j) := HNEXT.out (HIF.out.2 ⟨HP.out, hq.1 rfl, HM0.out⟩) (fun j hj => by have := HM0.out; omega)
              clear hq
              go_wp2
              go_roundw
              case rel => exact ⟨k + 1, by omega, by go_num, by omega, HNX.out.trans (HR4.out.mono HNX.out.size), by omega, f4, by have h := HI.out.below HR4.out (by omega); rw [HC0.out HM0.out] at h; exact h, HY'⟩
              case measure => simp [intOf]; omega
          · have HN : Hid (¬ GoodF F t) := HBAD.out fun h => m0 (HIF.out.1 h).2.2
            have m1 : (0 : Int) < (m : Int) := by omega
            go_wp2
            go_ret
            exact BoolIs.no HN.out (HNX.out.trans (HR3.out.mono HNX.out.size))
      · subst hkd
        have HIF : Hid (FieldsOK ⟨5, p, n, N, m, K⟩ ↔ _) := fields_in p n N m K
        go_wp2_with fail
        refine (l1In_any 5 1 8 _).mono ?_
        rintro e v1 ⟨rfl, hb1⟩
        have f1 : v1.cell? ⟨w.heap.size, 0, none⟩ = some (.slice (some ⟨b, off, none⟩) t c) := by rw [hb1.cell (by simp; omega)]; simp [World.cell?_alloc_past, hz, hf]
        have x10 : v1.cell? ⟨x0.heap.size, 0, none⟩ = some (.int .i64 5) := by rw [hb1.cell (by simp)]; simp [World.cell?_alloc_new]
        have x11 : v1.cell? ⟨x0.heap.size, 1, none⟩ = some (.string p) := by rw [hb1.cell (by simp)]; simp [World.cell?_alloc_new]
        have x12 : v1.cell? ⟨x0.heap.size, 2, none⟩ = some (.slice va n vc) := by rw [hb1.cell (by simp)]; simp [World.cell?_alloc_new]
        have x13 : v1.cell? ⟨x0.heap.size, 3, none⟩ = some (.slice ka m kc) := by rw [hb1.cell (by simp)]; simp [World.cell?_alloc_new]
        have z1' := hb1.size
        simp at z1'
        have HR1 : Hid (Below x0.heap.size x0 v1) := (HWA _).trans (hb1.mono (by simp))
        clear hb1 HWA
        go_wp2_with fail
        refine (l5Leaf_any 5 _).mono ?_
        rintro e v2 ⟨rfl, hb2⟩
        have f2 : v2.cell? ⟨w.heap.size, 0, none⟩ = some (.slice (some ⟨b, off, none⟩) t c) := (hb2.cell (by show w.heap.size < _; omega)).trans f1
        have x20 : v2.cell? ⟨x0.heap.size, 0, none⟩ = some (.int .i64 5) := (hb2.cell (by show x0.heap.size < _; omega)).trans x10
        have x21 : v2.cell? ⟨x0.heap.size, 1, none⟩ = some (.string p) := (hb2.cell (by show x0.heap.size < _; omega)).trans x11
        have x22 : v2.cell? ⟨x0.heap.size, 2, none⟩ = some (.slice va n vc) := (hb2.cell (by show x0.heap.size < _; omega)).trans x12
        have x23 : v2.cell? ⟨x0.heap.size, 3, none⟩ = some (.slice ka m kc) := (hb2.cell (by show x0.heap.size < _; omega)).trans x13
        have z2 := hb2.size
        have HR2 : Hid (Below x0.heap.size x0 v2) := HR1.out.trans (hb2.mono HR1.out.size)
        clear hb2 f1 x10 x11 x12 x13 HR1
        go_wp2_with fail
        refine (show Calls Tryz.prog 10 #[.string p] _ (NamesIs p.data.toList _) from l3Path_any p.data.toList _ s1).mono ?_
        rintro e v3 ⟨vv, g, rfl, _, _, hb3⟩
        have f3 : v3.cell? ⟨w.heap.size, 0, none⟩ = some (.slice (some ⟨b, off, none⟩) t c) := (hb3.cell (by show w.heap.size < _; omega)).trans f2
        have x30 : v3.cell? ⟨x0.heap.size, 0, none⟩ = some (.int .i64 5) := (hb3.cell (by show x0.heap.size < _; omega)).trans x20
        have x31 : v3.cell? ⟨x0.heap.size, 1, none⟩ = some (.string p) := (hb3.cell (by show x0.heap.size < _; omega)).trans x21
        have x32 : v3.cell? ⟨x0.heap.size, 2, none⟩ = some (.slice va n vc) := (hb3.cell (by show x0.heap.size < _; omega)).trans x22
        have x33 : v3.cell? ⟨x0.heap.size, 3, none⟩ = some (.slice ka m kc) := (hb3.cell (by show x0.heap.size < _; omega)).trans x23
        have z3 := hb3.size
        have HR3 : Hid (Below x0.heap.size x0 v3) := HR2.out.trans (hb3.mono HR2.out.size)
        clear hb3 f2 x20 x21 x22 x23 HR2
        cases hpp : (namesL p.data.toList).isSome with
        | false =>
          have HN : Hid (¬ GoodF F t) := HBAD.out fun h => by have := (HIF.out.1 h).1; unfold PathIs at this; rw [hpp] at this; simp at this
          clear hpp
          go_wp2
          go_ret
          exact BoolIs.no HN.out (HNX.out.trans (HR3.out.mono HNX.out.size))
        | true =>
          have HP : Hid (PathIs p) := hpp
          clear hpp
          by_cases m0 : m = 0
          · have HM0 : Hid (m = 0) := m0
            have m1 : ¬ ((0 : Int) < (m : Int)) := by omega
            clear m0
            go_wp2_with fail
            refine (specGood_arg va vc n N _ (HV.out.1.below HR3.out) HSN.out).mono ?_
            rintro e v4 ⟨q, rfl, hq, hb4⟩
            have f4 : v4.cell? ⟨w.heap.size, 0, none⟩ = some (.slice (some ⟨b, off, none⟩) t c) := (hb4.cell (by show w.heap.size < _; omega)).trans f3
            have x40 : v4.cell? ⟨x0.heap.size, 0, none⟩ = some (.int .i64 5) := (hb4.cell (by show x0.heap.size < _; omega)).trans x30
            have x41 : v4.cell? ⟨x0.heap.size, 1, none⟩ = some (.string p) := (hb4.cell (by show x0.heap.size < _; omega)).trans x31
            have x42 : v4.cell? ⟨x0.heap.size, 2, none⟩ = some (.slice va n vc) := (hb4.cell (by show x0.heap.size < _; omega)).trans x32
            have x43 : v4.cell? ⟨x0.heap.size, 3, none⟩ = some (.slice ka m kc) := (hb4.cell (by show x0.heap.size < _; omega)).trans x33
            have z4 := hb4.size
            have HR4 : Hid (Below x0.heap.size x0 v4) := HR3.out.trans (hb4.mono HR3.out.size)
            clear hb4 f3 x30 x31 x32 x33 HR3
            cases q with
            | false =>
              have HN : Hid (¬ GoodF F t) := HBAD.out fun h => by simpa using hq.2 (HIF.out.1 h).2.1.1
              clear hq
              go_wp2
              go_ret
              exact BoolIs.no HN.out (HNX.out.trans (HR4.out.mono HNX.out.size))
            | true =>
              have hg := hq.1 rfl
              have n0 := good_pos hg
              have HG : Hid (GoodV N n) := hg
              have n20 := HSN.out.1
              clear hq hg
              rcases HV.out.1.below HR4.out with h0 | ⟨bb, oo, rfl, hbb, hat⟩
              · omega
              have a0 := (hat 0 n0).1
              have i2 : (0 : Int) < (n : Int) := by omega
              simp only [Nat.zero_mul, Nat.add_zero] at a0
              clear hat
              by_cases h6 : (N 0).kind = 6
              · rw [h6] at a0
                have HY' : Hid (∀ j, j < k + 1 → FieldsOK (F j) ∧ RisA (F j).K (F j).m j) := HNEXT.out (HIF.out.2 ⟨HP.out, ⟨HG.out, h6⟩, HM0.out⟩) (fun j hj => by have := HM0.out; omega)
                clear h6
                go_wp2
                go_roundw
                case rel => exact ⟨k + 1, by omega, by go_num, by omega, HNX.out.trans (HR4.out.mono HNX.out.size), by omega, f4, by have h := HI.out.below HR4.out (by omega); rw [HC0.out HM0.out] at h; exact h, HY'⟩
                case measure => simp [intOf]; omega
              · have HN : Hid (¬ GoodF F t) := HBAD.out fun h => h6 (HIF.out.1 h).2.1.2
                obtain ⟨k6, hk6⟩ : ∃ k6, k6 = (N 0).kind := ⟨_, rfl⟩
                rw [← hk6] at a0 h6
                clear hk6
                go_wp2
                go_ret
                exact BoolIs.no HN.out (HNX.out.trans (HR4.out.mono HNX.out.size))
          · have HN : Hid (¬ GoodF F t) := HBAD.out fun h => m0 (HIF.out.1 h).2.2
            have m1 : (0 : Int) < (m : Int) := by omega
            go_wp2
            go_ret
            exact BoolIs.no HN.out (HNX.out.trans (HR3.out.mono HNX.out.size))
      · subst hkd
        have HIF : Hid (FieldsOK ⟨6, p, n, N, m, K⟩ ↔ _) := fields_all 6 p n N m K (by decide)
        go_wp2_with fail
        refine (l1In_any 6 1 8 _).mono ?_
        rintro e v1 ⟨rfl, hb1⟩
        have f1 : v1.cell? ⟨w.heap.size, 0, none⟩ = some (.slice (some ⟨b, off, none⟩) t c) := by rw [hb1.cell (by simp; omega)]; simp [World.cell?_alloc_past, hz, hf]
        have x10 : v1.cell? ⟨x0.heap.size, 0, none⟩ = some (.int .i64 6) := by rw [hb1.cell (by simp)]; simp [World.cell?_alloc_new]
        have x11 : v1.cell? ⟨x0.heap.size, 1, none⟩ = some (.string p) := by rw [hb1.cell (by simp)]; simp [World.cell?_alloc_new]
        have x12 : v1.cell? ⟨x0.heap.size, 2, none⟩ = some (.slice va n vc) := by rw [hb1.cell (by simp)]; simp [World.cell?_alloc_new]
        have x13 : v1.cell? ⟨x0.heap.size, 3, none⟩ = some (.slice ka m kc) := by rw [hb1.cell (by simp)]; simp [World.cell?_alloc_new]
        have z1' := hb1.size
        simp at z1'
        have HR1 : Hid (Below x0.heap.size x0 v1) := (HWA _).trans (hb1.mono (by simp))
        clear hb1 HWA
        go_wp2_with fail
        refine (l5Leaf_any 6 _).mono ?_
        rintro e v2 ⟨rfl, hb2⟩
        have f2 : v2.cell? ⟨w.heap.size, 0, none⟩ = some (.slice (some ⟨b, off, none⟩) t c) := (hb2.cell (by show w.heap.size < _; omega)).trans f1
        have x20 : v2.cell? ⟨x0.heap.size, 0, none⟩ = some (.int .i64 6) := (hb2.cell (by show x0.heap.size < _; omega)).trans x10
        have x21 : v2.cell? ⟨x0.heap.size, 1, none⟩ = some (.string p) := (hb2.cell (by show x0.heap.size < _; omega)).trans x11
        have x22 : v2.cell? ⟨x0.heap.size, 2, none⟩ = some (.slice va n vc) := (hb2.cell (by show x0.heap.size < _; omega)).trans x12
        have x23 : v2.cell? ⟨x0.heap.size, 3, none⟩ = some (.slice ka m kc) := (hb2.cell (by show x0.heap.size < _; omega)).trans x13
        have z2 := hb2.size
        have HR2 : Hid (Below x0.heap.size x0 v2) := HR1.out.trans (hb2.mono HR1.out.size)
        clear hb2 f1 x10 x11 x12 x13 HR1
        by_cases p0 : p.size = 0
        · have pe : p.toList = [] := (empty_iff p).2 p0
          have HP0 : Hid (p.size = 0) := p0
          clear p0
          go_wp2_with fail
          refine (l5Zero_any va vc n _ HSN.out.1).mono ?_
          rintro e v3 ⟨q, rfl, hq, hb3⟩
          have f3 : v3.cell? ⟨w.heap.size, 0, none⟩ = some (.slice (some ⟨b, off, none⟩) t c) := (hb3.cell (by show w.heap.size < _; omega)).trans f2
          have x30 : v3.cell? ⟨x0.heap.size, 0, none⟩ = some (.int .i64 6) := (hb3.cell (by show x0.heap.size < _; omega)).trans x20
          have x31 : v3.cell? ⟨x0.heap.size, 1, none⟩ = some (.string p) := (hb3.cell (by show x0.heap.size < _; omega)).trans x21
          have x32 : v3.cell? ⟨x0.heap.size, 2, none⟩ = some (.slice va n vc) := (hb3.cell (by show x0.heap.size < _; omega)).trans x22
          have x33 : v3.cell? ⟨x0.heap.size, 3, none⟩ = some (.slice ka m kc) := (hb3.cell (by show x0.heap.size < _; omega)).trans x23
          have z3 := hb3.size
          have HR3 : Hid (Below x0.heap.size x0 v3) := HR2.out.trans (hb3.mono HR2.out.size)
          clear hb3 f2 x20 x21 x22 x23 HR2
          cases q with
          | false =>
            have HN : Hid (¬ GoodF F t) := HBAD.out fun h => by simpa using hq.2 (HIF.out.1 h).2
            clear hq
            go_wp2
            go_ret
            exact BoolIs.no HN.out (HNX.out.trans (HR3.out.mono HNX.out.size))
          | true =>
            have HN0 : Hid (n = 0) := hq.1 rfl
            clear hq
            have HF : Hid (FieldsOK ⟨6, p, n, N, m, K⟩) := HIF.out.2 ⟨HP0.out, HN0.out⟩
            have HB3 : Hid (Below w.heap.size w v3) := HNX.out.trans (HR3.out.mono HNX.out.size)
            have HI3 : Hid (IntsAt v3 w1.heap.size t (C 0)) := HI0.out.below HR3.out hz1
            clear HR3 HI0 HI HNX a0 a1 a2 a3 hf
            go_wp2_with fail
            clear x30 x31 x32
            go_loopw [107] (fun i wr2 => ∃ j : Nat, j ≤ m ∧ i = .int .i64 (j : Int) ∧ x0.heap.size < wr2.heap.size ∧ wr2.cell? ⟨w.heap.size, 0, none⟩ = some (.slice (some ⟨b, off, none⟩) t c) ∧ wr2.cell? ⟨x0.heap.size, 3, none⟩ = some (.slice ka m kc) ∧ Below w.heap.size w wr2 ∧ Hid (IntsAt wr2 w1.heap.size t (C j)) ∧ Hid (∀ i, i < j → (0 ≤ K i ∧ K i < k) ∧ (0 < i → K (i - 1) < K i))) (fun i _ => m - (intOf i).toNat)
            case atStart => exact ⟨0, Nat.zero_le _, rfl, by omega, f3, x33, HB3.out, HI3, fun i hi => by omega⟩
            case round =>
              clear f3 x33 HB3 HI3
              obtain ⟨j, hj, rfl, hz2, f3, x33, hnx2, HI, HRJ⟩ := hrel
              by_cases hjm : j < m
              · rcases HV.out.2 with h0 | ⟨b', off', rfl, hb', hat⟩
                · omega
                have d0 := (hnx2.cell hb').trans (hat j hjm)
                have j0 : (0 : Int) ≤ (j : Int) := by omega
                have j1 : (j : Int) < (m : Int) := by omega
                have HNX2 : Hid (Below w.heap.size w wr) := hnx2
                have HRN : Hid (∀ i, i < m → ¬ ((0 ≤ K i ∧ K i < k) ∧ (0 < i → K (i - 1) < K i)) → ¬ GoodF F t) := fun i hi h => HRIS.out fun r => h (r i hi)
                by_cases hr : 0 ≤ K j ∧ K j ≤ (k : Int) - 1
                · obtain ⟨q, hq⟩ : ∃ q : Nat, K j = (q : Int) := ⟨(K j).toNat, by omega⟩
                  have hqt : q < t := by omega
                  have hqk : (q : Int) < k := by omega
                  have hd : (decide (0 ≤ (q : Int)) && decide ((q : Int) ≤ (k : Int) - 1)) = true := by simp; omega
                  obtain ⟨cb0, cb1⟩ := HCB.out j q hj
                  have HCQ : Hid ((fun z => if z = q then C j q + 1 else C j z) = C (j + 1)) := HCS.out j q hq
                  have HPJ : Hid (0 < j → ¬ K (j - 1) < (q : Int) → ¬ GoodF F t) := fun h0 h1 => HRN.out j hjm (fun h => h1 (by have := h.2 h0; omega))
                  have HRJ' : Hid ((0 < j → K (j - 1) < (q : Int)) → ∀ i, i < j + 1 → (0 ≤ K i ∧ K i < k) ∧ (0 < i → K (i - 1) < K i)) := fun h i hi => by
                    by_cases e : i = j
                    · subst e; exact ⟨⟨by omega, by omega⟩, fun h0 => by have := h h0; omega⟩
                    · exact HRJ.out i (by omega)
                  rw [hq] at d0
                  clear hq hr
                  by_cases hp : 0 < j
                  · obtain ⟨i, rfl⟩ : ∃ i, j = i + 1 := ⟨j - 1, by omega⟩
                    have e0 := (hnx2.cell hb').trans (hat i (by omega))
                    simp only [Nat.add_sub_cancel] at HPJ HRJ'
                    obtain ⟨y, hy⟩ : ∃ y, y = K i := ⟨_, rfl⟩
                    rw [← hy] at e0 HPJ HRJ'
                    have i2 : (0 : Int) ≤ (i : Int) := by omega
                    have i3 : (i : Int) < (m : Int) := by omega
                    have i4 : (0 : Int) < (i : Int) + 1 := by omega
                    have hs1 : ((i + 1 : Nat) : Int) - 1 = (i : Int) := by omega
                    clear hat hnx2 hy
                    by_cases hle : (q : Int) ≤ y
                    · have HN : Hid (¬ GoodF F t) := HPJ.out hp (by omega)
                      go_wp2_with fail
                      go_fit (l1In_any (q : Int) 0 ((k : Int) - 1) wr)
                      rw [hd]
                      rintro e v4 ⟨rfl, hb4⟩
                      have x43 : v4.cell? ⟨x0.heap.size, 3, none⟩ = some (.slice (some ⟨b', off', none⟩) m kc) := (hb4.cell (by show x0.heap.size < _; omega)).trans x33
                      have e4 : v4.cell? ⟨b', off' + i, none⟩ = some (.int .i64 y) := (hb4.cell (by show b' < _; omega)).trans e0
                      have HB4 : Hid (Below w.heap.size w v4) := HNX2.out.trans (hb4.mono HNX2.out.size)
                      clear hb4
                      go_wp2
                      go_ret
                      exact BoolIs.no HN.out HB4.out
                    · have HRK : Hid (∀ i_1, i_1 < i + 1 + 1 → (0 ≤ K i_1 ∧ K i_1 < k) ∧ (0 < i_1 → K (i_1 - 1) < K i_1)) := HRJ'.out (fun _ => by omega)
                      go_wp2_with fail
                      go_fit (l1In_any (q : Int) 0 ((k : Int) - 1) wr)
                      rw [hd]
                      rintro e v4 ⟨rfl, hb4⟩
                      have x43 : v4.cell? ⟨x0.heap.size, 3, none⟩ = some (.slice (some ⟨b', off', none⟩) m kc) := (hb4.cell (by show x0.heap.size < _; omega)).trans x33
                      have f4 : v4.cell? ⟨w.heap.size, 0, none⟩ = some (.slice (some ⟨b, off, none⟩) t c) := (hb4.cell (by show w.heap.size < _; omega)).trans f3
                      have e4 : v4.cell? ⟨b', off' + i, none⟩ = some (.int .i64 y) := (hb4.cell (by show b' < _; omega)).trans e0
                      have HB4 : Hid (Below w.heap.size w v4) := HNX2.out.trans (hb4.mono HNX2.out.size)
                      have z4 := hb4.size
                      have HI4 : Hid (IntsAt v4 w1.heap.size t (C (i + 1))) := HI.out.below hb4 (by omega)
                      clear hb4 HI
                      have c0 := (HI4.out q hqt).1
                      have c1 := (HI4.out q hqt).2
                      have HIS : Hid (IntsAt (v4.setCell ⟨w1.heap.size, q, none⟩ (.int .i64 (C (i + 1) q + 1))) w1.heap.size t (C (i + 1 + 1))) := by
                        rw [← HCQ.out]
                        exact HI4.out.set hqt (C (i + 1) q + 1)
                      have HBS : Hid (Below w.heap.size w (v4.setCell ⟨w1.heap.size, q, none⟩ (.int .i64 (C (i + 1) q + 1)))) := HB4.out.setCell (p := ⟨w1.heap.size, _, none⟩) (by show w.heap.size ≤ w1.heap.size; omega) _
                      have q0 : (0 : Int) ≤ (q : Int) := by omega
                      have q1 : (q : Int) < (t : Int) := by omega
                      obtain ⟨x, hx⟩ : ∃ x, x = C (i + 1) q := ⟨_, rfl⟩
                      rw [← hx] at c0 cb0 cb1 HIS HBS
                      clear hx HCQ
                      go_wp2
                      go_roundw
                      case rel => exact ⟨i + 1 + 1, by omega, by go_num, by simp [World.setCell]; omega, (World.cell?_setCell_other _ _ _ _ (by intro e; injection e with e1 _ _; omega)).trans f4, (World.cell?_setCell_other _ _ _ _ (by intro e; injection e with e1 _ _; omega)).trans x43, HBS.out, HIS, HRK⟩
                      case measure => simp [intOf]; omega
                  · have hp' : ¬ ((0 : Int) < (j : Int)) := by omega
                    have HRK : Hid (∀ i_1, i_1 < j + 1 → (0 ≤ K i_1 ∧ K i_1 < k) ∧ (0 < i_1 → K (i_1 - 1) < K i_1)) := HRJ'.out (fun h => absurd h hp)
                    clear hp hat hnx2
                    go_wp2_with fail
                    go_fit (l1In_any (q : Int) 0 ((k : Int) - 1) wr)
                    rw [hd]
                    rintro e v4 ⟨rfl, hb4⟩
                    have x43 : v4.cell? ⟨x0.heap.size, 3, none⟩ = some (.slice (some ⟨b', off', none⟩) m kc) := (hb4.cell (by show x0.heap.size < _; omega)).trans x33
                    have f4 : v4.cell? ⟨w.heap.size, 0, none⟩ = some (.slice (some ⟨b, off, none⟩) t c) := (hb4.cell (by show w.heap.size < _; omega)).trans f3
                    have HB4 : Hid (Below w.heap.size w v4) := HNX2.out.trans (hb4.mono HNX2.out.size)
                    have z4 := hb4.size
                    have HI4 : Hid (IntsAt v4 w1.heap.size t (C j)) := HI.out.below hb4 (by omega)
                    clear hb4 HI
                    have c0 := (HI4.out q hqt).1
                    have c1 := (HI4.out q hqt).2
                    have HIS : Hid (IntsAt (v4.setCell ⟨w1.heap.size, q, none⟩ (.int .i64 (C (j) q + 1))) w1.heap.size t (C (j + 1))) := by
                      rw [← HCQ.out]
                      exact HI4.out.set hqt (C (j) q + 1)
                    have HBS : Hid (Below w.heap.size w (v4.setCell ⟨w1.heap.size, q, none⟩ (.int .i64 (C (j) q + 1)))) := HB4.out.setCell (p := ⟨w1.heap.size, _, none⟩) (by show w.heap.size ≤ w1.heap.size; omega) _
                    have q0 : (0 : Int) ≤ (q : Int) := by omega
                    have q1 : (q : Int) < (t : Int) := by omega
                    obtain ⟨x, hx⟩ : ∃ x, x = C (j) q := ⟨_, rfl⟩
                    rw [← hx] at c0 cb0 cb1 HIS HBS
                    clear hx HCQ
                    go_wp2
                    go_roundw
                    case rel => exact ⟨j + 1, by omega, by go_num, by simp [World.setCell]; omega, (World.cell?_setCell_other _ _ _ _ (by intro e; injection e with e1 _ _; omega)).trans f4, (World.cell?_setCell_other _ _ _ _ (by intro e; injection e with e1 _ _; omega)).trans x43, HBS.out, HIS, HRK⟩
                    case measure => simp [intOf]; omega
                · have HN : Hid (¬ GoodF F t) := HRN.out j hjm (fun h => hr ⟨h.1.1, by have := h.1.2; omega⟩)
                  have hd : (decide (0 ≤ K j) && decide (K j ≤ (k : Int) - 1)) = false := by simp; omega
                  obtain ⟨y, hy⟩ : ∃ y, y = K j := ⟨_, rfl⟩
                  rw [← hy] at d0 hd
                  clear hat hnx2 hy hr
                  go_wp2_with fail
                  go_fit (l1In_any y 0 ((k : Int) - 1) wr)
                  rw [hd]
                  rintro e v4 ⟨rfl, hb4⟩
                  have HB4 : Hid (Below w.heap.size w v4) := HNX2.out.trans (hb4.mono HNX2.out.size)
                  clear hb4
                  go_wp2
                  go_ret
                  exact BoolIs.no HN.out HB4.out
              · obtain rfl : j = m := by omega
                have HY' : Hid (∀ j, j < k + 1 → FieldsOK (F j) ∧ RisA (F j).K (F j).m j) := HNEXT.out HF.out HRJ.out
                have HI' : Hid (IntsAt wr w1.heap.size t (fun z : Nat => tcnt F (k + 1) z)) := by have h := HI.out; rw [HCW.out] at h; exact h
                go_wp2
                go_roundw
                case rel => exact ⟨k + 1, by omega, by go_num, by omega, hnx2, by omega, f3, HI', HY'⟩
                case measure => simp [intOf]; omega
        · have HN : Hid (¬ GoodF F t) := HBAD.out fun h => p0 (HIF.out.1 h).1
          have pe : ¬ p.toList = [] := fun h => p0 ((empty_iff p).1 h)
          clear p0
          go_wp2
          go_ret
          exact BoolIs.no HN.out (HNX.out.trans (HR2.out.mono HNX.out.size))
      · subst hkd
        have HIF : Hid (FieldsOK ⟨7, p, n, N, m, K⟩ ↔ _) := fields_all 7 p n N m K (by decide)
        go_wp2_with fail
        refine (l1In_any 7 1 8 _).mono ?_
        rintro e v1 ⟨rfl, hb1⟩
        have f1 : v1.cell? ⟨w.heap.size, 0, none⟩ = some (.slice (some ⟨b, off, none⟩) t c) := by rw [hb1.cell (by simp; omega)]; simp [World.cell?_alloc_past, hz, hf]
        have x10 : v1.cell? ⟨x0.heap.size, 0, none⟩ = some (.int .i64 7) := by rw [hb1.cell (by simp)]; simp [World.cell?_alloc_new]
        have x11 : v1.cell? ⟨x0.heap.size, 1, none⟩ = some (.string p) := by rw [hb1.cell (by simp)]; simp [World.cell?_alloc_new]
        have x12 : v1.cell? ⟨x0.heap.size, 2, none⟩ = some (.slice va n vc) := by rw [hb1.cell (by simp)]; simp [World.cell?_alloc_new]
        have x13 : v1.cell? ⟨x0.heap.size, 3, none⟩ = some (.slice ka m kc) := by rw [hb1.cell (by simp)]; simp [World.cell?_alloc_new]
        have z1' := hb1.size
        simp at z1'
        have HR1 : Hid (Below x0.heap.size x0 v1) := (HWA _).trans (hb1.mono (by simp))
        clear hb1 HWA
        go_wp2_with fail
        refine (l5Leaf_any 7 _).mono ?_
        rintro e v2 ⟨rfl, hb2⟩
        have f2 : v2.cell? ⟨w.heap.size, 0, none⟩ = some (.slice (some ⟨b, off, none⟩) t c) := (hb2.cell (by show w.heap.size < _; omega)).trans f1
        have x20 : v2.cell? ⟨x0.heap.size, 0, none⟩ = some (.int .i64 7) := (hb2.cell (by show x0.heap.size < _; omega)).trans x10
        have x21 : v2.cell? ⟨x0.heap.size, 1, none⟩ = some (.string p) := (hb2.cell (by show x0.heap.size < _; omega)).trans x11
        have x22 : v2.cell? ⟨x0.heap.size, 2, none⟩ = some (.slice va n vc) := (hb2.cell (by show x0.heap.size < _; omega)).trans x12
        have x23 : v2.cell? ⟨x0.heap.size, 3, none⟩ = some (.slice ka m kc) := (hb2.cell (by show x0.heap.size < _; omega)).trans x13
        have z2 := hb2.size
        have HR2 : Hid (Below x0.heap.size x0 v2) := HR1.out.trans (hb2.mono HR1.out.size)
        clear hb2 f1 x10 x11 x12 x13 HR1
        by_cases p0 : p.size = 0
        · have pe : p.toList = [] := (empty_iff p).2 p0
          have HP0 : Hid (p.size = 0) := p0
          clear p0
          go_wp2_with fail
          refine (l5Zero_any va vc n _ HSN.out.1).mono ?_
          rintro e v3 ⟨q, rfl, hq, hb3⟩
          have f3 : v3.cell? ⟨w.heap.size, 0, none⟩ = some (.slice (some ⟨b, off, none⟩) t c) := (hb3.cell (by show w.heap.size < _; omega)).trans f2
          have x30 : v3.cell? ⟨x0.heap.size, 0, none⟩ = some (.int .i64 7) := (hb3.cell (by show x0.heap.size < _; omega)).trans x20
          have x31 : v3.cell? ⟨x0.heap.size, 1, none⟩ = some (.string p) := (hb3.cell (by show x0.heap.size < _; omega)).trans x21
          have x32 : v3.cell? ⟨x0.heap.size, 2, none⟩ = some (.slice va n vc) := (hb3.cell (by show x0.heap.size < _; omega)).trans x22
          have x33 : v3.cell? ⟨x0.heap.size, 3, none⟩ = some (.slice ka m kc) := (hb3.cell (by show x0.heap.size < _; omega)).trans x23
          have z3 := hb3.size
          have HR3 : Hid (Below x0.heap.size x0 v3) := HR2.out.trans (hb3.mono HR2.out.size)
          clear hb3 f2 x20 x21 x22 x23 HR2
          cases q with
          | false =>
            have HN : Hid (¬ GoodF F t) := HBAD.out fun h => by simpa using hq.2 (HIF.out.1 h).2
            clear hq
            go_wp2
            go_ret
            exact BoolIs.no HN.out (HNX.out.trans (HR3.out.mono HNX.out.size))
          | true =>
            have HN0 : Hid (n = 0) := hq.1 rfl
            clear hq
            have HF : Hid (FieldsOK ⟨7, p, n, N, m, K⟩) := HIF.out.2 ⟨HP0.out, HN0.out⟩
            have HB3 : Hid (Below w.heap.size w v3) := HNX.out.trans (HR3.out.mono HNX.out.size)
            have HI3 : Hid (IntsAt v3 w1.heap.size t (C 0)) := HI0.out.below HR3.out hz1
            clear HR3 HI0 HI HNX a0 a1 a2 a3 hf
            go_wp2_with fail
            clear x30 x31 x32
            go_loopw [107] (fun i wr2 => ∃ j : Nat, j ≤ m ∧ i = .int .i64 (j : Int) ∧ x0.heap.size < wr2.heap.size ∧ wr2.cell? ⟨w.heap.size, 0, none⟩ = some (.slice (some ⟨b, off, none⟩) t c) ∧ wr2.cell? ⟨x0.heap.size, 3, none⟩ = some (.slice ka m kc) ∧ Below w.heap.size w wr2 ∧ Hid (IntsAt wr2 w1.heap.size t (C j)) ∧ Hid (∀ i, i < j → (0 ≤ K i ∧ K i < k) ∧ (0 < i → K (i - 1) < K i))) (fun i _ => m - (intOf i).toNat)
            case atStart => exact ⟨0, Nat.zero_le _, rfl, by omega, f3, x33, HB3.out, HI3, fun i hi => by omega⟩
            case round =>
              clear f3 x33 HB3 HI3
              obtain ⟨j, hj, rfl, hz2, f3, x33, hnx2, HI, HRJ⟩ := hrel
              by_cases hjm : j < m
              · rcases HV.out.2 with h0 | ⟨b', off', rfl, hb', hat⟩
                · omega
                have d0 := (hnx2.cell hb').trans (hat j hjm)
                have j0 : (0 : Int) ≤ (j : Int) := by omega
                have j1 : (j : Int) < (m : Int) := by omega
                have HNX2 : Hid (Below w.heap.size w wr) := hnx2
                have HRN : Hid (∀ i, i < m → ¬ ((0 ≤ K i ∧ K i < k) ∧ (0 < i → K (i - 1) < K i)) → ¬ GoodF F t) := fun i hi h => HRIS.out fun r => h (r i hi)
                by_cases hr : 0 ≤ K j ∧ K j ≤ (k : Int) - 1
                · obtain ⟨q, hq⟩ : ∃ q : Nat, K j = (q : Int) := ⟨(K j).toNat, by omega⟩
                  have hqt : q < t := by omega
                  have hqk : (q : Int) < k := by omega
                  have hd : (decide (0 ≤ (q : Int)) && decide ((q : Int) ≤ (k : Int) - 1)) = true := by simp; omega
                  obtain ⟨cb0, cb1⟩ := HCB.out j q hj
                  have HCQ : Hid ((fun z => if z = q then C j q + 1 else C j z) = C (j + 1)) := HCS.out j q hq
                  have HPJ : Hid (0 < j → ¬ K (j - 1) < (q : Int) → ¬ GoodF F t) := fun h0 h1 => HRN.out j hjm (fun h => h1 (by have := h.2 h0; omega))
                  have HRJ' : Hid ((0 < j → K (j - 1) < (q : Int)) → ∀ i, i < j + 1 → (0 ≤ K i ∧ K i < k) ∧ (0 < i → K (i - 1) < K i)) := fun h i hi => by
                    by_cases e : i = j
                    · subst e; exact ⟨⟨by omega, by omega⟩, fun h0 => by have := h h0; omega⟩
                    · exact HRJ.out i (by omega)
                  rw [hq] at d0
                  clear hq hr
                  by_cases hp : 0 < j
                  · obtain ⟨i, rfl⟩ : ∃ i, j = i + 1 := ⟨j - 1, by omega⟩
                    have e0 := (hnx2.cell hb').trans (hat i (by omega))
                    simp only [Nat.add_sub_cancel] at HPJ HRJ'
                    obtain ⟨y, hy⟩ : ∃ y, y = K i := ⟨_, rfl⟩
                    rw [← hy] at e0 HPJ HRJ'
                    have i2 : (0 : Int) ≤ (i : Int) := by omega
                    have i3 : (i : Int) < (m : Int) := by omega
                    have i4 : (0 : Int) < (i : Int) + 1 := by omega
                    have hs1 : ((i + 1 : Nat) : Int) - 1 = (i : Int) := by omega
                    clear hat hnx2 hy
                    by_cases hle : (q : Int) ≤ y
                    · have HN : Hid (¬ GoodF F t) := HPJ.out hp (by omega)
                      go_wp2_with fail
                      go_fit (l1In_any (q : Int) 0 ((k : Int) - 1) wr)
                      rw [hd]
                      rintro e v4 ⟨rfl, hb4⟩
                      have x43 : v4.cell? ⟨x0.heap.size, 3, none⟩ = some (.slice (some ⟨b', off', none⟩) m kc) := (hb4.cell (by show x0.heap.size < _; omega)).trans x33
                      have e4 : v4.cell? ⟨b', off' + i, none⟩ = some (.int .i64 y) := (hb4.cell (by show b' < _; omega)).trans e0
                      have HB4 : Hid (Below w.heap.size w v4) := HNX2.out.trans (hb4.mono HNX2.out.size)
                      clear hb4
                      go_wp2
                      go_ret
                      exact BoolIs.no HN.out HB4.out
                    · have HRK : Hid (∀ i_1, i_1 < i + 1 + 1 → (0 ≤ K i_1 ∧ K i_1 < k) ∧ (0 < i_1 → K (i_1 - 1) < K i_1)) := HRJ'.out (fun _ => by omega)
                      go_wp2_with fail
                      go_fit (l1In_any (q : Int) 0 ((k : Int) - 1) wr)
                      rw [hd]
                      rintro e v4 ⟨rfl, hb4⟩
                      have x43 : v4.cell? ⟨x0.heap.size, 3, none⟩ = some (.slice (some ⟨b', off', none⟩) m kc) := (hb4.cell (by show x0.heap.size < _; omega)).trans x33
                      have f4 : v4.cell? ⟨w.heap.size, 0, none⟩ = some (.slice (some ⟨b, off, none⟩) t c) := (hb4.cell (by show w.heap.size < _; omega)).trans f3
                      have e4 : v4.cell? ⟨b', off' + i, none⟩ = some (.int .i64 y) := (hb4.cell (by show b' < _; omega)).trans e0
                      have HB4 : Hid (Below w.heap.size w v4) := HNX2.out.trans (hb4.mono HNX2.out.size)
                      have z4 := hb4.size
                      have HI4 : Hid (IntsAt v4 w1.heap.size t (C (i + 1))) := HI.out.below hb4 (by omega)
                      clear hb4 HI
                      have c0 := (HI4.out q hqt).1
                      have c1 := (HI4.out q hqt).2
                      have HIS : Hid (IntsAt (v4.setCell ⟨w1.heap.size, q, none⟩ (.int .i64 (C (i + 1) q + 1))) w1.heap.size t (C (i + 1 + 1))) := by
                        rw [← HCQ.out]
                        exact HI4.out.set hqt (C (i + 1) q + 1)
                      have HBS : Hid (Below w.heap.size w (v4.setCell ⟨w1.heap.size, q, none⟩ (.int .i64 (C (i + 1) q + 1)))) := HB4.out.setCell (p := ⟨w1.heap.size, _, none⟩) (by show w.heap.size ≤ w1.heap.size; omega) _
                      have q0 : (0 : Int) ≤ (q : Int) := by omega
                      have q1 : (q : Int) < (t : Int) := by omega
                      obtain ⟨x, hx⟩ : ∃ x, x = C (i + 1) q := ⟨_, rfl⟩
                      rw [← hx] at c0 cb0 cb1 HIS HBS
                      clear hx HCQ
                      go_wp2
                      go_roundw
                      case rel => exact ⟨i + 1 + 1, by omega, by go_num, by simp [World.setCell]; omega, (World.cell?_setCell_other _ _ _ _ (by intro e; injection e with e1 _ _; omega)).trans f4, (World.cell?_setCell_other _ _ _ _ (by intro e; injection e with e1 _ _; omega)).trans x43, HBS.out, HIS, HRK⟩
                      case measure => simp [intOf]; omega
                  · have hp' : ¬ ((0 : Int) < (j : Int)) := by omega
                    have HRK : Hid (∀ i_1, i_1 < j + 1 → (0 ≤ K i_1 ∧ K i_1 < k) ∧ (0 < i_1 → K (i_1 - 1) < K i_1)) := HRJ'.out (fun h => absurd h hp)
                    clear hp hat hnx2
                    go_wp2_with fail
                    go_fit (l1In_any (q : Int) 0 ((k : Int) - 1) wr)
                    rw [hd]
                    rintro e v4 ⟨rfl, hb4⟩
                    have x43 : v4.cell? ⟨x0.heap.size, 3, none⟩ = some (.slice (some ⟨b', off', none⟩) m kc) := (hb4.cell (by show x0.heap.size < _; omega)).trans x33
                    have f4 : v4.cell? ⟨w.heap.size, 0, none⟩ = some (.slice (some ⟨b, off, none⟩) t c) := (hb4.cell (by show w.heap.size < _; omega)).trans f3
                    have HB4 : Hid (Below w.heap.size w v4) := HNX2.out.trans (hb4.mono HNX2.out.size)
                    have z4 := hb4.size
                    have HI4 : Hid (IntsAt v4 w1.heap.size t (C j)) := HI.out.below hb4 (by omega)
                    clear hb4 HI
                    have c0 := (HI4.out q hqt).1
                    have c1 := (HI4.out q hqt).2
                    have HIS : Hid (IntsAt (v4.setCell ⟨w1.heap.size, q, none⟩ (.int .i64 (C (j) q + 1))) w1.heap.size t (C (j + 1))) := by
                      rw [← HCQ.out]
                      exact HI4.out.set hqt (C (j) q + 1)
                    have HBS : Hid (Below w.heap.size w (v4.setCell ⟨w1.heap.size, q, none⟩ (.int .i64 (C (j) q + 1)))) := HB4.out.setCell (p := ⟨w1.heap.size, _, none⟩) (by show w.heap.size ≤ w1.heap.size; omega) _
                    have q0 : (0 : Int) ≤ (q : Int) := by omega
                    have q1 : (q : Int) < (t : Int) := by omega
                    obtain ⟨x, hx⟩ : ∃ x, x = C (j) q := ⟨_, rfl⟩
                    rw [← hx] at c0 cb0 cb1 HIS HBS
                    clear hx HCQ
                    go_wp2
                    go_roundw
                    case rel => exact ⟨j + 1, by omega, by go_num, by simp [World.setCell]; omega, (World.cell?_setCell_other _ _ _ _ (by intro e; injection e with e1 _ _; omega)).trans f4, (World.cell?_setCell_other _ _ _ _ (by intro e; injection e with e1 _ _; omega)).trans x43, HBS.out, HIS, HRK⟩
                    case measure => simp [intOf]; omega
                · have HN : Hid (¬ GoodF F t) := HRN.out j hjm (fun h => hr ⟨h.1.1, by have := h.1.2; omega⟩)
                  have hd : (decide (0 ≤ K j) && decide (K j ≤ (k : Int) - 1)) = false := by simp; omega
                  obtain ⟨y, hy⟩ : ∃ y, y = K j := ⟨_, rfl⟩
                  rw [← hy] at d0 hd
                  clear hat hnx2 hy hr
                  go_wp2_with fail
                  go_fit (l1In_any y 0 ((k : Int) - 1) wr)
                  rw [hd]
                  rintro e v4 ⟨rfl, hb4⟩
                  have HB4 : Hid (Below w.heap.size w v4) := HNX2.out.trans (hb4.mono HNX2.out.size)
                  clear hb4
                  go_wp2
                  go_ret
                  exact BoolIs.no HN.out HB4.out
              · obtain rfl : j = m := by omega
                have HY' : Hid (∀ j, j < k + 1 → FieldsOK (F j) ∧ RisA (F j).K (F j).m j) := HNEXT.out HF.out HRJ.out
                have HI' : Hid (IntsAt wr w1.heap.size t (fun z : Nat => tcnt F (k + 1) z)) := by have h := HI.out; rw [HCW.out] at h; exact h
                go_wp2
                go_roundw
                case rel => exact ⟨k + 1, by omega, by go_num, by omega, hnx2, by omega, f3, HI', HY'⟩
                case measure => simp [intOf]; omega
        · have HN : Hid (¬ GoodF F t) := HBAD.out fun h => p0 (HIF.out.1 h).1
          have pe : ¬ p.toList = [] := fun h => p0 ((empty_iff p).1 h)
          clear p0
          go_wp2
          go_ret
          exact BoolIs.no HN.out (HNX.out.trans (HR2.out.mono HNX.out.size))
      · subst hkd
        have HIF : Hid (FieldsOK ⟨8, p, n, N, m, K⟩ ↔ _) := fields_not p n N m K
        go_wp2_with fail
        refine (l1In_any 8 1 8 _).mono ?_
        rintro e v1 ⟨rfl, hb1⟩
        have f1 : v1.cell? ⟨w.heap.size, 0, none⟩ = some (.slice (some ⟨b, off, none⟩) t c) := by rw [hb1.cell (by simp; omega)]; simp [World.cell?_alloc_past, hz, hf]
        have x10 : v1.cell? ⟨x0.heap.size, 0, none⟩ = some (.int .i64 8) := by rw [hb1.cell (by simp)]; simp [World.cell?_alloc_new]
        have x11 : v1.cell? ⟨x0.heap.size, 1, none⟩ = some (.string p) := by rw [hb1.cell (by simp)]; simp [World.cell?_alloc_new]
        have x12 : v1.cell? ⟨x0.heap.size, 2, none⟩ = some (.slice va n vc) := by rw [hb1.cell (by simp)]; simp [World.cell?_alloc_new]
        have x13 : v1.cell? ⟨x0.heap.size, 3, none⟩ = some (.slice ka m kc) := by rw [hb1.cell (by simp)]; simp [World.cell?_alloc_new]
        have z1' := hb1.size
        simp at z1'
        have HR1 : Hid (Below x0.heap.size x0 v1) := (HWA _).trans (hb1.mono (by simp))
        clear hb1 HWA
        go_wp2_with fail
        refine (l5Leaf_any 8 _).mono ?_
        rintro e v2 ⟨rfl, hb2⟩
        have f2 : v2.cell? ⟨w.heap.size, 0, none⟩ = some (.slice (some ⟨b, off, none⟩) t c) := (hb2.cell (by show w.heap.size < _; omega)).trans f1
        have x20 : v2.cell? ⟨x0.heap.size, 0, none⟩ = some (.int .i64 8) := (hb2.cell (by show x0.heap.size < _; omega)).trans x10
        have x21 : v2.cell? ⟨x0.heap.size, 1, none⟩ = some (.string p) := (hb2.cell (by show x0.heap.size < _; omega)).trans x11
        have x22 : v2.cell? ⟨x0.heap.size, 2, none⟩ = some (.slice va n vc) := (hb2.cell (by show x0.heap.size < _; omega)).trans x12
        have x23 : v2.cell? ⟨x0.heap.size, 3, none⟩ = some (.slice ka m kc) := (hb2.cell (by show x0.heap.size < _; omega)).trans x13
        have z2 := hb2.size
        have HR2 : Hid (Below x0.heap.size x0 v2) := HR1.out.trans (hb2.mono HR1.out.size)
        clear hb2 f1 x10 x11 x12 x13 HR1
        by_cases p0 : p.size = 0
        · have pe : p.toList = [] := (empty_iff p).2 p0
          have HP0 : Hid (p.size = 0) := p0
          clear p0
          go_wp2_with fail
          refine (l5Zero_any va vc n _ HSN.out.1).mono ?_
          rintro e v3 ⟨q, rfl, hq, hb3⟩
          have f3 : v3.cell? ⟨w.heap.size, 0, none⟩ = some (.slice (some ⟨b, off, none⟩) t c) := (hb3.cell (by show w.heap.size < _; omega)).trans f2
          have x30 : v3.cell? ⟨x0.heap.size, 0, none⟩ = some (.int .i64 8) := (hb3.cell (by show x0.heap.size < _; omega)).trans x20
          have x31 : v3.cell? ⟨x0.heap.size, 1, none⟩ = some (.string p) := (hb3.cell (by show x0.heap.size < _; omega)).trans x21
          have x32 : v3.cell? ⟨x0.heap.size, 2, none⟩ = some (.slice va n vc) := (hb3.cell (by show x0.heap.size < _; omega)).trans x22
          have x33 : v3.cell? ⟨x0.heap.size, 3, none⟩ = some (.slice ka m kc) := (hb3.cell (by show x0.heap.size < _; omega)).trans x23
          have z3 := hb3.size
          have HR3 : Hid (Below x0.heap.size x0 v3) := HR2.out.trans (hb3.mono HR2.out.size)
          clear hb3 f2 x20 x21 x22 x23 HR2
          cases q with
          | false =>
            have HN : Hid (¬ GoodF F t) := HBAD.out fun h => by simpa using hq.2 (HIF.out.1 h).2.1
            clear hq
            go_wp2
            go_ret
            exact BoolIs.no HN.out (HNX.out.trans (HR3.out.mono HNX.out.size))
          | true =>
            have HN0 : Hid (n = 0) := hq.1 rfl
            clear hq
            by_cases m1 : m = 1
            · have HF : Hid (FieldsOK ⟨8, p, n, N, m, K⟩) := HIF.out.2 ⟨HP0.out, HN0.out, m1⟩
              subst m1
              have HB3 : Hid (Below w.heap.size w v3) := HNX.out.trans (HR3.out.mono HNX.out.size)
              have HI3 : Hid (IntsAt v3 w1.heap.size t (C 0)) := HI0.out.below HR3.out hz1
              clear HR3 HI0 HI HNX a0 a1 a2 a3 hf
              go_wp2_with fail
              clear x30 x31 x32
              go_loopw [107] (fun i wr2 => ∃ j : Nat, j ≤ 1 ∧ i = .int .i64 (j : Int) ∧ x0.heap.size < wr2.heap.size ∧ wr2.cell? ⟨w.heap.size, 0, none⟩ = some (.slice (some ⟨b, off, none⟩) t c) ∧ wr2.cell? ⟨x0.heap.size, 3, none⟩ = some (.slice ka 1 kc) ∧ Below w.heap.size w wr2 ∧ Hid (IntsAt wr2 w1.heap.size t (C j)) ∧ Hid (∀ i, i < j → (0 ≤ K i ∧ K i < k) ∧ (0 < i → K (i - 1) < K i))) (fun i _ => 1 - (intOf i).toNat)
              case atStart => exact ⟨0, Nat.zero_le _, rfl, by omega, f3, x33, HB3.out, HI3, fun i hi => by omega⟩
              case round =>
                clear f3 x33 HB3 HI3
                obtain ⟨j, hj, rfl, hz2, f3, x33, hnx2, HI, HRJ⟩ := hrel
                by_cases hjm : j < 1
                · rcases HV.out.2 with h0 | ⟨b', off', rfl, hb', hat⟩
                  · omega
                  have d0 := (hnx2.cell hb').trans (hat j hjm)
                  have j0 : (0 : Int) ≤ (j : Int) := by omega
                  have j1 : (j : Int) < (1 : Int) := by omega
                  have HNX2 : Hid (Below w.heap.size w wr) := hnx2
                  have HRN : Hid (∀ i, i < 1 → ¬ ((0 ≤ K i ∧ K i < k) ∧ (0 < i → K (i - 1) < K i)) → ¬ GoodF F t) := fun i hi h => HRIS.out fun r => h (r i hi)
                  by_cases hr : 0 ≤ K j ∧ K j ≤ (k : Int) - 1
                  · obtain ⟨q, hq⟩ : ∃ q : Nat, K j = (q : Int) := ⟨(K j).toNat, by omega⟩
                    have hqt : q < t := by omega
                    have hqk : (q : Int) < k := by omega
                    have hd : (decide (0 ≤ (q : Int)) && decide ((q : Int) ≤ (k : Int) - 1)) = true := by simp; omega
                    obtain ⟨cb0, cb1⟩ := HCB.out j q hj
                    have HCQ : Hid ((fun z => if z = q then C j q + 1 else C j z) = C (j + 1)) := HCS.out j q hq
                    have HPJ : Hid (0 < j → ¬ K (j - 1) < (q : Int) → ¬ GoodF F t) := fun h0 h1 => HRN.out j hjm (fun h => h1 (by have := h.2 h0; omega))
                    have HRJ' : Hid ((0 < j → K (j - 1) < (q : Int)) → ∀ i, i < j + 1 → (0 ≤ K i ∧ K i < k) ∧ (0 < i → K (i - 1) < K i)) := fun h i hi => by
                      by_cases e : i = j
                      · subst e; exact ⟨⟨by omega, by omega⟩, fun h0 => by have := h h0; omega⟩
                      · exact HRJ.out i (by omega)
                    rw [hq] at d0
                    clear hq hr
                    by_cases hp : 0 < j
                    · omega
                    · have hp' : ¬ ((0 : Int) < (j : Int)) := by omega
                      have HRK : Hid (∀ i_1, i_1 < j + 1 → (0 ≤ K i_1 ∧ K i_1 < k) ∧ (0 < i_1 → K (i_1 - 1) < K i_1)) := HRJ'.out (fun h => absurd h hp)
                      clear hp hat hnx2
                      go_wp2_with fail
                      go_fit (l1In_any (q : Int) 0 ((k : Int) - 1) wr)
                      rw [hd]
                      rintro e v4 ⟨rfl, hb4⟩
                      have x43 : v4.cell? ⟨x0.heap.size, 3, none⟩ = some (.slice (some ⟨b', off', none⟩) 1 kc) := (hb4.cell (by show x0.heap.size < _; omega)).trans x33
                      have f4 : v4.cell? ⟨w.heap.size, 0, none⟩ = some (.slice (some ⟨b, off, none⟩) t c) := (hb4.cell (by show w.heap.size < _; omega)).trans f3
                      have HB4 : Hid (Below w.heap.size w v4) := HNX2.out.trans (hb4.mono HNX2.out.size)
                      have z4 := hb4.size
                      have HI4 : Hid (IntsAt v4 w1.heap.size t (C j)) := HI.out.below hb4 (by omega)
                      clear hb4 HI
                      have c0 := (HI4.out q hqt).1
                      have c1 := (HI4.out q hqt).2
                      have HIS : Hid (IntsAt (v4.setCell ⟨w1.heap.size, q, none⟩ (.int .i64 (C (j) q + 1))) w1.heap.size t (C (j + 1))) := by
                        rw [← HCQ.out]
                        exact HI4.out.set hqt (C (j) q + 1)
                      have HBS : Hid (Below w.heap.size w (v4.setCell ⟨w1.heap.size, q, none⟩ (.int .i64 (C (j) q + 1)))) := HB4.out.setCell (p := ⟨w1.heap.size, _, none⟩) (by show w.heap.size ≤ w1.heap.size; omega) _
                      have q0 : (0 : Int) ≤ (q : Int) := by omega
                      have q1 : (q : Int) < (t : Int) := by omega
                      obtain ⟨x, hx⟩ : ∃ x, x = C (j) q := ⟨_, rfl⟩
                      rw [← hx] at c0 cb0 cb1 HIS HBS
                      clear hx HCQ
                      go_wp2
                      go_roundw
                      case rel => exact ⟨j + 1, by omega, by go_num, by simp [World.setCell]; omega, (World.cell?_setCell_other _ _ _ _ (by intro e; injection e with e1 _ _; omega)).trans f4, (World.cell?_setCell_other _ _ _ _ (by intro e; injection e with e1 _ _; omega)).trans x43, HBS.out, HIS, HRK⟩
                      case measure => simp [intOf]; omega
                  · have HN : Hid (¬ GoodF F t) := HRN.out j hjm (fun h => hr ⟨h.1.1, by have := h.1.2; omega⟩)
                    have hd : (decide (0 ≤ K j) && decide (K j ≤ (k : Int) - 1)) = false := by simp; omega
                    obtain ⟨y, hy⟩ : ∃ y, y = K j := ⟨_, rfl⟩
                    rw [← hy] at d0 hd
                    clear hat hnx2 hy hr
                    go_wp2_with fail
                    go_fit (l1In_any y 0 ((k : Int) - 1) wr)
                    rw [hd]
                    rintro e v4 ⟨rfl, hb4⟩
                    have HB4 : Hid (Below w.heap.size w v4) := HNX2.out.trans (hb4.mono HNX2.out.size)
                    clear hb4
                    go_wp2
                    go_ret
                    exact BoolIs.no HN.out HB4.out
                · obtain rfl : j = 1 := by omega
                  have HY' : Hid (∀ j, j < k + 1 → FieldsOK (F j) ∧ RisA (F j).K (F j).m j) := HNEXT.out HF.out HRJ.out
                  have HI' : Hid (IntsAt wr w1.heap.size t (fun z : Nat => tcnt F (k + 1) z)) := by have h := HI.out; rw [HCW.out] at h; exact h
                  go_wp2
                  go_roundw
                  case rel => exact ⟨k + 1, by omega, by go_num, by omega, hnx2, by omega, f3, HI', HY'⟩
                  case measure => simp [intOf]; omega
            · have HN : Hid (¬ GoodF F t) := HBAD.out fun h => m1 (HIF.out.1 h).2.2
              have m2 : ((m : Int) == 1) = false := by simp; omega
              have m3 : ((m : Int) != 1) = true := by simp; omega
              have m4 : ¬ ((m : Int) = 1) := by omega
              go_wp2
              go_ret
              exact BoolIs.no HN.out (HNX.out.trans (HR3.out.mono HNX.out.size))
        · have HN : Hid (¬ GoodF F t) := HBAD.out fun h => p0 (HIF.out.1 h).1
          have pe : ¬ p.toList = [] := fun h => p0 ((empty_iff p).1 h)
          clear p0
          go_wp2
          go_ret
          exact BoolIs.no HN.out (HNX.out.trans (HR2.out.mono HNX.out.size))
    · obtain rfl : k = t := by omega
      have HNX : Hid (Below w.heap.size w x0) := hnx
      clear hnx
      go_wp2_with fail
      go_loopw [144] (fun i wr2 => ∃ j : Nat, j ≤ k - 1 ∧ i = .int .i64 (j : Int) ∧ wr2 = x0 ∧ Hid (∀ z : Nat, z < j → tcnt F k z = 1)) (fun i _ => k - (intOf i).toNat)
      case atStart => exact ⟨0, Nat.zero_le _, rfl, rfl, fun z hz => by omega⟩
      case round =>
        obtain ⟨j, hj, rfl, rfl, HE⟩ := hrel
        by_cases hjm : j < k - 1
        · have e0 := (HI.out j (by omega)).1
          dsimp only at e0
          have j0 : (0 : Int) ≤ (j : Int) := by omega
          have j1 : (j : Int) < ((k - 1 : Nat) : Int) := by omega
          have HE' : Hid (tcnt F k j = 1 → ∀ z : Nat, z < j + 1 → tcnt F k z = 1) := fun h z hz => by
            by_cases e : z = j
            · subst e; exact h
            · exact HE.out z (by omega)
          by_cases h1 : tcnt F k j = 1
          · have HY := HE'.out h1
            rw [h1] at e0
            have HY' : Hid (∀ z : Nat, z < j + 1 → tcnt F k z = 1) := HY
            clear HY h1
            go_wp2
            go_roundw
            case rel => exact ⟨j + 1, by omega, by go_num, by first | trivial | rfl, HY'⟩
            case measure => simp [intOf]; omega
          · have HN : Hid (¬ GoodF F k) := fun h => h1 (h.2.2 j hjm)
            obtain ⟨x, hx⟩ : ∃ x, x = tcnt F k j := ⟨_, rfl⟩
            rw [← hx] at e0 h1
            clear hx
            go_wp2
            go_ret
            exact BoolIs.no HN.out HNX.out
        · obtain rfl : j = k - 1 := by omega
          have HY : Hid (GoodF F k) := ⟨⟨by omega, by omega⟩, HJ.out, HE.out⟩
          go_wp2
          go_ret
          exact BoolIs.yes HY.out HNX.out

end Go.Proofs.YtjbjgkkkkghcgaaGreatDoor
