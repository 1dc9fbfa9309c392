/- FnExactGoodTreap answers true at every treap: GoodTreap answers as the specification and writes into nothing. -/
import Derived.Test.YtmiofccmimhabaaTpL
namespace Go.Proofs.Ytmiofccmimhabaa
open Go.RowKit
set_option linter.unusedVariables false

/-- The limbs that came in, as a list. -/
def lbs (n : Nat) (N : Nat → Lb) : List Lb := (List.range n).map N
theorem lbs_len (n : Nat) (N : Nat → Lb) : (lbs n N).length = n := by simp [lbs]
theorem lbs_at (n : Nat) (N : Nat → Lb) (i : Nat) (h : i < n) : lbAt (lbs n N) i = N i := by
  rw [lbAt_get (by rw [lbs_len]; exact h)]
  simp [lbs]
theorem LimbsAt.list {w : World} {b off n : Nat} {N : Nat → Lb} (h : LimbsAt w b off n N) : LimbsAt w b off (lbs n N).length (lbAt (lbs n N)) := fun i hi => by
  rw [lbs_len] at hi
  rw [lbs_at n N i hi]
  exact h i hi
theorem RowIs.list {w : World} {B : Nat} {v : Value} {n : Nat} {N : Nat → Lb} (h : RowIs w B v n N) : RowIs w B v (lbs n N).length (lbAt (lbs n N)) := by
  obtain ⟨a, c, rfl, hn, h0⟩ := h
  refine ⟨a, c, by rw [lbs_len], by rw [lbs_len]; exact hn, ?_⟩
  rcases h0 with rfl | ⟨b, off, rfl, hb, hat⟩
  · exact .inl rfl
  · exact .inr ⟨b, off, rfl, hb, hat.list⟩
theorem SmallR.list {n : Nat} {N : Nat → Lb} (h : SmallR n N) : (lbs n N).length ≤ 2 ^ 20 ∧ ∀ x ∈ lbs n N, x.key.size ≤ 2 ^ 20 ∧ x.val.size ≤ 2 ^ 20 := by
  refine ⟨by rw [lbs_len]; exact h.1, fun x hx => ?_⟩
  simp [lbs] at hx
  obtain ⟨i, hi, rfl⟩ := hx
  exact h.2 i hi

set_option maxHeartbeats 400000 in
theorem implGoodT_any (n c : Nat) (a : Option Addr) (N : Nat → Lb) (w : World) (h : RowIs w w.heap.size (.slice a n c) n N) (hs : SmallR n N) :
    Calls Try.prog 16 #[.agg #[.slice a n c]] w fun e w' => ∃ q : Bool, e = .returned (.bool q) ∧ (q = true ↔ GoodL (lbs n N)) ∧ Below w.heap.size w w' := by
  have HR : Hid (RowIs w w.heap.size (.slice a n c) (lbs n N).length (lbAt (lbs n N))) := h.list
  have HS : Hid ((lbs n N).length ≤ 2 ^ 20 ∧ ∀ x ∈ lbs n N, x.key.size ≤ 2 ^ 20 ∧ x.val.size ≤ 2 ^ 20) := hs.list
  clear h hs
  go_enter Try.func16, Try.ntmps16
  go_wp2_with fail
  have hal : ∀ o, Below w.heap.size w (w.alloc o) := fun o => (Below.refl _ _).alloc (Nat.le_refl _) o
  first
    | refine (treeOf_any (lbs n N) _ _ HR.out HS.out.1 HS.out.2).mono ?_
    | refine (treeOf_any (lbs n N) _ _ (HR.out.below (hal _) (by simp)) HS.out.1 HS.out.2).mono ?_
  rintro e w1 ⟨⟨hg, T, rfl, _⟩ | ⟨hg, rfl⟩, hb⟩
  · have HG : Hid (GoodL (lbs n N)) := hg
    have HB : Hid (Below w.heap.size w w1) := by first | exact hb | exact (hal _).trans (hb.mono (by simp))
    clear hg hb hal
    go_wp2
    go_ret
    exact ⟨true, rfl, by simp [HG.out], HB.out⟩
  · have HG : Hid (¬ GoodL (lbs n N)) := hg
    have HB : Hid (Below w.heap.size w w1) := by first | exact hb | exact (hal _).trans (hb.mono (by simp))
    clear hg hb hal
    go_wp2
    go_ret
    exact ⟨false, rfl, by simp [HG.out], HB.out⟩

set_option maxHeartbeats 400000 in
theorem specGoodT_any (n c : Nat) (a : Option Addr) (N : Nat → Lb) (w : World) (h : RowIs w w.heap.size (.slice a n c) n N) (hs : SmallR n N) :
    Calls Try.prog 14 #[.agg #[.slice a n c]] w fun e w' => ∃ q : Bool, e = .returned (.bool q) ∧ (q = true ↔ GoodL (lbs n N)) ∧ Below w.heap.size w w' := by
  have HR : Hid (RowIs w w.heap.size (.slice a n c) (lbs n N).length (lbAt (lbs n N))) := h.list
  have HS : Hid ((lbs n N).length ≤ 2 ^ 20 ∧ ∀ x ∈ lbs n N, x.key.size ≤ 2 ^ 20 ∧ x.val.size ≤ 2 ^ 20) := hs.list
  clear h hs
  go_enter Try.func14, Try.ntmps14
  go_wp2_with fail
  have hal : ∀ o, Below w.heap.size w (w.alloc o) := fun o => (Below.refl _ _).alloc (Nat.le_refl _) o
  first
    | refine (l7Of_any (lbs n N) _ _ HR.out HS.out.1 HS.out.2).mono ?_
    | refine (l7Of_any (lbs n N) _ _ (HR.out.below (hal _) (by simp)) HS.out.1 HS.out.2).mono ?_
  rintro e w1 ⟨⟨hg, T, v, rfl, _, _, ho⟩ | ⟨hg, rfl⟩, hb⟩
  · have HG : Hid (GoodL (lbs n N)) := hg
    have HB : Hid (Below w.heap.size w w1) := by first | exact hb | exact (hal _).trans (hb.mono (by simp))
    obtain ⟨a1, c1, rfl⟩ := ho.form
    clear hg hb hal ho
    go_wp2
    go_ret
    exact ⟨true, rfl, by simp [HG.out], HB.out⟩
  · have HG : Hid (¬ GoodL (lbs n N)) := hg
    have HB : Hid (Below w.heap.size w w1) := by first | exact hb | exact (hal _).trans (hb.mono (by simp))
    clear hg hb hal
    go_wp2
    go_ret
    exact ⟨false, rfl, by simp [HG.out], HB.out⟩

set_option maxRecDepth 100000 in
set_option maxHeartbeats 2000000 in
theorem goodTreap_law (a : Option Addr) (c n : Nat) (N : Nat → Lb) (w : World) (hn : n ≤ maxLen) (h : ArgR w a n N) (hz : ∀ i, i < n → (N i).key.size ≤ maxLen ∧ (N i).val.size ≤ maxLen) :
    Calls Try.prog 4 #[.agg #[.slice a n c]] w fun e w' => e = .returned (.bool true) ∧ Below w.heap.size w w' := by
  have HZ : Hid (∀ i, i < n → (N i).key.size ≤ maxLen ∧ (N i).val.size ≤ maxLen) := hz
  have H : Hid (ArgR w a n N) := h
  clear hz h
  go_enter Try.func4, Try.ntmps4
  go_wp2_with fail
  have hbl0 : ∀ o, Below w.heap.size w (w.alloc o) := fun o => (Below.refl _ _).alloc (Nat.le_refl _) o
  refine (szTreap_any a c n N _ hn (H.out.below (hbl0 _)) HZ.out).mono ?_
  rintro e w1 ⟨r, rfl, hr, hb1⟩
  have x1 : w1.cell? ⟨w.heap.size, 0, none⟩ = some (.slice a n c) := by rw [hb1.cell (by simp)]; simp [go_sem]
  have HB1 : Hid (Below w.heap.size w w1) := (hbl0 _).trans (hb1.mono (by simp))
  have z1 : w.heap.size < w1.heap.size := by have := hb1.size; simp at this; omega
  clear hb1 hbl0
  rcases hr with rfl | ⟨r0, hsm⟩
  · go_wp2
    go_ret
    exact ⟨rfl, HB1.out⟩
  have HSM : Hid (SmallR n N) := hsm
  have n20 : n ≤ 2 ^ 20 := hsm.1
  have r1 : ¬ r < 0 := by omega
  clear hsm
  go_wp2_with fail
  refine (toTreap_any a c n N _ n20 (H.out.below HB1.out)).mono ?_
  rintro e w2 ⟨b2, a2, c2, rfl, l2, m2, ho2, hb2⟩
  have x2 : w2.cell? ⟨w.heap.size, 0, none⟩ = some (.slice a n c) := (hb2.cell z1).trans x1
  have HB2 : Hid (Below w.heap.size w w2) := HB1.out.trans (hb2.mono HB1.out.size)
  have z2 : w.heap.size < w2.heap.size := by have := hb2.size; omega
  have HO2 : Hid (OwnR w2 b2 (.slice a2 n c2) n N) := ho2
  clear ho2 hb2 l2 m2
  go_wp2_with fail
  refine (specGoodT_any n c2 a2 N _ HO2.out.row HSM.out).mono ?_
  rintro e w3 ⟨q, rfl, hq, hb3⟩
  have HQ : Hid (q = true ↔ GoodL (lbs n N)) := hq
  have x3 : w3.cell? ⟨w.heap.size, 0, none⟩ = some (.slice a n c) := (hb3.cell z2).trans x2
  have HB3 : Hid (Below w.heap.size w w3) := HB2.out.trans (hb3.mono HB2.out.size)
  have z3 : w.heap.size < w3.heap.size := by have := hb3.size; omega
  clear hb3 hq HO2
  go_wp2_with fail
  refine (toTreap_any a c n N _ n20 (H.out.below HB3.out)).mono ?_
  rintro e w4 ⟨b4, a4, c4, rfl, l4, m4, ho4, hb4⟩
  have x4 : w4.cell? ⟨w.heap.size, 0, none⟩ = some (.slice a n c) := (hb4.cell z3).trans x3
  have HB4 : Hid (Below w.heap.size w w4) := HB3.out.trans (hb4.mono HB3.out.size)
  have z4 : w.heap.size < w4.heap.size := by have := hb4.size; omega
  have HO4 : Hid (OwnR w4 b4 (.slice a4 n c4) n N) := ho4
  clear ho4 hb4 l4 m4
  go_wp2_with fail
  have hal : ∀ o, Below w4.heap.size w4 (w4.alloc o) := fun o => (Below.refl _ _).alloc (Nat.le_refl _) o
  refine (implGoodT_any n c4 a4 N _ (HO4.out.below (hal _)).row HSM.out).mono ?_
  rintro e w5 ⟨g, rfl, hg, hb5⟩
  obtain rfl : g = q := Bool.eq_iff_iff.2 (hg.trans HQ.out.symm)
  have x5 : w5.cell? ⟨w.heap.size, 0, none⟩ = some (.slice a n c) := by rw [hb5.cell (by simp; omega)]; simp [World.cell?_alloc_past, z4, x4]
  have y5 : w5.cell? ⟨w4.heap.size, 0, none⟩ = some (.slice a4 n c4) := by rw [hb5.cell (by simp)]; simp [World.cell?_alloc_new]
  have hbb : Below w4.heap.size w4 w5 := (hal _).trans (hb5.mono (by simp))
  have HB5 : Hid (Below w.heap.size w w5) := HB4.out.trans (hbb.mono HB4.out.size)
  have z5 : w4.heap.size < w5.heap.size := by have := hb5.size; simp at this; omega
  have z5' : w.heap.size < w5.heap.size := by omega
  have HO5 : Hid (OwnR w5 b4 (.slice a4 n c4) n N) := HO4.out.below hbb
  clear hb5 hbb hal hg HO4
  go_wp2_with fail
  go_region_held3 (fun w' => w'.cell? ⟨w.heap.size, 0, none⟩ = some (.slice a n c) ∧ w'.cell? ⟨w4.heap.size, 0, none⟩ = some (.slice a4 n c4)) (first | exact ⟨x5, y5⟩ | exact ⟨(hc7 _ _ (Nat.lt_of_lt_of_le z5' zz6)).trans ((hc6 _ _ z5').trans x5), (hc7 _ _ (Nat.lt_of_lt_of_le z5 zz6)).trans ((hc6 _ _ z5).trans y5)⟩ | exact ⟨(hc6 _ _ z5').trans x5, (hc6 _ _ z5).trans y5⟩)
    (first | (go_at_call 15; refine (toTreap_any a c n N _ n20 (H.out.below (HB5.out.drew))).mono ?_; rintro e w6 ⟨b6, a6, c6, rfl, l6, m6, ho6, hb6⟩; obtain ⟨hc6, hf6⟩ := bcell hb6; have zz6 := hb6.size) | (go_at_call 17; refine (eqTreap_any _ _ n N _ ((HO5.out.below ((Below.refl _ w5).drew.trans hb6)).row) ho6.row).mono ?_; rintro e w7 ⟨rfl, hb7⟩; obtain ⟨hc7, hf7⟩ := bcell hb7))
  go_wp2
  go_ret
  exact ⟨rfl, (HB5.out.drew.trans (hb6.mono HB5.out.size)).trans (hb7.mono (Nat.le_trans HB5.out.size zz6))⟩

end Go.Proofs.Ytmiofccmimhabaa
