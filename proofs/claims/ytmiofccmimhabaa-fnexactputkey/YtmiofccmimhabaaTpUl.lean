/- FnExactPutKey answers true at every treap, key and value: PutKey answers as the specification, writes into nothing, and its answer is its own. -/
import Derived.Test.YtmiofccmimhabaaTpUc
import Derived.Test.YtmiofccmimhabaaTpMk
import Derived.Test.YtmiofccmimhabaaTpKs
namespace Go.Proofs.Ytmiofccmimhabaa
open Go.RowKit
set_option linter.unusedVariables false

set_option maxRecDepth 100000 in
set_option maxHeartbeats 4000000 in
theorem putKey_law (a : Option Addr) (c n : Nat) (N : Nat → Lb) (key val : ByteArray) (w : World) (hn : n ≤ maxLen) (h : ArgR w a n N) (hz : ∀ i, i < n → (N i).key.size ≤ maxLen ∧ (N i).val.size ≤ maxLen) (hkey : key.size ≤ maxLen) (hval : val.size ≤ maxLen) :
    Calls Try.prog 5 #[.agg #[.slice a n c], .string key, .string val] w fun e w' => e = .returned (.bool true) ∧ Below w.heap.size w w' := by
  have HZ : Hid (∀ i, i < n → (N i).key.size ≤ maxLen ∧ (N i).val.size ≤ maxLen) := hz
  have H : Hid (ArgR w a n N) := h
  clear hz h
  unfold maxLen at hkey hval
  by_cases hk20 : key.size ≤ 1048576
  case neg =>
    have hk' : (1048576 : Int) < (key.size : Int) := by omega
    go_enter Try.func5, Try.ntmps5
    go_wp2_with fail
    go_ret
    exact ⟨rfl, by go_grown⟩
  have hk' : ¬ (1048576 : Int) < (key.size : Int) := by omega
  by_cases hv20 : val.size ≤ 1048576
  case neg =>
    have hv' : (1048576 : Int) < (val.size : Int) := by omega
    go_enter Try.func5, Try.ntmps5
    go_wp2_with fail
    go_ret
    exact ⟨rfl, by go_grown⟩
  have hv' : ¬ (1048576 : Int) < (val.size : Int) := by omega
  go_enter Try.func5, Try.ntmps5
  go_wp2_with fail
  have hbl0 : ∀ o, Below w.heap.size w (w.alloc o) := fun o => (Below.refl _ _).alloc (Nat.le_refl _) o
  refine (szTreap_any a c n N _ hn (H.out.below (hbl0 _)) HZ.out).mono ?_
  rintro e w1 ⟨r, rfl, hr, hb1⟩
  have x1 : w1.cell? ⟨w.heap.size, 0, none⟩ = some (.slice a n c) := by rw [hb1.cell (by simp)]; simp [go_sem]
  have HB1 : Hid (Below w.heap.size w w1) := (hbl0 _).trans (hb1.mono (by simp))
  have z1 : w.heap.size < w1.heap.size := by have := hb1.size; simp at this; omega
  clear hb1 hbl0
  rcases hr with rfl | ⟨r0, hsm⟩
  · go_wp2
    go_ret
    exact ⟨rfl, HB1.out⟩
  have HSM : Hid (SmallR n N) := hsm
  have n20 : n ≤ 2 ^ 20 := hsm.1
  have r1 : ¬ r < 0 := by omega
  clear hsm
  go_wp2_with fail
  refine (toTreap_any a c n N _ n20 (H.out.below HB1.out)).mono ?_
  rintro e w2 ⟨b2, a2, c2, rfl, l2, m2, ho2, hb2⟩
  have x2 : w2.cell? ⟨w.heap.size, 0, none⟩ = some (.slice a n c) := (hb2.cell z1).trans x1
  have HB2 : Hid (Below w.heap.size w w2) := HB1.out.trans (hb2.mono HB1.out.size)
  have z2 : w.heap.size < w2.heap.size := by have := hb2.size; omega
  have HO2 : Hid (OwnR w2 b2 (.slice a2 n c2) n N) := ho2
  have B2 := hb2.size
  clear ho2 hb2 l2 m2
  go_wp2_with fail
  refine (specPut_own n c2 a2 N key val _ HO2.out.row HSM.out (by omega) (by omega)).mono ?_
  rintro e w3 ⟨v3, q, g3, L, rfl, hq, hg3, ho3, hb3⟩
  obtain ⟨a3, c3, rfl⟩ := ho3.form
  have HQ : Hid (PuTold (lbs n N) key val q L) := hq
  have x3 : w3.cell? ⟨w.heap.size, 0, none⟩ = some (.slice a n c) := (hb3.cell z2).trans x2
  have HB3 : Hid (Below w.heap.size w w3) := HB2.out.trans (hb3.mono HB2.out.size)
  have z3 : w.heap.size < w3.heap.size := by have := hb3.size; omega
  obtain ⟨m, hm⟩ : ∃ m, m = L.length := ⟨_, rfl⟩
  have hL0 : m ≠ 0 → L ≠ [] := fun h e => h (by rw [hm, e]; rfl)
  rw [← hm] at ho3 ⊢
  have HM : Hid (m = L.length) := hm
  have hm60 : m ≤ 60 := by rw [hm]; exact hq.len
  have HL3 : Hid (m ≠ 0 → g3 < w3.heap.size) := fun h => ho3.lt h
  have HK3 : Hid (OwnR w3 g3 (.slice a3 m c3) m (lbAt L)) := ho3
  clear hb3 hq HO2 ho3 hg3 hm
  go_wp2_with fail
  have al3 : ∀ o, Below w3.heap.size w3 (w3.alloc o) := fun o => (Below.refl _ _).alloc (Nat.le_refl _) o
  refine (toTreap_any a c n N _ n20 (H.out.below (HB3.out.trans ((al3 _).mono HB3.out.size)))).mono ?_
  rintro e w4 ⟨b4, a4, c4, rfl, l4, m4, ho4, hb4⟩
  have z34 := hb4.size
  simp at z34 l4
  have x4 : w4.cell? ⟨w.heap.size, 0, none⟩ = some (.slice a n c) := by rw [hb4.cell (by simp; omega)]; simp [World.cell?_alloc_past, z3, x3]
  have u4 : w4.cell? ⟨w3.heap.size, 0, none⟩ = some (.slice a3 m c3) := by rw [hb4.cell (by simp)]; simp [World.cell?_alloc_new]
  have hbb4 : Below w3.heap.size w3 w4 := (al3 _).trans (hb4.mono (by simp))
  have HB4 : Hid (Below w.heap.size w w4) := HB3.out.trans (hbb4.mono HB3.out.size)
  have z4 : w.heap.size < w4.heap.size := by omega
  have zu4 : w3.heap.size < w4.heap.size := by omega
  have HO4 : Hid (OwnR w4 b4 (.slice a4 n c4) n N) := ho4
  have HK4 : Hid (OwnR w4 g3 (.slice a3 m c3) m (lbAt L)) := HK3.out.below hbb4
  clear ho4 hb4 HK3 hbb4 al3
  go_wp2_with fail
  have hal : ∀ o, Below w4.heap.size w4 (w4.alloc o) := fun o => (Below.refl _ _).alloc (Nat.le_refl _) o
  refine (implPut_own b4 n c4 a4 N key val _ (HO4.out.below (hal _)) HSM.out (by omega) (by omega)).mono ?_
  rintro e w5 ⟨v5, g, g5, L5, rfl, hg, hg5, ho5, hb5⟩
  obtain ⟨rfl, rfl⟩ : g = q ∧ L5 = L := hg.same HQ.out
  rw [← HM.out] at ho5
  obtain ⟨a5, c5, rfl⟩ := ho5.form
  have x5 : w5.cell? ⟨w.heap.size, 0, none⟩ = some (.slice a n c) := by rw [hb5.cell (by simp; omega)]; simp [World.cell?_alloc_past, z4, x4]
  have u5 : w5.cell? ⟨w3.heap.size, 0, none⟩ = some (.slice a3 m c3) := by rw [hb5.cell (by simp; omega)]; simp [World.cell?_alloc_past, zu4, u4]
  have y5 : w5.cell? ⟨w4.heap.size, 0, none⟩ = some (.slice a4 n c4) := by rw [hb5.cell (by simp)]; simp [World.cell?_alloc_new]
  have hbb : Below w4.heap.size w4 w5 := (hal _).trans (hb5.mono (by simp))
  have HB5 : Hid (Below w.heap.size w w5) := HB4.out.trans (hbb.mono HB4.out.size)
  have z5 : w4.heap.size < w5.heap.size := by have := hb5.size; simp at this; omega
  have z5u : w3.heap.size < w5.heap.size := by omega
  have z5' : w.heap.size < w5.heap.size := by omega
  have HO5 : Hid (OwnR w5 b4 (.slice a4 n c4) n N) := HO4.out.below hbb
  have HK5 : Hid (OwnR w5 g3 (.slice a3 m c3) m (lbAt L5)) := HK4.out.below hbb
  have HG5 : Hid (OwnR w5 g5 (.slice a5 m c5) m (lbAt L5)) := ho5
  have HGL : Hid (m ≠ 0 → w4.heap.size < g5 ∧ g5 < w5.heap.size) := fun h => by have := hg5 (hL0 h); have := ho5.lt h; simp at *; omega
  clear hb5 hbb hal hg HO4 HK4 ho5 hg5
  go_wp2_with fail
  have al5 : ∀ o, Below w5.heap.size w5 (w5.alloc o) := fun o => (Below.refl _ _).alloc (Nat.le_refl _) o
  refine (eqTreap_any _ _ m (lbAt L5) _ ((HG5.out.below (al5 _)).row) ((HK5.out.below (al5 _)).row)).mono ?_
  rintro e w6 ⟨rfl, hb6⟩
  have B56 : Below w5.heap.size w5 w6 := (al5 _).trans (hb6.mono (by simp))
  have x6 : w6.cell? ⟨w.heap.size, 0, none⟩ = some (.slice a n c) := (B56.cell (by show w.heap.size < _; omega)).trans x5
  have u6 : w6.cell? ⟨w3.heap.size, 0, none⟩ = some (.slice a3 m c3) := (B56.cell (by show w3.heap.size < _; omega)).trans u5
  have y6 : w6.cell? ⟨w4.heap.size, 0, none⟩ = some (.slice a4 n c4) := (B56.cell z5).trans y5
  have v6 : w6.cell? ⟨w5.heap.size, 0, none⟩ = some (.slice a5 m c5) := by rw [hb6.cell (by simp)]; simp [World.cell?_alloc_new]
  have z56 := hb6.size
  simp at z56
  have z6 : w4.heap.size < w6.heap.size := by omega
  have z6' : w.heap.size < w6.heap.size := by omega
  have z6u : w3.heap.size < w6.heap.size := by omega
  have z6v : w5.heap.size < w6.heap.size := by omega
  have HB6 : Hid (Below w.heap.size w w6) := HB5.out.trans (B56.mono HB5.out.size)
  have HO6 : Hid (OwnR w6 b4 (.slice a4 n c4) n N) := HO5.out.below B56
  have HK6 : Hid (OwnR w6 g3 (.slice a3 m c3) m (lbAt L5)) := HK5.out.below B56
  have HG6 : Hid (OwnR w6 g5 (.slice a5 m c5) m (lbAt L5)) := HG5.out.below B56
  clear hb6 HO5 HK5 HG5 B56 al5 x5 u5 y5
  go_wp2_with fail
  go_region_held3 (fun w' => w'.cell? ⟨w.heap.size, 0, none⟩ = some (.slice a n c) ∧ w'.cell? ⟨w4.heap.size, 0, none⟩ = some (.slice a4 n c4)) (first | exact ⟨x6, y6⟩ | exact ⟨(hc8 _ _ (Nat.lt_of_lt_of_le z6' zz7)).trans ((hc7 _ _ z6').trans x6), (hc8 _ _ (Nat.lt_of_lt_of_le z6 zz7)).trans ((hc7 _ _ z6).trans y6)⟩ | exact ⟨(hc7 _ _ z6').trans x6, (hc7 _ _ z6).trans y6⟩)
    (first | (go_at_call 15; refine (toTreap_any a c n N _ n20 (H.out.below (HB6.out.drew))).mono ?_; rintro e w7 ⟨b7, a7, c7, rfl, l7, m7, ho7, hb7⟩; obtain ⟨hc7, hf7⟩ := bcell hb7; have zz7 := hb7.size) | (go_at_call 17; refine (eqTreap_any _ _ n N _ ((HO6.out.below ((Below.drew (Below.refl w6.heap.size w6)).trans (hb7.mono (Nat.le_refl w6.heap.size)))).row) ho7.row).mono ?_; rintro e w8 ⟨rfl, hb8⟩; obtain ⟨hc8, hf8⟩ := bcell hb8))
  have B68 : Below w6.heap.size w6 w8 := ((Below.drew (Below.refl w6.heap.size w6)).trans (hb7.mono (Nat.le_refl w6.heap.size))).trans (hb8.mono zz7)
  have x8 : w8.cell? ⟨w.heap.size, 0, none⟩ = some (.slice a n c) := (B68.cell z6').trans x6
  have u8 : w8.cell? ⟨w3.heap.size, 0, none⟩ = some (.slice a3 m c3) := (B68.cell z6u).trans u6
  have y8 : w8.cell? ⟨w4.heap.size, 0, none⟩ = some (.slice a4 n c4) := (B68.cell z6).trans y6
  have v8 : w8.cell? ⟨w5.heap.size, 0, none⟩ = some (.slice a5 m c5) := (B68.cell z6v).trans v6
  have z68 := B68.size
  have HB8 : Hid (Below w.heap.size w w8) := HB6.out.trans (B68.mono HB6.out.size)
  have HO8 : Hid (OwnR w8 b4 (.slice a4 n c4) n N) := HO6.out.below B68
  have HK8 : Hid (OwnR w8 g3 (.slice a3 m c3) m (lbAt L5)) := HK6.out.below B68
  have HG8 : Hid (OwnR w8 g5 (.slice a5 m c5) m (lbAt L5)) := HG6.out.below B68
  clear hb7 hb8 hc7 hf7 hc8 hf8 zz7 B68 ho7 HO6 HK6 HG6 x6 y6 u6 v6 l7 m7
  go_wp2_with fail
  refine (markTreap_any _ b4 n N 1 _ (by omega) (by omega) (by omega) HO8.out).mono ?_
  rintro e w9 ⟨rfl, hb9, ho9⟩
  have z89 := hb9.size
  have x9 : w9.cell? ⟨w.heap.size, 0, none⟩ = some (.slice a n c) := (hb9.cell (by omega) (by omega)).trans x8
  have u9 : w9.cell? ⟨w3.heap.size, 0, none⟩ = some (.slice a3 m c3) := (hb9.cell (by omega) (by omega)).trans u8
  have v9 : w9.cell? ⟨w5.heap.size, 0, none⟩ = some (.slice a5 m c5) := (hb9.cell (by omega) (by omega)).trans v8
  have HB9 : Hid (Below w.heap.size w w9) := HB8.out.trans (hb9.below HB8.out.size (by omega))
  have HK9 : Hid (OwnR w9 g3 (.slice a3 m c3) m (lbAt L5)) := HK8.out.but2 hb9 (fun h => by have := HL3.out h; omega)
  have HG9 : Hid (OwnR w9 g5 (.slice a5 m c5) m (lbAt L5)) := HG8.out.but2 hb9 (fun h => by have := HGL.out h; omega)
  clear hb9 ho9 HO8 HK8 HG8 x8 y8 u8 v8
  go_wp2_with fail
  refine (eqTreap_any _ _ m (lbAt L5) _ HG9.out.row HK9.out.row).mono ?_
  rintro e w10 ⟨rfl, hb10⟩
  have z910 := hb10.size
  have x10 : w10.cell? ⟨w.heap.size, 0, none⟩ = some (.slice a n c) := (hb10.cell (by show w.heap.size < _; omega)).trans x9
  have u10 : w10.cell? ⟨w3.heap.size, 0, none⟩ = some (.slice a3 m c3) := (hb10.cell (by show w3.heap.size < _; omega)).trans u9
  have v10 : w10.cell? ⟨w5.heap.size, 0, none⟩ = some (.slice a5 m c5) := (hb10.cell (by show w5.heap.size < _; omega)).trans v9
  have HB10 : Hid (Below w.heap.size w w10) := HB9.out.trans (hb10.mono HB9.out.size)
  have HK10 : Hid (OwnR w10 g3 (.slice a3 m c3) m (lbAt L5)) := HK9.out.below hb10
  have HG10 : Hid (OwnR w10 g5 (.slice a5 m c5) m (lbAt L5)) := HG9.out.below hb10
  clear hb10 HK9 HG9 x9 u9 v9
  go_wp2_with fail
  obtain ⟨g6, hg6, HG10'⟩ : ∃ g6, (w4.heap.size < g6 ∧ g6 ≠ w5.heap.size ∧ (m ≠ 0 → g6 = g5)) ∧ Hid (OwnR w10 g6 (.slice a5 m c5) m (lbAt L5)) := by
    by_cases hm0 : m = 0
    · refine ⟨w5.heap.size + 1, ⟨by omega, by omega, fun h => absurd hm0 h⟩, ?_⟩
      obtain ⟨a', c', off', e, hn', _⟩ := HG10.out
      exact ⟨a', c', off', e, hn', .inl hm0⟩
    · have := HGL.out hm0
      exact ⟨g5, ⟨by omega, by omega, fun _ => rfl⟩, HG10⟩
  clear HG10
  refine (markTreap_any _ g6 m (lbAt L5) 1 _ (by omega) (by omega) (by omega) HG10'.out).mono ?_
  rintro e w11 ⟨rfl, hb11, ho11⟩
  have z1011 := hb11.size
  have x11 : w11.cell? ⟨w.heap.size, 0, none⟩ = some (.slice a n c) := (hb11.cell (by omega) (by omega)).trans x10
  have u11 : w11.cell? ⟨w3.heap.size, 0, none⟩ = some (.slice a3 m c3) := (hb11.cell (by omega) (by omega)).trans u10
  have v11 : w11.cell? ⟨w5.heap.size, 0, none⟩ = some (.slice a5 m c5) := (hb11.cell (by omega) (by omega)).trans v10
  have HB11 : Hid (Below w.heap.size w w11) := HB10.out.trans (hb11.below HB10.out.size (by omega))
  have HK11 : Hid (OwnR w11 g3 (.slice a3 m c3) m (lbAt L5)) := HK10.out.but2 hb11 (fun h => by have := HL3.out h; omega)
  have HG11 : Hid (OwnR w11 g6 (.slice a5 m c5) m (fun i => mkL (1 + 4 * i))) := ho11
  clear hb11 ho11 HK10 HG10' x10 u10 v10
  go_wp2_with fail
  refine (heldTreap_any _ g6 m 1 _ (by omega) (by omega) (by omega) HG11.out).mono ?_
  rintro e w12 ⟨rfl, hb12⟩
  have z1112 := hb12.size
  have x12 : w12.cell? ⟨w.heap.size, 0, none⟩ = some (.slice a n c) := (hb12.cell (by show w.heap.size < _; omega)).trans x11
  have u12 : w12.cell? ⟨w3.heap.size, 0, none⟩ = some (.slice a3 m c3) := (hb12.cell (by show w3.heap.size < _; omega)).trans u11
  have v12 : w12.cell? ⟨w5.heap.size, 0, none⟩ = some (.slice a5 m c5) := (hb12.cell (by show w5.heap.size < _; omega)).trans v11
  have HB12 : Hid (Below w.heap.size w w12) := HB11.out.trans (hb12.mono HB11.out.size)
  have HK12 : Hid (OwnR w12 g3 (.slice a3 m c3) m (lbAt L5)) := HK11.out.below hb12
  have HG12 : Hid (OwnR w12 g6 (.slice a5 m c5) m (fun i => mkL (1 + 4 * i))) := HG11.out.below hb12
  clear hb12 HK11 HG11 x11 u11 v11
  go_wp2_with fail
  refine (toTreap_any a c n N _ n20 (H.out.below HB12.out)).mono ?_
  rintro e w13 ⟨b13, a13, c13, rfl, l13, m13, ho13, hb13⟩
  have z1213 := hb13.size
  have u13 : w13.cell? ⟨w3.heap.size, 0, none⟩ = some (.slice a3 m c3) := (hb13.cell (by show w3.heap.size < _; omega)).trans u12
  have v13 : w13.cell? ⟨w5.heap.size, 0, none⟩ = some (.slice a5 m c5) := (hb13.cell (by show w5.heap.size < _; omega)).trans v12
  have HB13 : Hid (Below w.heap.size w w13) := HB12.out.trans (hb13.mono HB12.out.size)
  have HO13 : Hid (OwnR w13 b13 (.slice a13 n c13) n N) := ho13
  have HK13 : Hid (OwnR w13 g3 (.slice a3 m c3) m (lbAt L5)) := HK12.out.below hb13
  have HG13 : Hid (OwnR w13 g6 (.slice a5 m c5) m (fun i => mkL (1 + 4 * i))) := HG12.out.below hb13
  clear hb13 ho13 HK12 HG12 x12 u12 v12 l13 m13
  go_wp2_with fail
  refine (implPut_own b13 n c13 a13 N key val _ HO13.out HSM.out (by omega) (by omega)).mono ?_
  rintro e w14 ⟨v14, g', g14, L14, rfl, hg, hg14, ho14, hb14⟩
  obtain ⟨rfl, rfl⟩ : g' = g ∧ L14 = L5 := hg.same HQ.out
  rw [← HM.out] at ho14
  obtain ⟨a14, c14, rfl⟩ := ho14.form
  have z1314 := hb14.size
  have u14 : w14.cell? ⟨w3.heap.size, 0, none⟩ = some (.slice a3 m c3) := (hb14.cell (by show w3.heap.size < _; omega)).trans u13
  have v14' : w14.cell? ⟨w5.heap.size, 0, none⟩ = some (.slice a5 m c5) := (hb14.cell (by show w5.heap.size < _; omega)).trans v13
  have z14u : w3.heap.size < w14.heap.size := by omega
  have z14v : w5.heap.size < w14.heap.size := by omega
  have HB14 : Hid (Below w.heap.size w w14) := HB13.out.trans (hb14.mono HB13.out.size)
  have HK14 : Hid (OwnR w14 g3 (.slice a3 m c3) m (lbAt L14)) := HK13.out.below hb14
  have HG14 : Hid (OwnR w14 g6 (.slice a5 m c5) m (fun i => mkL (1 + 4 * i))) := HG13.out.below hb14
  have HH14 : Hid (OwnR w14 g14 (.slice a14 m c14) m (lbAt L14)) := ho14
  clear hb14 ho14 HK13 HG13 u13 v13 hg hg14 HO13
  go_wp2_with fail
  have al14 : ∀ o, Below w14.heap.size w14 (w14.alloc o) := fun o => (Below.refl _ _).alloc (Nat.le_refl _) o
  refine (eqTreap_any _ _ m (lbAt L14) _ ((HH14.out.below (al14 _)).row) ((HK14.out.below (al14 _)).row)).mono ?_
  rintro e w15 ⟨rfl, hb15⟩
  have B45 : Below w14.heap.size w14 w15 := (al14 _).trans (hb15.mono (by simp))
  have v15 : w15.cell? ⟨w5.heap.size, 0, none⟩ = some (.slice a5 m c5) := (B45.cell (by show w5.heap.size < _; omega)).trans v14'
  have z15 := B45.size
  have HB15 : Hid (Below w.heap.size w w15) := HB14.out.trans (B45.mono HB14.out.size)
  have HG15 : Hid (OwnR w15 g6 (.slice a5 m c5) m (fun i => mkL (1 + 4 * i))) := HG14.out.below B45
  clear hb15 HK14 HG14 HH14 al14 B45 v14' u14
  go_wp2_with fail
  refine (heldTreap_any _ g6 m 1 _ (by omega) (by omega) (by omega) HG15.out).mono ?_
  rintro e w16 ⟨rfl, hb16⟩
  have HB16 : Hid (Below w.heap.size w w16) := HB15.out.trans (hb16.mono HB15.out.size)
  clear hb16 HG15
  go_wp2
  go_ret
  exact ⟨rfl, HB16.out⟩

end Go.Proofs.Ytmiofccmimhabaa
