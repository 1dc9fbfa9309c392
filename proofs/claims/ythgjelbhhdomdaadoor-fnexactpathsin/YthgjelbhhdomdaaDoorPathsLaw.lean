/- FnExactPathsIn answers true at every value: PathsIn answers as the specification, writes into nothing, and its answer is its own. -/
import Derived.Test.YthgjelbhhdomdaaDoorPathsO
import Derived.Test.YthgjelbhhdomdaaDoorStrsM
import Derived.Test.YthgjelbhhdomdaaDoorSz
import Derived.Test.YthgjelbhhdomdaaDoorTo
namespace Go.Proofs.YthgjelbhhdomdaaDoor
open Go.RowKit
set_option linter.unusedVariables false

theorem OwnS.form {w : World} {g : Nat} {v : Value} {n : Nat} {f : Nat → ByteArray} (h : OwnS w g v n f) : ∃ a c, v = .slice a n c := by
  obtain ⟨a, c, rfl, _⟩ := h
  exact ⟨a, c, rfl⟩
theorem OwnS.lt {w : World} {g : Nat} {v : Value} {n : Nat} {f : Nat → ByteArray} (h : OwnS w g v n f) (hn : n ≠ 0) : g < w.heap.size := by
  obtain ⟨a, c, rfl, _, h0 | ⟨_, hlt, _⟩⟩ := h
  · exact absurd h0 hn
  · exact hlt
theorem OwnS.but2 {w w' : World} {b g : Nat} {v : Value} {n : Nat} {f : Nat → ByteArray} (h : OwnS w g v n f) (hb : BelowBut w.heap.size b w w') (hne : n ≠ 0 → g ≠ b) : OwnS w' g v n f := by
  by_cases h0 : n = 0
  · obtain ⟨a, c, rfl, hn, _⟩ := h
    exact ⟨a, c, rfl, hn, .inl h0⟩
  · exact h.but hb (hne h0)

set_option maxRecDepth 100000 in
set_option maxHeartbeats 4000000 in
theorem pathsIn_law (a : Option Addr) (c n : Nat) (N : Nat → Nd) (w : World) (hn : n ≤ maxLen) (h : ArgIs w a n N) (hz : ∀ i, i < n → (N i).text.size ≤ maxLen ∧ (N i).name.size ≤ maxLen) (htab : Tab w.heap.size w) (hml : ML w) :
    Calls Tryd.prog 8 #[.agg #[.slice a n c]] w fun e w' => e = .returned (.bool true) ∧ Below w.heap.size w w' := by
  have HZ : Hid (∀ i, i < n → (N i).text.size ≤ maxLen ∧ (N i).name.size ≤ maxLen) := hz
  have H : Hid (ArgIs w a n N) := h
  have HTB : Hid (Tab w.heap.size w) := htab
  have HML : Hid (ML w) := hml
  clear hz h htab hml
  go_enter Tryd.func8, Tryd.ntmps8
  go_wp2_with fail
  have hbl0 : ∀ o, Below w.heap.size w (w.alloc o) := fun o => (Below.refl _ _).alloc (Nat.le_refl _) o
  refine (szValue_any a c n N _ hn (H.out.below (hbl0 _)) HZ.out).mono ?_
  rintro e w1 ⟨r, rfl, hr, hb1⟩
  have x1 : w1.cell? ⟨w.heap.size, 0, none⟩ = some (.slice a n c) := by rw [hb1.cell (by simp)]; simp [go_sem]
  have HB1 : Hid (Below w.heap.size w w1) := (hbl0 _).trans (hb1.mono (by simp))
  have z1 : w.heap.size < w1.heap.size := by have := hb1.size; simp at this; omega
  clear hb1 hbl0
  rcases hr with rfl | ⟨r0, hsm⟩
  · go_wp2
    go_ret
    exact ⟨rfl, HB1.out⟩
  have HSM : Hid (SmallN n N) := hsm
  have n20 : n ≤ 2 ^ 20 := hsm.1
  have r1 : ¬ r < 0 := by omega
  clear hsm
  go_wp2_with fail
  refine (toValue_any a c n N _ n20 (H.out.below HB1.out)).mono ?_
  rintro e w2 ⟨b2, a2, c2, rfl, l2, m2, ho2, hb2⟩
  have x2 : w2.cell? ⟨w.heap.size, 0, none⟩ = some (.slice a n c) := (hb2.cell z1).trans x1
  have HB2 : Hid (Below w.heap.size w w2) := HB1.out.trans (hb2.mono HB1.out.size)
  have z2 : w.heap.size < w2.heap.size := by have := hb2.size; omega
  have HO2 : Hid (OwnAt w2 b2 (.slice a2 n c2) n N) := ho2
  have B2 := hb2.size
  clear ho2 hb2 l2 m2
  go_wp2_with fail
  refine (specPaths_own b2 n a2 c2 N _ HO2.out HSM.out).mono ?_
  rintro e w3 ⟨v3, q, g3, m, f, rfl, hq, hg3, ho3, hb3⟩
  obtain ⟨a3, c3, rfl⟩ := ho3.form
  have HQ : Hid (PsTold N n q m f) := hq
  have x3 : w3.cell? ⟨w.heap.size, 0, none⟩ = some (.slice a n c) := (hb3.cell z2).trans x2
  have HB3 : Hid (Below w.heap.size w w3) := HB2.out.trans (hb3.mono HB2.out.size)
  have z3 : w.heap.size < w3.heap.size := by have := hb3.size; omega
  have HL3 : Hid (m ≠ 0 → g3 < w3.heap.size) := fun h => ho3.lt h
  have HK3 : Hid (OwnS w3 g3 (.slice a3 m c3) m f) := ho3
  clear hb3 hq HO2 ho3 hg3
  go_wp2_with fail
  refine (toValue_any a c n N _ n20 (H.out.below HB3.out)).mono ?_
  rintro e w4 ⟨b4, a4, c4, rfl, l4, m4, ho4, hb4⟩
  have x4 : w4.cell? ⟨w.heap.size, 0, none⟩ = some (.slice a n c) := (hb4.cell z3).trans x3
  have HB4 : Hid (Below w.heap.size w w4) := HB3.out.trans (hb4.mono HB3.out.size)
  have z4 : w.heap.size < w4.heap.size := by have := hb4.size; omega
  have z34 := hb4.size
  have HO4 : Hid (OwnAt w4 b4 (.slice a4 n c4) n N) := ho4
  have HK4 : Hid (OwnS w4 g3 (.slice a3 m c3) m f) := HK3.out.below hb4
  clear ho4 hb4 HK3
  go_wp2_with fail
  have hal : ∀ o, Below w4.heap.size w4 (w4.alloc o) := fun o => (Below.refl _ _).alloc (Nat.le_refl _) o
  refine (implPaths_any b4 n a4 c4 N _ (HO4.out.below (hal _)) HSM.out (HTB.out.up (HB4.out.trans ((hal _).mono HB4.out.size))) (HML.out.below (HB4.out.trans ((hal _).mono HB4.out.size)))).mono ?_
  rintro e w5 ⟨v5, g, g5, m5, f5, rfl, hg, hg5, ho5, hb5⟩
  obtain ⟨rfl, rfl, rfl⟩ : g = q ∧ m5 = m ∧ f5 = f := hg.same HQ.out
  obtain ⟨a5, c5, rfl⟩ := ho5.form
  have x5 : w5.cell? ⟨w.heap.size, 0, none⟩ = some (.slice a n c) := by rw [hb5.cell (by simp; omega)]; simp [World.cell?_alloc_past, z4, x4]
  have y5 : w5.cell? ⟨w4.heap.size, 0, none⟩ = some (.slice a4 n c4) := by rw [hb5.cell (by simp)]; simp [World.cell?_alloc_new]
  have hbb : Below w4.heap.size w4 w5 := (hal _).trans (hb5.mono (by simp))
  have HB5 : Hid (Below w.heap.size w w5) := HB4.out.trans (hbb.mono HB4.out.size)
  have z5 : w4.heap.size < w5.heap.size := by have := hb5.size; simp at this; omega
  have z5' : w.heap.size < w5.heap.size := by omega
  have HO5 : Hid (OwnAt w5 b4 (.slice a4 n c4) n N) := HO4.out.below hbb
  have HK5 : Hid (OwnS w5 g3 (.slice a3 m5 c3) m5 f5) := HK4.out.below hbb
  have HG5 : Hid (OwnS w5 g5 (.slice a5 m5 c5) m5 f5) := ho5
  have hg5' : w4.heap.size < g5 := by simp at hg5; omega
  clear hb5 hbb hal hg HO4 HK4 ho5 hg5
  go_wp2_with fail
  refine (eqStringS_any _ _ g5 g3 m5 f5 _ HG5.out HK5.out).mono ?_
  rintro e w6 ⟨rfl, hb6⟩
  have x6 : w6.cell? ⟨w.heap.size, 0, none⟩ = some (.slice a n c) := (hb6.cell z5').trans x5
  have y6 : w6.cell? ⟨w4.heap.size, 0, none⟩ = some (.slice a4 n c4) := (hb6.cell z5).trans y5
  have z6 : w4.heap.size < w6.heap.size := by have := hb6.size; omega
  have z6' : w.heap.size < w6.heap.size := by omega
  have HB6 : Hid (Below w.heap.size w w6) := HB5.out.trans (hb6.mono HB5.out.size)
  have HO6 : Hid (OwnAt w6 b4 (.slice a4 n c4) n N) := HO5.out.below hb6
  have HK6 : Hid (OwnS w6 g3 (.slice a3 m5 c3) m5 f5) := HK5.out.below hb6
  have HG6 : Hid (OwnS w6 g5 (.slice a5 m5 c5) m5 f5) := HG5.out.below hb6
  clear hb6 HO5 HK5 HG5
  go_wp2_with fail
  go_region_held3 (fun w' => w'.cell? ⟨w.heap.size, 0, none⟩ = some (.slice a n c) ∧ w'.cell? ⟨w4.heap.size, 0, none⟩ = some (.slice a4 n c4)) (first | exact ⟨x6, y6⟩ | exact ⟨(hc8 _ _ (Nat.lt_of_lt_of_le z6' zz7)).trans ((hc7 _ _ z6').trans x6), (hc8 _ _ (Nat.lt_of_lt_of_le z6 zz7)).trans ((hc7 _ _ z6).trans y6)⟩ | exact ⟨(hc7 _ _ z6').trans x6, (hc7 _ _ z6).trans y6⟩)
    (first | (go_at_call 19; refine (toValue_any a c n N _ n20 (H.out.below (HB6.out.drew))).mono ?_; rintro e w7 ⟨b7, a7, c7, rfl, l7, m7, ho7, hb7⟩; obtain ⟨hc7, hf7⟩ := bcell hb7; have zz7 := hb7.size) | (go_at_call 14; refine (eqValue_any _ _ n N _ ((HO6.out.below ((Below.drew (Below.refl w6.heap.size w6)).trans (hb7.mono (Nat.le_refl w6.heap.size)))).slice) ho7.slice).mono ?_; rintro e w8 ⟨rfl, hb8⟩; obtain ⟨hc8, hf8⟩ := bcell hb8))
  have B68 : Below w6.heap.size w6 w8 := ((Below.drew (Below.refl w6.heap.size w6)).trans (hb7.mono (Nat.le_refl w6.heap.size))).trans (hb8.mono zz7)
  have x8 : w8.cell? ⟨w.heap.size, 0, none⟩ = some (.slice a n c) := (B68.cell z6').trans x6
  have y8 : w8.cell? ⟨w4.heap.size, 0, none⟩ = some (.slice a4 n c4) := (B68.cell z6).trans y6
  have z8 : w4.heap.size < w8.heap.size := by have := B68.size; omega
  have z8' : w.heap.size < w8.heap.size := by omega
  have HB8 : Hid (Below w.heap.size w w8) := HB6.out.trans (B68.mono HB6.out.size)
  have HO8 : Hid (OwnAt w8 b4 (.slice a4 n c4) n N) := HO6.out.below B68
  have HK8 : Hid (OwnS w8 g3 (.slice a3 m5 c3) m5 f5) := HK6.out.below B68
  have HG8 : Hid (OwnS w8 g5 (.slice a5 m5 c5) m5 f5) := HG6.out.below B68
  clear hb7 hb8 hc7 hf7 hc8 hf8 zz7 B68 ho7 HO6 HK6 HG6 x6 y6 l7 m7
  go_wp2_with fail
  refine (markValue_any _ b4 n N 1 _ (by omega) (by omega) HO8.out).mono ?_
  rintro e w9 ⟨rfl, hb9, ho9⟩
  have x9 : w9.cell? ⟨w.heap.size, 0, none⟩ = some (.slice a n c) := (hb9.cell z8' (by omega)).trans x8
  have z9 : w4.heap.size < w9.heap.size := by have := hb9.size; omega
  have z9' : w.heap.size < w9.heap.size := by omega
  have HB9 : Hid (Below w.heap.size w w9) := HB8.out.trans (hb9.below HB8.out.size (by omega))
  have HK9 : Hid (OwnS w9 g3 (.slice a3 m5 c3) m5 f5) := HK8.out.but2 hb9 (fun h => by have := HL3.out h; omega)
  have HG9 : Hid (OwnS w9 g5 (.slice a5 m5 c5) m5 f5) := HG8.out.but2 hb9 (fun h => by omega)
  clear hb9 ho9 HO8 HK8 HG8 x8 y8
  go_wp2_with fail
  refine (eqStringS_any _ _ g5 g3 m5 f5 _ HG9.out HK9.out).mono ?_
  rintro e w10 ⟨rfl, hb10⟩
  have x10 : w10.cell? ⟨w.heap.size, 0, none⟩ = some (.slice a n c) := (hb10.cell z9').trans x9
  have z10 : w4.heap.size < w10.heap.size := by have := hb10.size; omega
  have z10' : w.heap.size < w10.heap.size := by omega
  have HB10 : Hid (Below w.heap.size w w10) := HB9.out.trans (hb10.mono HB9.out.size)
  have HK10 : Hid (OwnS w10 g3 (.slice a3 m5 c3) m5 f5) := HK9.out.below hb10
  have HG10 : Hid (OwnS w10 g5 (.slice a5 m5 c5) m5 f5) := HG9.out.below hb10
  clear hb10 HK9 HG9 x9
  go_wp2_with fail
  refine (markStringS_any _ g5 m5 f5 _ HG10.out).mono ?_
  rintro e w11 ⟨rfl, hb11, ho11⟩
  have x11 : w11.cell? ⟨w.heap.size, 0, none⟩ = some (.slice a n c) := (hb11.cell z10' (by omega)).trans x10
  have z11 : w4.heap.size < w11.heap.size := by have := hb11.size; omega
  have z11' : w.heap.size < w11.heap.size := by omega
  have HB11 : Hid (Below w.heap.size w w11) := HB10.out.trans (hb11.below HB10.out.size (by omega))
  have HK11 : Hid (OwnS w11 g3 (.slice a3 m5 c3) m5 f5) := HK10.out.but2 hb11 (fun h => by have := HL3.out h; omega)
  have HG11 : Hid (OwnS w11 g5 (.slice a5 m5 c5) m5 (fun i => mtext (1 + i))) := ho11
  clear hb11 ho11 HK10 HG10 x10
  go_wp2_with fail
  refine (heldStringS_any _ g5 m5 _ HG11.out).mono ?_
  rintro e w12 ⟨rfl, hb12⟩
  have x12 : w12.cell? ⟨w.heap.size, 0, none⟩ = some (.slice a n c) := (hb12.cell z11').trans x11
  have z12 : w4.heap.size < w12.heap.size := by have := hb12.size; omega
  have z12' : w.heap.size < w12.heap.size := by omega
  have HB12 : Hid (Below w.heap.size w w12) := HB11.out.trans (hb12.mono HB11.out.size)
  have HK12 : Hid (OwnS w12 g3 (.slice a3 m5 c3) m5 f5) := HK11.out.below hb12
  have HG12 : Hid (OwnS w12 g5 (.slice a5 m5 c5) m5 (fun i => mtext (1 + i))) := HG11.out.below hb12
  clear hb12 HK11 HG11 x11
  go_wp2_with fail
  refine (toValue_any a c n N _ n20 (H.out.below HB12.out)).mono ?_
  rintro e w13 ⟨b13, a13, c13, rfl, l13, m13, ho13, hb13⟩
  have x13 : w13.cell? ⟨w.heap.size, 0, none⟩ = some (.slice a n c) := (hb13.cell z12').trans x12
  have z13' : w.heap.size < w13.heap.size := by have := hb13.size; omega
  have HB13 : Hid (Below w.heap.size w w13) := HB12.out.trans (hb13.mono HB12.out.size)
  have HO13 : Hid (OwnAt w13 b13 (.slice a13 n c13) n N) := ho13
  have HK13 : Hid (OwnS w13 g3 (.slice a3 m5 c3) m5 f5) := HK12.out.below hb13
  have HG13 : Hid (OwnS w13 g5 (.slice a5 m5 c5) m5 (fun i => mtext (1 + i))) := HG12.out.below hb13
  clear hb13 ho13 HK12 HG12 x12 l13 m13
  go_wp2_with fail
  refine (implPaths_any b13 n a13 c13 N _ HO13.out HSM.out (HTB.out.up HB13.out) (HML.out.below HB13.out)).mono ?_
  rintro e w14 ⟨v14, g', g14, m14, f14, rfl, hg, hg14, ho14, hb14⟩
  obtain ⟨rfl, rfl, rfl⟩ : g' = g ∧ m14 = m5 ∧ f14 = f5 := hg.same HQ.out
  obtain ⟨a14, c14, rfl⟩ := ho14.form
  have HB14 : Hid (Below w.heap.size w w14) := HB13.out.trans (hb14.mono HB13.out.size)
  have HK14 : Hid (OwnS w14 g3 (.slice a3 m14 c3) m14 f14) := HK13.out.below hb14
  have HG14 : Hid (OwnS w14 g5 (.slice a5 m14 c5) m14 (fun i => mtext (1 + i))) := HG13.out.below hb14
  have HH14 : Hid (OwnS w14 g14 (.slice a14 m14 c14) m14 f14) := ho14
  clear hb14 ho14 HK13 HG13 x13 hg hg14 HO13
  go_wp2_with fail
  refine (eqStringS_any _ _ g14 g3 m14 f14 _ HH14.out HK14.out).mono ?_
  rintro e w15 ⟨rfl, hb15⟩
  have HB15 : Hid (Below w.heap.size w w15) := HB14.out.trans (hb15.mono HB14.out.size)
  have HG15 : Hid (OwnS w15 g5 (.slice a5 m14 c5) m14 (fun i => mtext (1 + i))) := HG14.out.below hb15
  clear hb15 HK14 HG14 HH14
  go_wp2_with fail
  refine (heldStringS_any _ g5 m14 _ HG15.out).mono ?_
  rintro e w16 ⟨rfl, hb16⟩
  have HB16 : Hid (Below w.heap.size w w16) := HB15.out.trans (hb16.mono HB15.out.size)
  clear hb16 HG15
  go_wp2
  go_ret
  exact ⟨rfl, HB16.out⟩

end Go.Proofs.YthgjelbhhdomdaaDoor
