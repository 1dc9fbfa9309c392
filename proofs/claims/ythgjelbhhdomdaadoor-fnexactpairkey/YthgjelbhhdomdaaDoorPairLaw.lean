/- FnExactPairKey answers true at every two values: PairKey answers as the specification and writes into nothing. -/
import Derived.Test.YthgjelbhhdomdaaDoorPairOwn
import Derived.Test.YthgjelbhhdomdaaDoorSzL
namespace Go.Proofs.YthgjelbhhdomdaaDoor
open Go.RowKit
set_option linter.unusedVariables false

set_option maxRecDepth 100000 in
set_option maxHeartbeats 4000000 in
theorem pairKey_law (a : Option Addr) (c n : Nat) (N : Nat → Nd) (a' : Option Addr) (c' n' : Nat) (M : Nat → Nd) (w : World) (hn : n ≤ maxLen) (h : ArgIs w a n N) (hz : ∀ i, i < n → (N i).text.size ≤ maxLen ∧ (N i).name.size ≤ maxLen)
    (hn' : n' ≤ maxLen) (h' : ArgIs w a' n' M) (hz' : ∀ i, i < n' → (M i).text.size ≤ maxLen ∧ (M i).name.size ≤ maxLen) (htab : Tab w.heap.size w) (hmk : Marks w) :
    Calls Tryd.prog 5 #[.agg #[.slice a n c], .agg #[.slice a' n' c']] w fun e w' => e = .returned (.bool true) ∧ Below w.heap.size w w' := by
  have HZ : Hid (∀ i, i < n → (N i).text.size ≤ maxLen ∧ (N i).name.size ≤ maxLen) := hz
  have HZ' : Hid (∀ i, i < n' → (M i).text.size ≤ maxLen ∧ (M i).name.size ≤ maxLen) := hz'
  have H : Hid (ArgIs w a n N) := h
  have H' : Hid (ArgIs w a' n' M) := h'
  have HTB : Hid (Tab w.heap.size w) := htab
  have HMK : Hid (Marks w) := hmk
  clear hz h htab hz' h' hmk
  go_enter Tryd.func5, Tryd.ntmps5
  go_wp2_with fail
  have hbl0 : ∀ o o', Below w.heap.size w ((w.alloc o).alloc o') := fun o o' => ((Below.refl _ _).alloc (Nat.le_refl _) o).alloc (by simp) o'
  refine (szValue_left a c n N 1048576 (by decide) (by decide) _ hn (H.out.below (hbl0 _ _)) HZ.out).mono ?_
  rintro e w1 ⟨r, rfl, hr, hb1⟩
  have x1 : w1.cell? ⟨w.heap.size, 0, none⟩ = some (.slice a n c) := by rw [hb1.cell (by simp; omega)]; simp [go_sem]
  have y1 : w1.cell? ⟨w.heap.size + 1, 0, none⟩ = some (.slice a' n' c') := by rw [hb1.cell (by simp)]; simp [go_sem]
  have HB1 : Hid (Below w.heap.size w w1) := (hbl0 _ _).trans (hb1.mono (by simp; omega))
  have z1 : w.heap.size + 1 < w1.heap.size := by have := hb1.size; simp at this; omega
  have z1' : w.heap.size < w1.heap.size := by omega
  clear hb1 hbl0
  rcases hr with rfl | ⟨r0, r20, hsm⟩
  · go_wp2
    go_ret
    exact ⟨rfl, HB1.out⟩
  have HSM : Hid (SmallN n N) := hsm
  have n20 : n ≤ 2 ^ 20 := hsm.1
  have r1 : ¬ r < 0 := by omega
  clear hsm
  go_wp2_with fail
  refine (szValue_left a' c' n' M r r0 r20 _ hn' (H'.out.below HB1.out) HZ'.out).mono ?_
  rintro e w2 ⟨r', rfl, hr, hb2⟩
  have x2 : w2.cell? ⟨w.heap.size, 0, none⟩ = some (.slice a n c) := (hb2.cell z1').trans x1
  have y2 : w2.cell? ⟨w.heap.size + 1, 0, none⟩ = some (.slice a' n' c') := (hb2.cell z1).trans y1
  have HB2 : Hid (Below w.heap.size w w2) := HB1.out.trans (hb2.mono HB1.out.size)
  have z2 : w.heap.size + 1 < w2.heap.size := by have := hb2.size; omega
  have z2' : w.heap.size < w2.heap.size := by omega
  clear hb2
  rcases hr with rfl | ⟨r0', r20', hsm⟩
  · go_wp2
    go_ret
    exact ⟨rfl, HB2.out⟩
  have HSM' : Hid (SmallN n' M) := hsm
  have n20' : n' ≤ 2 ^ 20 := hsm.1
  have r1' : ¬ r' < 0 := by omega
  clear hsm
  go_wp2_with fail
  go_region_held3 (fun w' => w'.cell? ⟨w.heap.size, 0, none⟩ = some (.slice a n c) ∧ w'.cell? ⟨w.heap.size + 1, 0, none⟩ = some (.slice a' n' c')) (first | exact ⟨x2, y2⟩ | exact ⟨x3, y3⟩ | exact ⟨x4, y4⟩ | exact ⟨x5, y5⟩ | fail)
    (first | (go_at_call 19; go_fit (toValue_any a c n N w2.drew n20 (H.out.below HB2.out.drew)); rintro e w3 ⟨b3, a3, c3, rfl, l3, m3, ho3, hb3⟩; have x3 := (hb3.cell (p := ⟨w.heap.size, 0, none⟩) z2').trans x2; have y3 := (hb3.cell (p := ⟨w.heap.size + 1, 0, none⟩) z2).trans y2; have zz3 : w2.heap.size ≤ w3.heap.size := hb3.size; have HB3 : Hid (Below w.heap.size w w3) := HB2.out.drew.trans (hb3.mono HB2.out.size); have HO3 : Hid (OwnAt w3 b3 (.slice a3 n c3) n N) := ho3; clear ho3 hb3 l3 m3) | (go_at_call 19; go_fit (toValue_any a' c' n' M w3 n20' (H'.out.below HB3.out)); rintro e w4 ⟨b4, a4, c4, rfl, l4, m4, ho4, hb4⟩; have x4 := (hb4.cell (p := ⟨w.heap.size, 0, none⟩) (Nat.lt_of_lt_of_le z2' zz3)).trans x3; have y4 := (hb4.cell (p := ⟨w.heap.size + 1, 0, none⟩) (Nat.lt_of_lt_of_le z2 zz3)).trans y3; have zz4 : w2.heap.size ≤ w4.heap.size := Nat.le_trans zz3 hb4.size; have HB4 : Hid (Below w.heap.size w w4) := HB3.out.trans (hb4.mono HB3.out.size); have HO34 : Hid (OwnAt w4 b3 (.slice a3 n c3) n N) := HO3.out.below hb4; have HO4 : Hid (OwnAt w4 b4 (.slice a4 n' c4) n' M) := ho4; clear ho4 hb4 l4 m4) | (go_at_call 18; go_fit (specPair_own b3 n a3 c3 N b4 n' a4 c4 M w4 HO34.out HO4.out HSM.out HSM'.out); rintro e w5 ⟨s, q, rfl, hq, hb5⟩; have x5 := (hb5.cell (p := ⟨w.heap.size, 0, none⟩) (Nat.lt_of_lt_of_le z2' zz4)).trans x4; have y5 := (hb5.cell (p := ⟨w.heap.size + 1, 0, none⟩) (Nat.lt_of_lt_of_le z2 zz4)).trans y4; have zz5 : w2.heap.size ≤ w5.heap.size := Nat.le_trans zz4 hb5.size; have HB5 : Hid (Below w.heap.size w w5) := HB4.out.trans (hb5.mono HB4.out.size); have HQ : Hid (PTold N n M n' s q) := hq; clear hq hb5))
  have z5 : w.heap.size + 1 < w5.heap.size := by omega
  have z5' : w.heap.size < w5.heap.size := by omega
  clear HO3 HO34 HO4 HB3 HB4 x2 y2 x3 y3 x4 y4 zz3 zz4
  go_wp2_with fail
  refine (toValue_any a c n N _ n20 (H.out.below HB5.out)).mono ?_
  rintro e w6 ⟨b6, a6, c6, rfl, l6, m6, ho6, hb6⟩
  have z56 := hb6.size
  have x6 : w6.cell? ⟨w.heap.size, 0, none⟩ = some (.slice a n c) := (hb6.cell z5').trans x5
  have y6 : w6.cell? ⟨w.heap.size + 1, 0, none⟩ = some (.slice a' n' c') := (hb6.cell z5).trans y5
  have HB6 : Hid (Below w.heap.size w w6) := HB5.out.trans (hb6.mono HB5.out.size)
  have HO6 : Hid (OwnAt w6 b6 (.slice a6 n c6) n N) := ho6
  have z6 : w.heap.size + 1 < w6.heap.size := by omega
  have z6' : w.heap.size < w6.heap.size := by omega
  clear ho6 hb6 l6 m6 x5 y5
  go_wp2_with fail
  have al6 : ∀ o, Below w6.heap.size w6 (w6.alloc o) := fun o => (Below.refl _ _).alloc (Nat.le_refl _) o
  refine (toValue_any a' c' n' M _ n20' (H'.out.below (HB6.out.trans ((al6 _).mono HB6.out.size)))).mono ?_
  rintro e w7 ⟨b7, a7, c7, rfl, l7, m7, ho7, hb7⟩
  have z67 := hb7.size
  simp at z67
  have B67 : Below w6.heap.size w6 w7 := (al6 _).trans (hb7.mono (by simp))
  have x7 : w7.cell? ⟨w.heap.size, 0, none⟩ = some (.slice a n c) := (B67.cell z6').trans x6
  have y7 : w7.cell? ⟨w.heap.size + 1, 0, none⟩ = some (.slice a' n' c') := (B67.cell z6).trans y6
  have u7 : w7.cell? ⟨w6.heap.size, 0, none⟩ = some (.slice a6 n c6) := by rw [hb7.cell (by simp)]; simp [World.cell?_alloc_new]
  have HB7 : Hid (Below w.heap.size w w7) := HB6.out.trans (B67.mono HB6.out.size)
  have HO67 : Hid (OwnAt w7 b6 (.slice a6 n c6) n N) := HO6.out.below B67
  have HO7 : Hid (OwnAt w7 b7 (.slice a7 n' c7) n' M) := ho7
  have z7 : w.heap.size + 1 < w7.heap.size := by omega
  have z7' : w.heap.size < w7.heap.size := by omega
  have z7u : w6.heap.size < w7.heap.size := by omega
  clear ho7 hb7 l7 m7 x6 y6 B67 al6 HO6
  go_wp2_with fail
  have al7 : ∀ o, Below w7.heap.size w7 (w7.alloc o) := fun o => (Below.refl _ _).alloc (Nat.le_refl _) o
  refine (implPair_own b6 n a6 c6 N b7 n' a7 c7 M _ (HO67.out.below (al7 _)) (HO7.out.below (al7 _)) HSM.out HSM'.out (HTB.out.up (HB7.out.trans ((al7 _).mono HB7.out.size))) (HMK.out.below (HB7.out.trans ((al7 _).mono HB7.out.size)))).mono ?_
  rintro e w8 ⟨s', g, rfl, hg, hb8⟩
  obtain ⟨hss, hgq⟩ : s' = s ∧ g = q := hg.same HQ.out
  subst hss hgq
  have z78 := hb8.size
  simp at z78
  have B78 : Below w7.heap.size w7 w8 := (al7 _).trans (hb8.mono (by simp))
  have x8 : w8.cell? ⟨w.heap.size, 0, none⟩ = some (.slice a n c) := (B78.cell z7').trans x7
  have y8 : w8.cell? ⟨w.heap.size + 1, 0, none⟩ = some (.slice a' n' c') := (B78.cell z7).trans y7
  have u8 : w8.cell? ⟨w6.heap.size, 0, none⟩ = some (.slice a6 n c6) := (B78.cell z7u).trans u7
  have v8 : w8.cell? ⟨w7.heap.size, 0, none⟩ = some (.slice a7 n' c7) := by rw [hb8.cell (by simp)]; simp [World.cell?_alloc_new]
  have HB8 : Hid (Below w.heap.size w w8) := HB7.out.trans (B78.mono HB7.out.size)
  have HO68 : Hid (OwnAt w8 b6 (.slice a6 n c6) n N) := HO67.out.below B78
  have HO78 : Hid (OwnAt w8 b7 (.slice a7 n' c7) n' M) := HO7.out.below B78
  have z8 : w.heap.size + 1 < w8.heap.size := by omega
  have z8' : w.heap.size < w8.heap.size := by omega
  have z8u : w6.heap.size < w8.heap.size := by omega
  have z8v : w7.heap.size < w8.heap.size := by omega
  clear hb8 hg B78 al7 HO67 HO7 x7 y7 u7
  go_wp2_with fail
  go_region_held3 (fun w' => w'.cell? ⟨w.heap.size, 0, none⟩ = some (.slice a n c) ∧ w'.cell? ⟨w6.heap.size, 0, none⟩ = some (.slice a6 n c6)) (first | exact ⟨x8, u8⟩ | exact ⟨x9, u9⟩ | exact ⟨x10, u10⟩ | fail)
    (first | (go_at_call 19; go_fit (toValue_any a c n N w8.drew n20 (H.out.below HB8.out.drew)); rintro e w9 ⟨b9, a9, c9, rfl, l9, m9, ho9, hb9⟩; have x9 := (hb9.cell (p := ⟨w.heap.size, 0, none⟩) z8').trans x8; have u9 := (hb9.cell (p := ⟨w6.heap.size, 0, none⟩) z8u).trans u8; have zz9 : w8.heap.size ≤ w9.heap.size := hb9.size; have B89 : Below w8.heap.size w8 w9 := (Below.drew (Below.refl w8.heap.size w8)).trans hb9) | (go_at_call 14; refine (eqValue_any _ _ n N _ ((HO68.out.below B89).slice) ho9.slice).mono ?_; rintro e w10 ⟨rfl, hb10⟩; have x10 := (hb10.cell (p := ⟨w.heap.size, 0, none⟩) (Nat.lt_of_lt_of_le z8' zz9)).trans x9; have u10 := (hb10.cell (p := ⟨w6.heap.size, 0, none⟩) (Nat.lt_of_lt_of_le z8u zz9)).trans u9))
  have B810 : Below w8.heap.size w8 w10 := B89.trans (hb10.mono zz9)
  have zz10 := B810.size
  have y10 : w10.cell? ⟨w.heap.size + 1, 0, none⟩ = some (.slice a' n' c') := (B810.cell z8).trans y8
  have v10 : w10.cell? ⟨w7.heap.size, 0, none⟩ = some (.slice a7 n' c7) := (B810.cell z8v).trans v8
  have HB10 : Hid (Below w.heap.size w w10) := HB8.out.trans (B810.mono HB8.out.size)
  have HO710 : Hid (OwnAt w10 b7 (.slice a7 n' c7) n' M) := HO78.out.below B810
  have z10 : w.heap.size + 1 < w10.heap.size := by omega
  have z10v : w7.heap.size < w10.heap.size := by omega
  clear hb9 hb10 B89 B810 ho9 l9 m9 x8 y8 u8 v8 x9 u9 HO68 HO78 zz9
  go_wp2_with fail
  go_region_held3 (fun w' => w'.cell? ⟨w.heap.size + 1, 0, none⟩ = some (.slice a' n' c') ∧ w'.cell? ⟨w7.heap.size, 0, none⟩ = some (.slice a7 n' c7)) (first | exact ⟨y10, v10⟩ | exact ⟨y11, v11⟩ | exact ⟨y12, v12⟩ | fail)
    (first | (go_at_call 19; go_fit (toValue_any a' c' n' M w10.drew n20' (H'.out.below HB10.out.drew)); rintro e w11 ⟨b11, a11, c11, rfl, l11, m11, ho11, hb11⟩; have y11 := (hb11.cell (p := ⟨w.heap.size + 1, 0, none⟩) z10).trans y10; have v11 := (hb11.cell (p := ⟨w7.heap.size, 0, none⟩) z10v).trans v10; have zz11 : w10.heap.size ≤ w11.heap.size := hb11.size; have B1011 : Below w10.heap.size w10 w11 := (Below.drew (Below.refl w10.heap.size w10)).trans hb11) | (go_at_call 14; refine (eqValue_any _ _ n' M _ ((HO710.out.below B1011).slice) ho11.slice).mono ?_; rintro e w12 ⟨rfl, hb12⟩; have y12 := (hb12.cell (p := ⟨w.heap.size + 1, 0, none⟩) (Nat.lt_of_lt_of_le z10 zz11)).trans y11; have v12 := (hb12.cell (p := ⟨w7.heap.size, 0, none⟩) (Nat.lt_of_lt_of_le z10v zz11)).trans v11))
  have HBF : Hid (Below w.heap.size w w12) := HB10.out.trans ((B1011.trans (hb12.mono zz11)).mono HB10.out.size)
  clear hb11 hb12 B1011 ho11 l11 m11
  go_wp2
  go_ret
  exact ⟨rfl, HBF.out⟩

end Go.Proofs.YthgjelbhhdomdaaDoor
