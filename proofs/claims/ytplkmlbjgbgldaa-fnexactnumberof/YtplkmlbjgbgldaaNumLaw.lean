/- FnExactNumberOf answers true at every number: NumberOf answers as the specification, keeps nothing, and its answer owns its memory. No condition. -/
import Derived.Test.YtplkmlbjgbgldaaVals
namespace Go.Proofs.Ytplkmlbjgbgldaa
open Go.RowKit

set_option maxHeartbeats 1000000 in
theorem numberOf_law (n : Int) (w : World) :
    Calls Try.prog 3 #[.int .i64 n] w fun e w' => e = .returned (.bool true) ∧ Below w.heap.size w w' := by
  go_enter Try.func3, Try.ntmps3
  go_wp2_with fail
  refine (specNumberOf_any n _).mono ?_
  rintro e w1 ⟨b0, v0, rfl, hb0, ho0, hbl0⟩
  obtain ⟨a0, c0, rfl⟩ := ho0.form
  have HS0 : Hid (SliceIs w1 w1.heap.size (.slice a0 1 c0) 1 (fun _ => numNd (numIn n))) := ho0.slice
  have HB0 : Hid (Below w.heap.size w w1) := hbl0
  have hw0 := hbl0.size
  clear ho0 hbl0 hb0
  go_wp2_with fail
  refine (implNumberOf_any n _).mono ?_
  rintro e w2 ⟨b1, v1, rfl, hb1, ho1, hbl1⟩
  obtain ⟨a1, c1, rfl⟩ := ho1.form
  have l1 := ho1.lt (by omega)
  have z1 := hbl1.size
  simp at z1 hb1
  have z1' : w1.heap.size < w2.heap.size := by omega
  have x0 : w2.cell? ⟨w1.heap.size, 0, none⟩ = some (.slice a0 1 c0) := by rw [hbl1.cell (by simp)]; simp [World.cell?_alloc_new]
  have HS1 : Hid (SliceIs w2 w1.heap.size (.slice a0 1 c0) 1 (fun _ => numNd (numIn n))) := HS0.out.below (Below.trans (by go_grown) (hbl1.mono (by simp))) (Nat.le_refl _)
  have HB1 : Hid (Below w.heap.size w w2) := HB0.out.trans (Below.trans (show Below w.heap.size w1 _ from (Below.refl _ _).alloc HB0.out.size _) (hbl1.mono (by have := HB0.out.size; simp; omega)))
  have HO1 : Hid (OwnAt w2 b1 (.slice a1 1 c1) 1 (fun _ => numNd (numIn n))) := ho1
  clear ho1 hbl1 HS0 HB0
  go_wp2_with fail
  have al1 : ∀ o, Below w2.heap.size w2 (w2.alloc o) := fun o => (Below.refl _ _).alloc (Nat.le_refl _) _
  refine (eqValue_any _ _ 1 (fun _ => numNd (numIn n)) _ (by exact (HO1.out.slice).below (al1 _) (by simp)) (by exact HS1.out.below ((al1 _).mono (by omega)) (by simp; omega))).mono ?_
  rintro e w3 ⟨rfl, hbl2⟩
  have z2 := hbl2.size
  simp at z2
  have z2' : w1.heap.size < w3.heap.size := by omega
  have z2'' : w2.heap.size < w3.heap.size := by omega
  have x1 : w3.cell? ⟨w1.heap.size, 0, none⟩ = some (.slice a0 1 c0) := by rw [hbl2.cell (by simp; omega)]; simp [World.cell?_alloc_past, z1', x0]
  have y1 : w3.cell? ⟨w2.heap.size, 0, none⟩ = some (.slice a1 1 c1) := by rw [hbl2.cell (by simp)]; simp [World.cell?_alloc_new]
  have bl2 : Below w2.heap.size w2 w3 := (al1 _).trans (hbl2.mono (by simp))
  have HO2 : Hid (OwnAt w3 b1 (.slice a1 1 c1) 1 (fun _ => numNd (numIn n))) := HO1.out.below bl2
  have HS2 : Hid (SliceIs w3 w1.heap.size (.slice a0 1 c0) 1 (fun _ => numNd (numIn n))) := HS1.out.below (bl2.mono (by omega)) (Nat.le_refl _)
  have HB2 : Hid (Below w.heap.size w w3) := HB1.out.trans (bl2.mono HB1.out.size)
  clear HO1 HS1 HB1 hbl2 al1 bl2 x0
  go_wp2_with fail
  refine (markValue_any _ b1 1 (fun _ => numNd (numIn n)) 1 _ (by omega) (by omega) HO2.out).mono ?_
  rintro e w4 ⟨rfl, hbb, ho4⟩
  have z3 := hbb.size
  have z3' : w1.heap.size < w4.heap.size := by omega
  have z3'' : w2.heap.size < w4.heap.size := by omega
  have x2 : w4.cell? ⟨w1.heap.size, 0, none⟩ = some (.slice a0 1 c0) := (hbb.cell z2' (by omega)).trans x1
  have y2 : w4.cell? ⟨w2.heap.size, 0, none⟩ = some (.slice a1 1 c1) := (hbb.cell z2'' (by omega)).trans y1
  have hw1 := HB2.out.size
  have HS3 : Hid (SliceIs w4 w1.heap.size (.slice a0 1 c0) 1 (fun _ => numNd (numIn n))) := HS2.out.but hbb (by omega) (by omega)
  have HB3 : Hid (Below w.heap.size w w4) := HB2.out.trans (hbb.below hw1 (by omega))
  have HO4 : Hid (OwnAt w4 b1 (.slice a1 1 c1) 1 (fun i => mk (1 + 5 * i))) := ho4
  clear HO2 HS2 HB2 hbb ho4 x1 y1
  go_wp2_with fail
  refine (heldValue_any _ b1 1 1 _ (by omega) (by omega) HO4.out).mono ?_
  rintro e w5 ⟨rfl, hbl5⟩
  have z5 := hbl5.size
  have z5' : w1.heap.size < w5.heap.size := by omega
  have z5'' : w2.heap.size < w5.heap.size := by omega
  have x5 : w5.cell? ⟨w1.heap.size, 0, none⟩ = some (.slice a0 1 c0) := (hbl5.cell z3').trans x2
  have y5 : w5.cell? ⟨w2.heap.size, 0, none⟩ = some (.slice a1 1 c1) := (hbl5.cell z3'').trans y2
  have HS5 : Hid (SliceIs w5 w1.heap.size (.slice a0 1 c0) 1 (fun _ => numNd (numIn n))) := HS3.out.below (hbl5.mono (by omega)) (Nat.le_refl _)
  have HB5 : Hid (Below w.heap.size w w5) := HB3.out.trans (hbl5.mono (by omega))
  have HO5 : Hid (OwnAt w5 b1 (.slice a1 1 c1) 1 (fun i => mk (1 + 5 * i))) := HO4.out.below hbl5
  clear HO4 HS3 HB3 hbl5 x2 y2
  go_wp2_with fail
  refine (implNumberOf_any n _).mono ?_
  rintro e w6 ⟨b2, v2, rfl, hb2, ho6, hbl6⟩
  obtain ⟨a2, c2, rfl⟩ := ho6.form
  have z6 := hbl6.size
  have z6' : w1.heap.size < w6.heap.size := by omega
  have z6'' : w2.heap.size < w6.heap.size := by omega
  have x6 : w6.cell? ⟨w1.heap.size, 0, none⟩ = some (.slice a0 1 c0) := (hbl6.cell z5').trans x5
  have y6 : w6.cell? ⟨w2.heap.size, 0, none⟩ = some (.slice a1 1 c1) := (hbl6.cell z5'').trans y5
  have HS6 : Hid (SliceIs w6 w1.heap.size (.slice a0 1 c0) 1 (fun _ => numNd (numIn n))) := HS5.out.below (hbl6.mono (by omega)) (Nat.le_refl _)
  have HB6 : Hid (Below w.heap.size w w6) := HB5.out.trans (hbl6.mono (by omega))
  have HO6 : Hid (OwnAt w6 b1 (.slice a1 1 c1) 1 (fun i => mk (1 + 5 * i))) := HO5.out.below hbl6
  have HP6 : Hid (OwnAt w6 b2 (.slice a2 1 c2) 1 (fun _ => numNd (numIn n))) := ho6
  clear HO5 HS5 HB5 hbl6 ho6 x5 y5
  go_wp2_with fail
  have al6 : ∀ o, Below w6.heap.size w6 (w6.alloc o) := fun o => (Below.refl _ _).alloc (Nat.le_refl _) _
  refine (eqValue_any _ _ 1 (fun _ => numNd (numIn n)) _ (by exact (HP6.out.slice).below (al6 _) (by simp)) (by exact HS6.out.below ((al6 _).mono (by omega)) (by simp; omega))).mono ?_
  rintro e w7 ⟨rfl, hbl7⟩
  have z7 := hbl7.size
  simp at z7
  have bl7 : Below w6.heap.size w6 w7 := (al6 _).trans (hbl7.mono (by simp))
  have y7 : w7.cell? ⟨w2.heap.size, 0, none⟩ = some (.slice a1 1 c1) := (bl7.cell z6'').trans y6
  have HB7 : Hid (Below w.heap.size w w7) := HB6.out.trans (bl7.mono (by omega))
  have HO7 : Hid (OwnAt w7 b1 (.slice a1 1 c1) 1 (fun i => mk (1 + 5 * i))) := HO6.out.below bl7
  clear HO6 HS6 HB6 hbl7 HP6 x6 y6 bl7 al6
  go_wp2_with fail
  refine (heldValue_any _ b1 1 1 _ (by omega) (by omega) HO7.out).mono ?_
  rintro e w8 ⟨rfl, hbl8⟩
  have HB8 : Hid (Below w.heap.size w w8) := HB7.out.trans (hbl8.mono (by omega))
  clear HO7 HB7 hbl8 y7
  go_wp2
  go_ret
  exact ⟨rfl, HB8.out⟩

end Go.Proofs.Ytplkmlbjgbgldaa
