/- FnExactGoodAct answers true at every act: GoodAct answers as the specification and writes into nothing. -/
import Derived.Test.YtjohocnfcnjciaaDoorActM
import Derived.Test.YtjohocnfcnjciaaDoorActS
namespace Go.Proofs.YtjohocnfcnjciaaDoor
open Go.RowKit
set_option linter.unusedVariables false

/-- An act lies in a block. -/
def ActIn (g : Nat) (k : Int) (p : ByteArray) (a : Option Addr) (n c : Nat) (w : World) : Prop := w.cell? ⟨g, 0, none⟩ = some (.int .i64 k) ∧ w.cell? ⟨g, 1, none⟩ = some (.string p) ∧ w.cell? ⟨g, 2, none⟩ = some (.slice a n c)
theorem ActIn.below {g : Nat} {k : Int} {p : ByteArray} {a : Option Addr} {n c : Nat} {w w' : World} {B : Nat} (h : ActIn g k p a n c w) (hb : Below B w w') (hg : g < B) : ActIn g k p a n c w' := ⟨(hb.cell hg).trans h.1, (hb.cell hg).trans h.2.1, (hb.cell hg).trans h.2.2⟩
theorem ActIn.new (k : Int) (p : ByteArray) (a : Option Addr) (n c : Nat) (w : World) (T : TypeId) : ActIn w.heap.size k p a n c (w.alloc (.cells #[.int .i64 k, .string p, .slice a n c] T)) := ⟨by simp [World.cell?_alloc_new], by simp [World.cell?_alloc_new], by simp [World.cell?_alloc_new]⟩

set_option maxRecDepth 100000 in
set_option maxHeartbeats 4000000 in
theorem goodAct_law (k : Int) (p : ByteArray) (a : Option Addr) (n c : Nat) (N : Nat → Nd) (w : World) (hp : p.size ≤ maxLen) (hn : n ≤ maxLen) (h : ArgIs w a n N) (hz : ∀ i, i < n → (N i).text.size ≤ maxLen ∧ (N i).name.size ≤ maxLen) (htab : Tab w.heap.size w) (hml : ML w) :
    Calls Tryd.prog 3 #[.agg #[.int .i64 k, .string p, .slice a n c]] w fun e w' => e = .returned (.bool true) ∧ Below w.heap.size w w' := by
  have HZ : Hid (∀ i, i < n → (N i).text.size ≤ maxLen ∧ (N i).name.size ≤ maxLen) := hz
  have HML : Hid (ML w) := hml
  have H : Hid (ArgIs w a n N) := h
  have HTB : Hid (Tab w.heap.size w) := htab
  have HP : Hid (p.size ≤ maxLen) := hp
  clear hz h htab hml hp
  go_enter Tryd.func3, Tryd.ntmps3
  go_wp2_with fail
  have hbl0 : ∀ o, Below w.heap.size w (w.alloc o) := fun o => (Below.refl _ _).alloc (Nat.le_refl _) o
  refine (szAct_left k p a n c N 1048576 (by decide) (by decide) _ HP.out hn (H.out.below (hbl0 _)) HZ.out).mono ?_
  rintro e w1 ⟨r, rfl, hr, hb1⟩
  obtain ⟨x10, x11, x12⟩ : ActIn w.heap.size k p a n c w1 := (ActIn.new k p a n c w _).below hb1 (by simp)
  have HB1 : Hid (Below w.heap.size w w1) := (hbl0 _).trans (hb1.mono (by simp))
  have z1 : w.heap.size < w1.heap.size := by have := hb1.size; simp at this; omega
  clear hb1 hbl0
  rcases hr with rfl | ⟨r0, _, hps, hsm⟩
  · go_wp2
    go_ret
    exact ⟨rfl, HB1.out⟩
  have HSM : Hid (SmallN n N) := hsm
  have HPS : Hid (p.size ≤ 2 ^ 20) := hps
  have n20 : n ≤ 2 ^ 20 := hsm.1
  have r1 : ¬ r < 0 := by omega
  clear hsm hps
  go_wp2_with fail
  refine (toAct_any k p a n c N _ n20 (H.out.below HB1.out)).mono ?_
  rintro e w2 ⟨b2, a2, c2, rfl, cc2, l2, ho2, hb2⟩
  obtain ⟨x20, x21, x22⟩ : ActIn w.heap.size k p a n c w2 := ActIn.below ⟨x10, x11, x12⟩ hb2 z1
  have HB2 : Hid (Below w.heap.size w w2) := HB1.out.trans (hb2.mono HB1.out.size)
  have z2 : w.heap.size < w2.heap.size := by have := hb2.size; omega
  have HO2 : Hid (ArgIs w2 a2 n N) := ho2.argOf.2
  clear ho2 hb2 l2 x10 x11 x12
  go_wp2_with fail
  refine (specGoodAct_any k p a2 n c2 N _ HPS.out HO2.out HSM.out).mono ?_
  rintro e w3 ⟨q, rfl, hq, hb3⟩
  have HQ : Hid (q = true ↔ ActOK k p N n) := hq
  obtain ⟨x30, x31, x32⟩ : ActIn w.heap.size k p a n c w3 := ActIn.below ⟨x20, x21, x22⟩ hb3 z2
  have HB3 : Hid (Below w.heap.size w w3) := HB2.out.trans (hb3.mono HB2.out.size)
  have z3 : w.heap.size < w3.heap.size := by have := hb3.size; omega
  clear hb3 hq HO2 x20 x21 x22
  go_wp2_with fail
  refine (toAct_any k p a n c N _ n20 (H.out.below HB3.out)).mono ?_
  rintro e w4 ⟨b4, a4, c4, rfl, cc4, l4, ho4, hb4⟩
  obtain ⟨x40, x41, x42⟩ : ActIn w.heap.size k p a n c w4 := ActIn.below ⟨x30, x31, x32⟩ hb4 z3
  have HB4 : Hid (Below w.heap.size w w4) := HB3.out.trans (hb4.mono HB3.out.size)
  have z4 : w.heap.size < w4.heap.size := by have := hb4.size; omega
  have HO4 : Hid (ArgIs w4 a4 n N) := ho4.argOf.2
  clear ho4 hb4 l4 x30 x31 x32
  go_wp2_with fail
  have hal : ∀ o, Below w4.heap.size w4 (w4.alloc o) := fun o => (Below.refl _ _).alloc (Nat.le_refl _) o
  refine (implGoodAct_any k p a4 n c4 N _ (HO4.out.below (hal _)) HSM.out (HTB.out.up (HB4.out.trans ((hal _).mono HB4.out.size))) (HML.out.below (HB4.out.trans ((hal _).mono HB4.out.size)))).mono ?_
  rintro e w5 ⟨g, rfl, hg, hb5⟩
  have hgq : g = q := bool_same hg HQ.out
  subst hgq
  obtain ⟨x50, x51, x52⟩ : ActIn w.heap.size k p a n c w5 := (ActIn.below ⟨x40, x41, x42⟩ (hal _) z4).below hb5 (by simp; omega)
  obtain ⟨y50, y51, y52⟩ : ActIn w4.heap.size k p a4 n c4 w5 := (ActIn.new k p a4 n c4 w4 _).below hb5 (by simp)
  have hbb : Below w4.heap.size w4 w5 := (hal _).trans (hb5.mono (by simp))
  have HB5 : Hid (Below w.heap.size w w5) := HB4.out.trans (hbb.mono HB4.out.size)
  have z5 : w4.heap.size < w5.heap.size := by have := hb5.size; simp at this; omega
  have z5' : w.heap.size < w5.heap.size := by omega
  have HO5 : Hid (ArgIs w5 a4 n N) := HO4.out.below hbb
  clear hb5 hbb hal hg HO4 x40 x41 x42
  go_wp2_with fail
  have K5 : (w5.cell? ⟨w.heap.size, 0, none⟩ = some (.int .i64 k) ∧ w5.cell? ⟨w.heap.size, 1, none⟩ = some (.string p) ∧ w5.cell? ⟨w.heap.size, 2, none⟩ = some (.slice a n c)) ∧ (w5.cell? ⟨w4.heap.size, 0, none⟩ = some (.int .i64 k) ∧ w5.cell? ⟨w4.heap.size, 1, none⟩ = some (.string p) ∧ w5.cell? ⟨w4.heap.size, 2, none⟩ = some (.slice a4 n c4)) := ⟨⟨x50, x51, x52⟩, y50, y51, y52⟩
  go_region_held3 (fun w' => (w'.cell? ⟨w.heap.size, 0, none⟩ = some (.int .i64 k) ∧ w'.cell? ⟨w.heap.size, 1, none⟩ = some (.string p) ∧ w'.cell? ⟨w.heap.size, 2, none⟩ = some (.slice a n c)) ∧ (w'.cell? ⟨w4.heap.size, 0, none⟩ = some (.int .i64 k) ∧ w'.cell? ⟨w4.heap.size, 1, none⟩ = some (.string p) ∧ w'.cell? ⟨w4.heap.size, 2, none⟩ = some (.slice a4 n c4))) (first | exact K5 | exact K7 | exact K6)
    (first | (go_at_call 6; refine (toAct_any k p a n c N _ n20 (H.out.below (HB5.out.drew))).mono ?_; rintro e w6 ⟨b6, a6, c6, rfl, cc6, l6, ho6, hb6⟩; have hbb6 : Below w5.heap.size w5 w6 := ((Below.refl _ w5).drew).trans hb6; have K6 : (w6.cell? ⟨w.heap.size, 0, none⟩ = some (.int .i64 k) ∧ w6.cell? ⟨w.heap.size, 1, none⟩ = some (.string p) ∧ w6.cell? ⟨w.heap.size, 2, none⟩ = some (.slice a n c)) ∧ (w6.cell? ⟨w4.heap.size, 0, none⟩ = some (.int .i64 k) ∧ w6.cell? ⟨w4.heap.size, 1, none⟩ = some (.string p) ∧ w6.cell? ⟨w4.heap.size, 2, none⟩ = some (.slice a4 n c4)) := ⟨ActIn.below (show ActIn w.heap.size k p a n c w5 from K5.1) hbb6 z5', ActIn.below (show ActIn w4.heap.size k p a4 n c4 w5 from K5.2) hbb6 z5⟩; have zz6 := hbb6.size) | (go_at_call 8; refine (eqAct_same k p a4 a6 n c4 c6 N _ (by omega) (HO5.out.below ((Below.drew (Below.refl w5.heap.size w5)).trans (hb6.mono (Nat.le_refl w5.heap.size)))) ho6.argOf.2).mono ?_; rintro e w7 ⟨rfl, hb7⟩; have K7 : (w7.cell? ⟨w.heap.size, 0, none⟩ = some (.int .i64 k) ∧ w7.cell? ⟨w.heap.size, 1, none⟩ = some (.string p) ∧ w7.cell? ⟨w.heap.size, 2, none⟩ = some (.slice a n c)) ∧ (w7.cell? ⟨w4.heap.size, 0, none⟩ = some (.int .i64 k) ∧ w7.cell? ⟨w4.heap.size, 1, none⟩ = some (.string p) ∧ w7.cell? ⟨w4.heap.size, 2, none⟩ = some (.slice a4 n c4)) := ⟨ActIn.below (show ActIn w.heap.size k p a n c w6 from K6.1) hb7 (Nat.lt_of_lt_of_le z5' zz6), ActIn.below (show ActIn w4.heap.size k p a4 n c4 w6 from K6.2) hb7 (Nat.lt_of_lt_of_le z5 zz6)⟩))
  go_wp2
  go_ret
  exact ⟨rfl, (HB5.out.drew.trans (hb6.mono HB5.out.size)).trans (hb7.mono (Nat.le_trans HB5.out.size zz6))⟩

end Go.Proofs.YtjohocnfcnjciaaDoor
