/- Copies: the greatest Version, and who has another text. No condition but that rows fit in memory. -/
import Derived.Test.YtbkdkiodkcpbeaaQuI
namespace Go.Proofs.Ytbkdkiodkcpbeaa
open Go.RowKit
set_option linter.unusedVariables false

def cmpZ (a b : Int) : Int := if a < b then -1 else if b < a then 1 else 0
set_option maxRecDepth 100000 in
theorem cmpInt_k (a b : Int) (w : World) : Calls Try.prog 83 #[.int .i64 a, .int .i64 b] w fun e w' => e = .returned (.int .i64 (cmpZ a b)) ∧ Below w.heap.size w w' := by
  have hn : Hid (∀ (x : Int) W, Calls Try.prog 94 #[.int .i64 x] W fun e w' => e = .returned (.bool false) ∧ w' = W) := fun x W => by
    go_enter Try.func94, Try.ntmps94
    go_wp2
    go_ret
    exact ⟨rfl, rfl⟩
  rcases Int.lt_trichotomy a b with c1 | c1 | c1
  · have HZ : Hid (cmpZ a b = -1) := if_pos c1
    go_enter Try.func83, Try.ntmps83
    go_wp2_with (first | (go_at_call 94; refine (hn.out _ _).mono ?_; rintro e w' ⟨rfl, rfl⟩))
    go_ret
    exact ⟨by rw [HZ.out]; rfl, Below.refl _ _⟩
  · subst c1
    have k1 : ¬ a < a := by omega
    have HZ : Hid (cmpZ a a = 0) := by show _ = _; unfold cmpZ; rw [if_neg k1, if_neg k1]
    go_enter Try.func83, Try.ntmps83
    go_wp2_with (first | (go_at_call 94; refine (hn.out _ _).mono ?_; rintro e w' ⟨rfl, rfl⟩))
    go_ret
    exact ⟨by rw [HZ.out]; rfl, Below.refl _ _⟩
  · have k1 : ¬ a < b := by omega
    have HZ : Hid (cmpZ a b = 1) := by show _ = _; unfold cmpZ; rw [if_neg k1, if_pos c1]
    go_enter Try.func83, Try.ntmps83
    go_wp2_with (first | (go_at_call 94; refine (hn.out _ _).mono ?_; rintro e w' ⟨rfl, rfl⟩))
    go_ret
    exact ⟨by rw [HZ.out]; rfl, Below.refl _ _⟩

set_option maxRecDepth 100000 in
set_option maxHeartbeats 1000000 in
theorem byVersion_k (x y x' y' : Int) (t t' : ByteArray) (w : World) : Calls Try.prog 59 #[.agg #[.int .i64 x, .int .i64 y, .string t], .agg #[.int .i64 x', .int .i64 y', .string t']] w fun e w' => e = .returned (.int .i64 (cmpZ y y')) ∧ Below w.heap.size w w' := by
  have hc : Hid (∀ W, Calls Try.prog 83 #[.int .i64 y, .int .i64 y'] W fun e w' => e = .returned (.int .i64 (cmpZ y y')) ∧ Below W.heap.size W w') := fun W => cmpInt_k y y' W
  go_enter Try.func59, Try.ntmps59
  go_wp2_with fail
  refine (hc.out _).mono ?_
  rintro e w1 ⟨rfl, hb⟩
  have HB : Hid (Below w.heap.size w w1) := (below_a2q w _ _).trans (hb.mono (by simp; omega))
  go_wp2
  go_ret
  exact ⟨rfl, HB.out⟩

/-- A copy in a block of its own. -/
structure CpAt (w : World) (g : Nat) (c : DCopy) : Prop where
  c0 : w.cell? ⟨g, 0, none⟩ = some (.int .i64 c.1)
  c1 : w.cell? ⟨g, 1, none⟩ = some (.int .i64 c.2.1)
  c2 : w.cell? ⟨g, 2, none⟩ = some (.string c.2.2)
  f0 : w.frozen? ⟨g, 0, none⟩ = false
  f1 : w.frozen? ⟨g, 1, none⟩ = false
  f2 : w.frozen? ⟨g, 2, none⟩ = false
theorem CpAt.lt {w : World} {g : Nat} {c : DCopy} (h : CpAt w g c) : g < w.heap.size := World.block_lt_of_cell? _ _ h.c0
theorem CpAt.keep {w w' : World} {g : Nat} {c : DCopy} (h : CpAt w g c) (hb : w'.heap[g]? = w.heap[g]?) : CpAt w' g c :=
  ⟨(World.cell?_of_block hb).trans h.c0, (World.cell?_of_block hb).trans h.c1, (World.cell?_of_block hb).trans h.c2, (World.frozen?_of_block hb).trans h.f0, (World.frozen?_of_block hb).trans h.f1, (World.frozen?_of_block hb).trans h.f2⟩
theorem CpAt.below {w w' : World} {g : Nat} {c : DCopy} (h : CpAt w g c) (hb : Below w.heap.size w w') : CpAt w' g c := h.keep (hb.block g h.lt)
def putC (w : World) (g : Nat) (c : DCopy) : World := ((w.setCell ⟨g, 0, none⟩ (.int .i64 c.1)).setCell ⟨g, 1, none⟩ (.int .i64 c.2.1)).setCell ⟨g, 2, none⟩ (.string c.2.2)
theorem CpAt.put {w : World} {g : Nat} {c : DCopy} (h : CpAt w g c) (d : DCopy) : CpAt (putC w g d) g d := by
  unfold putC
  have e0 : (w.cell? ⟨g, 0, none⟩).isSome = true := by rw [h.c0]; rfl
  refine ⟨?_, ?_, ?_, ?_, ?_, ?_⟩
  · exact set_other (set_other (set_same h.c0) (by omega)) (by omega)
  · exact set_other (set_same (set_other h.c1 (by omega))) (by omega)
  · exact set_same (set_other (set_other h.c2 (by omega)) (by omega))
  · exact frozen_set (frozen_set (frozen_set h.f0))
  · exact frozen_set (frozen_set (frozen_set h.f1))
  · exact frozen_set (frozen_set (frozen_set h.f2))
theorem putC_size (w : World) (g : Nat) (c : DCopy) : (putC w g c).heap.size = w.heap.size := by simp [putC, World.setCell]
theorem putC_block (w : World) (g : Nat) (c : DCopy) {k : Nat} (h : k ≠ g) : (putC w g c).heap[k]? = w.heap[k]? := by
  unfold putC
  rw [heap_set_ne h, heap_set_ne h, heap_set_ne h]
theorem putC_kept (w : World) (g : Nat) (c : DCopy) : KeptO (fun k => k = g) w (putC w g c) :=
  ⟨rfl, rfl, rfl, by rw [putC_size]; exact Nat.le_refl _, fun k _ hn => putC_block w g c hn⟩
theorem below_put {B : Nat} {a w : World} (h : Below B a w) {g : Nat} (hg : B ≤ g) (c : DCopy) : Below B a (putC w g c) :=
  ⟨h.os, h.tape, h.output, by rw [putC_size]; exact h.size, fun k hk => (putC_block w g c (by omega)).trans (h.block k hk)⟩
theorem alloc_cp (w : World) (c : DCopy) (ty : TypeId) : CpAt (w.alloc (.cells #[.int .i64 c.1, .int .i64 c.2.1, .string c.2.2] ty)) w.heap.size c := by
  refine ⟨?_, ?_, ?_, ?_, ?_, ?_⟩ <;> simp [go_sem]

set_option maxRecDepth 100000 in
set_option maxHeartbeats 2000000 in
theorem maxFunc_k (l : List DCopy) (a : Option Addr) (n c : Nat) (S : Nat → Prop) (w : World) (h : (kRow kCopy).is false w S [.slice a n c] l) (h1 : 0 < n) (h2 : n ≤ 7) :
    Calls Try.prog 58 #[.slice a n c, .func (.func 59) #[] #[]] w fun e w' => e = .returned (.agg #[.int .i64 (mxc l n).1, .int .i64 (mxc l n).2.1, .string (mxc l n).2.2]) ∧ Below w.heap.size w w' := by
  have H : Hid ((kRow kCopy).is false w S [.slice a n c] l) := h
  obtain ⟨b, o, rfl, hb, g1, g2, g3, A0, A1, A2⟩ := rowC_at h h1
  simp only [Nat.zero_mul, Nat.add_zero] at A0 A1 A2
  have HM : Hid (mxc l 1 = cp l 0) := mxc_one l
  generalize cp l 0 = c0 at *
  obtain ⟨x0, y0, t0⟩ := c0
  have hn0 : 0 < (n : Int) := by omega
  obtain ⟨g, hg⟩ : ∃ g, g = w.heap.size := ⟨_, rfl⟩
  go_enter Try.func58, Try.ntmps58
  go_wp2
  go_loopw [6] (fun iv wr => ∃ i : Nat, 1 ≤ i ∧ i ≤ n ∧ iv = .int .i64 i ∧ Hid (Below w.heap.size w wr ∧ CpAt wr (w.heap.size + 1) (mxc l i) ∧ CpAt wr w.heap.size (0, 0, ⟨#[]⟩))) (fun iv _ => n - (intOf iv).toNat)
  case atStart =>
    refine ⟨1, by omega, h1, rfl, ?_, ?_, ?_⟩
    · exact below_a2q _ _ _
    · rw [HM.out]
      have := alloc_cp (w.alloc (.cells #[.int .i64 0, .int .i64 0, .string ⟨#[]⟩] 40)) (x0, y0, t0) 40
      simpa using this
    · exact (alloc_cp w (0, 0, ⟨#[]⟩) 40).below (below_a1q _ _)
  case round =>
    obtain ⟨i, hi1, hi2, rfl, HH⟩ := hrel
    obtain ⟨hB, hC, hD⟩ := HH.out
    have zw := hB.size
    have gg := hC.lt
    have HC : Hid (CpAt wr (w.heap.size + 1) (mxc l i)) := hC
    by_cases hlt : i < n
    · obtain ⟨b', o', e', _, j1, j2, j3, B0, B1, B2⟩ := rowC_at (Kd.below H.out hB) hlt
      injection e' with e'; injection e' with eb eo; subst eb eo
      have HM1 : Hid (mxc l (i + 1) = if (mxc l i).2.1 < (cp l i).2.1 then cp l i else mxc l i) := rfl
      obtain ⟨C0, C1, C2, F0, F1, F2⟩ := hC
      obtain ⟨m, hm⟩ : ∃ m, m = mxc l i := ⟨_, rfl⟩
      obtain ⟨d, hd⟩ : ∃ d, d = cp l i := ⟨_, rfl⟩
      rw [← hd] at HM1 B0 B1 B2 j1 j2 j3
      rw [← hm] at HM1 HC C0 C1 C2
      clear hm hd
      obtain ⟨m1, m2, m3⟩ := m
      obtain ⟨d1, d2, d3⟩ := d
      simp only at B0 B1 B2 C0 C1 C2
      have hcl : Hid (∀ W, Calls Try.prog 59 #[.agg #[.int .i64 d1, .int .i64 d2, .string d3], .agg #[.int .i64 m1, .int .i64 m2, .string m3]] W fun e w' => e = .returned (.int .i64 (cmpZ d2 m2)) ∧ Below W.heap.size W w') := fun W => byVersion_k d1 d2 m1 m2 d3 m3 W
      have i0 : (i : Int) < (n : Int) := by omega
      have i1 : (0 : Int) ≤ (i : Int) := by omega
      have U1 := fun q => BelowOf.cell B0 q
      have U2 := fun q => BelowOf.cell B1 q
      have U3 := fun q => BelowOf.cell B2 q
      have U4 := fun q => BelowOf.cell C0 q
      have U5 := fun q => BelowOf.cell C1 q
      have U6 := fun q => BelowOf.cell C2 q
      have hne := belowOf_ne wr
      obtain ⟨z, hz⟩ : ∃ z, z = cmpZ d2 m2 := ⟨_, rfl⟩
      rw [← hz] at hcl
      have hzp : 0 < z ↔ m2 < d2 := by rw [hz]; unfold cmpZ; split <;> (try split) <;> omega
      clear hz
      go_upto_region 7 with fail
      refine region_below (by kernel_rfl) (by kernel_rfl) ?_
      repeat (go_big_quiet_step (first | (go_at_call 59; exact BelowOf.calls (hcl.out _))))
      refine wpQuiet_nil (belowOf_all ?_)
      intro w4 hb4
      have D0 : w4.cell? ⟨b, o + i * 3, none⟩ = some (.int .i64 d1) := U1 ⟨w4, hb4⟩
      have D1 : w4.cell? ⟨b, o + i * 3 + 1, none⟩ = some (.int .i64 d2) := U2 ⟨w4, hb4⟩
      have D2 : w4.cell? ⟨b, o + i * 3 + 2, none⟩ = some (.string d3) := U3 ⟨w4, hb4⟩
      have HC4 : Hid (CpAt w4 (w.heap.size + 1) (m1, m2, m3)) := HC.out.below hb4
      have HD4 : Hid (CpAt w4 w.heap.size (0, 0, ⟨#[]⟩)) := hD.below hb4
      have HB4 : Hid (Below w.heap.size w w4) := hB.trans (hb4.mono zw)
      obtain ⟨G0, G1, G2, J0, J1, J2⟩ := HC4.out
      simp only at G0 G1 G2
      clear U1 U2 U3 U4 U5 U6 hne B0 B1 B2 C0 C1 C2 F0 F1 F2
      by_cases c1 : m2 < d2
      · have c2 : 0 < z := hzp.2 c1
        have HM2 : Hid (mxc l (i + 1) = (d1, d2, d3)) := by show _ = _; rw [HM1.out]; exact if_pos c1
        clear hzp
        go_wp2
        go_roundw
        case rel => exact ⟨i + 1, by omega, by omega, by go_num, below_put HB4.out (by omega) (d1, d2, d3), by rw [HM2.out]; exact HC4.out.put (d1, d2, d3), HD4.out.keep (putC_block w4 _ (d1, d2, d3) (by omega))⟩
        case measure => simp [intOf]; omega
      · have c2 : ¬ 0 < z := fun h => c1 (hzp.1 h)
        have HM2 : Hid (mxc l (i + 1) = (m1, m2, m3)) := by show _ = _; rw [HM1.out]; exact if_neg c1
        clear hzp
        go_wp2
        go_roundw
        case rel => exact ⟨i + 1, by omega, by omega, by go_num, HB4.out, by rw [HM2.out]; exact HC4.out, HD4.out⟩
        case measure => simp [intOf]; omega
    · obtain rfl : i = n := by omega
      have i0 : ¬ (i : Int) < (i : Int) := by omega
      obtain ⟨m, hm⟩ : ∃ m, m = mxc l i := ⟨_, rfl⟩
      rw [← hm] at HC hC
      have HN : Hid (mxc l i = m) := hm.symm
      clear hm HH
      obtain ⟨m1, m2, m3⟩ := m
      obtain ⟨C0, C1, C2, F0, F1, F2⟩ := hC
      obtain ⟨G0, G1, G2, J0, J1, J2⟩ := hD
      simp only at C0 C1 C2 G0 G1 G2
      have HD : Hid (CpAt wr w.heap.size (0, 0, ⟨#[]⟩)) := ⟨G0, G1, G2, J0, J1, J2⟩
      go_wp2
      have q := HD.out.put (m1, m2, m3)
      obtain ⟨Q0, Q1, Q2, _, _, _⟩ := q
      unfold putC at Q0 Q1 Q2
      simp only at Q0 Q1 Q2
      refine bodyPost_ret (v := .agg #[.int .i64 m1, .int .i64 m2, .string m3]) (by simp [results, Try.results58, go_sem, Q0, Q1, Q2]) rfl ?_
      rw [HN.out]
      exact ⟨rfl, below_put hB (Nat.le_refl _) (m1, m2, m3)⟩
end Go.Proofs.Ytbkdkiodkcpbeaa
