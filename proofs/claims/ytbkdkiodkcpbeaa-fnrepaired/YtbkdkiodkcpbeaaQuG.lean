/- GoodVoting: the program's. No condition but that rows fit in memory. -/
import Derived.Test.YtbkdkiodkcpbeaaQuS
import Derived.Test.YtbkdkiodkcpbeaaQuW
namespace Go.Proofs.Ytbkdkiodkcpbeaa
open Go.RowKit
set_option linter.unusedVariables false

set_option maxRecDepth 100000 in
set_option maxHeartbeats 1000000 in
theorem indexFC_k (l : List DCopy) (a : Option Addr) (n c : Nat) (S : Nat → Prop) (x y : Int) (t : ByteArray) (w : World) (h : (kRow kCopy).is false w S [.slice a n c] l) :
    Calls Try.prog 93 #[.slice a n c, .func (.func 80) #[.agg #[.int .i64 x, .int .i64 y, .string t]] #[]] w fun e w' => ∃ z : Int, e = .returned (.int .i64 z) ∧ (0 ≤ z ↔ l.any (cpUn (x, y, t)) = true) ∧ Below w.heap.size w w' := by
  have HNL : Hid (n = l.length) := row_len h
  have hmx := row_max h
  have H : Hid ((kRow kCopy).is false w S [.slice a n c] l) := h
  clear h
  go_enter Try.func93, Try.ntmps93
  go_wp2_with fail
  go_loopw [8] (fun iv wr => ∃ (k : Nat), k ≤ n ∧ iv = .int .i64 k ∧ Hid ((l.take k).any (cpUn (x, y, t)) = false) ∧ Below w.heap.size w wr) (fun iv _ => n - (intOf iv).toNat)
  case atStart => exact ⟨0, Nat.zero_le _, rfl, rfl, Below.refl _ _⟩
  case round =>
    obtain ⟨k, hk, rfl, HI, hnx⟩ := hrel
    have zw := hnx.size
    by_cases hlt : k < n
    · obtain ⟨b, o, rfl, hb, j1, j2, j3, A0, A1, A2⟩ := rowC_at (Kd.below H.out hnx) hlt
      have HY : Hid (l[k]? = some (cp l k)) := cp_at (by rw [← HNL.out]; exact hlt)
      have i0 : (0 : Int) ≤ (k : Int) := by omega
      have i1 : (k : Int) < (n : Int) := by omega
      obtain ⟨d, hd⟩ : ∃ d, d = cp l k := ⟨_, rfl⟩
      rw [← hd] at A0 A1 A2 HY j1 j2 j3
      clear hd
      obtain ⟨d1, d2, d3⟩ := d
      simp only at A0 A1 A2 j1 j2 j3
      have hcl := contradicts_k x y d1 d2 t d3 wr
      go_wp2_with fail
      refine hcl.mono ?_
      rintro e w1 ⟨rfl, hb1⟩
      have HB1 : Hid (Below w.heap.size w w1) := hnx.trans (hb1.mono zw)
      cases hp : cpUn (x, y, t) (d1, d2, d3) with
      | true =>
        have HF : Hid (l.any (cpUn (x, y, t)) = true) := List.any_eq_true.2 ⟨_, List.mem_of_getElem? HY.out, hp⟩
        go_wp2
        go_ret
        exact ⟨k, rfl, ⟨fun _ => HF.out, fun _ => i0⟩, HB1.out⟩
      | false =>
        have HI2 : Hid ((l.take (k + 1)).any (cpUn (x, y, t)) = false) := by
          show _ = _
          rw [List.take_add_one, HY.out, List.any_append, HI.out]
          simp [hp]
        go_wp2
        go_roundw
        case rel => exact ⟨k + 1, by omega, by go_num, HI2, HB1.out⟩
        case measure => simp [intOf]; omega
    · have HF : Hid (l.any (cpUn (x, y, t)) = false) := by
        have := HI.out
        rw [show k = l.length by rw [← HNL.out]; omega, List.take_length] at this
        exact this
      go_wp2
      go_ret
      exact ⟨-1, rfl, ⟨fun h => by omega, fun h => by rw [HF.out] at h; cases h⟩, hnx⟩
set_option maxRecDepth 100000 in
set_option maxHeartbeats 1000000 in
theorem containsFC_k (l : List DCopy) (a : Option Addr) (n c : Nat) (S : Nat → Prop) (x y : Int) (t : ByteArray) (w : World) (h : (kRow kCopy).is false w S [.slice a n c] l) :
    Calls Try.prog 79 #[.slice a n c, .func (.func 80) #[.agg #[.int .i64 x, .int .i64 y, .string t]] #[]] w fun e w' => e = .returned (.bool (l.any (cpUn (x, y, t)))) ∧ Below w.heap.size w w' := by
  have hcl := indexFC_k l a n c S x y t w h
  clear h
  go_enter Try.func79, Try.ntmps79
  go_wp2_with fail
  refine hcl.mono ?_
  rintro e w1 ⟨z, rfl, hz, hb⟩
  have HZ : Hid (l.any (cpUn (x, y, t)) = decide (0 ≤ z)) := by show _ = _; rw [Bool.eq_iff_iff, decide_eq_true_eq]; exact hz.symm
  have HB : Hid (Below w.heap.size w w1) := hb
  clear hz hb hcl
  by_cases c1 : 0 ≤ z
  · go_wp2
    go_ret
    rw [HZ.out, decide_eq_true c1]
    exact ⟨rfl, HB.out⟩
  · go_wp2
    go_ret
    rw [HZ.out, decide_eq_false (show ¬ 0 ≤ z by omega)]
    exact ⟨rfl, HB.out⟩

def arC (l : List DCopy) (n : Nat) : Bool := decide (1 ≤ n ∧ n ≤ 7) && okTil l n
theorem not_any {α : Type} (p : α → Bool) (l : List α) : (l.all fun o => !p o) = !l.any p := by
  induction l with
  | nil => rfl
  | cons x t ih => simp only [List.all_cons, List.any_cons, ih, Bool.not_or]
set_option maxRecDepth 100000 in
set_option maxHeartbeats 2000000 in
theorem areCopies_k (l : List DCopy) (a : Option Addr) (n c : Nat) (S : Nat → Prop) (w : World) (h : (kRow kCopy).is false w S [.slice a n c] l) (hcap : n ≤ c) :
    Calls Try.prog 52 #[.slice a n c] w fun e w' => e = .returned (.bool (arC l n)) ∧ Below w.heap.size w w' := by
  have HNL : Hid (n = l.length) := row_len h
  have H : Hid ((kRow kCopy).is false w S [.slice a n c] l) := h
  clear h
  by_cases c1 : 1 ≤ n
  · by_cases c2 : n ≤ 7
    · have HF : Hid (arC l n = okTil l n) := by show _ = _; unfold arC; rw [decide_eq_true ⟨c1, c2⟩, Bool.true_and]
      have k1 : ¬ (n : Int) < 1 := by omega
      have k2 : ¬ (7 : Int) < (n : Int) := by omega
      go_enter Try.func52, Try.ntmps52
      go_wp2_with fail
      go_loopw [15] (fun iv wr => ∃ (k : Nat), k ≤ n ∧ iv = .int .i64 k ∧ Hid (okTil l k = true) ∧ Below w.heap.size w wr) (fun iv _ => n - (intOf iv).toNat)
      case atStart => exact ⟨0, Nat.zero_le _, rfl, rfl, Below.refl _ _⟩
      case round =>
        obtain ⟨k, hk, rfl, HI, hnx⟩ := hrel
        have zw := hnx.size
        by_cases hlt : k < n
        · have HT : Hid ((kRow kCopy).is false wr S [.slice a k c] (l.take k)) := row_take (Kd.below H.out hnx) hk
          obtain ⟨b, o, rfl, hb, j1, j2, j3, A0, A1, A2⟩ := rowC_at (Kd.below H.out hnx) hlt
          have HO : Hid (okTil l (k + 1) = (decide (CpOk (cp l k)) && (l.take k).all fun o => !cpUn (cp l k) o)) := by show (okTil l k && cpAt l k) = _; rw [HI.out]; rfl
          have HNO : Hid (okTil l (k + 1) = false → okTil l n = false) := fun h => by
            cases e : okTil l n with
            | false => rfl
            | true => rw [okTil_le e (show k + 1 ≤ n by omega)] at h; cases h
          obtain ⟨d, hd⟩ : ∃ d, d = cp l k := ⟨_, rfl⟩
          rw [← hd] at A0 A1 A2 HO j1 j2 j3
          clear hd
          obtain ⟨d1, d2, d3⟩ := d
          simp only at A0 A1 A2 j1 j2 j3
          have i0 : (0 : Int) ≤ (k : Int) := by omega
          have i1 : (k : Int) < (n : Int) := by omega
          have i2 : (k : Int) ≤ (c : Int) := by omega
          have HG : Hid (∀ W, Calls Try.prog 78 #[.agg #[.int .i64 d1, .int .i64 d2, .string d3]] W fun e w' => e = .returned (.bool (decide (CpOk (d1, d2, d3)))) ∧ Below W.heap.size W w') := fun W => isGoodC_k d1 d2 d3 W
          go_upto_region 6 with fail
          obtain ⟨W1, hW1⟩ : ∃ W, W = wr.alloc (.cells #[.int .i64 d1, .int .i64 d2, .string d3] 40) := ⟨_, rfl⟩
          have hC := alloc_cp wr (d1, d2, d3) 40
          have HB1 : Hid (Below wr.heap.size wr W1) := by show Below _ _ _; rw [hW1]; exact below_a1q _ _
          simp only at hC
          rw [← hW1] at hC ⊢
          clear hW1
          have HT1 : Hid ((kRow kCopy).is false W1 S [.slice (some ⟨b, o, none⟩) k c] (l.take k)) := Kd.below HT.out HB1.out
          obtain ⟨C0, C1, C2, _, _, _⟩ := hC
          simp only at C0 C1 C2
          have HCF : Hid (∀ p : BelowOf W1, Calls Try.prog 79 #[.slice (some ⟨b, o, none⟩) k c, .func (.func 80) #[.agg #[.int .i64 d1, .int .i64 d2, .string d3]] #[]] p.v fun e w' => e = .returned (.bool ((l.take k).any (cpUn (d1, d2, d3)))) ∧ Below p.v.heap.size p.v w') := fun p => containsFC_k (l.take k) _ k c S d1 d2 d3 p.v (Kd.below HT1.out p.h)
          have HO2 : Hid (okTil l (k + 1) = (decide (CpOk (d1, d2, d3)) && !(l.take k).any (cpUn (d1, d2, d3)))) := by show _ = _; rw [HO.out, not_any]
          have hz1 := HB1.out.size
          have HB2 : Hid (Below w.heap.size w W1) := hnx.trans (HB1.out.mono zw)
          generalize decide (CpOk (d1, d2, d3)) = q at *
          generalize (l.take k).any (cpUn (d1, d2, d3)) = r at *
          have U1 := fun p => BelowOf.cell C0 p
          have U2 := fun p => BelowOf.cell C1 p
          have U3 := fun p => BelowOf.cell C2 p
          have hne := belowOf_ne W1
          clear HO HT HT1 A0 A1 A2 C0 C1 C2 HB1
          cases q with
          | false =>
            refine region_below (by kernel_rfl) (by kernel_rfl) ?_
            repeat (go_big_quiet_step (first | (go_at_call 78; exact BelowOf.calls (HG.out _)) | (go_at_call 79; exact BelowOf.calls (HCF.out _))))
            refine wpQuiet_nil (belowOf_all ?_)
            intro w4 hb4
            have HN : Hid (okTil l n = false) := HNO.out (by rw [HO2.out]; rfl)
            have HB4 : Hid (Below w.heap.size w w4) := HB2.out.trans (hb4.mono HB2.out.size)
            go_wp2
            go_ret
            rw [HF.out, HN.out]
            exact ⟨rfl, HB4.out⟩
          | true =>
            cases r with
            | true =>
              refine region_below (by kernel_rfl) (by kernel_rfl) ?_
              repeat (go_big_quiet_step (first | (go_at_call 78; exact BelowOf.calls (HG.out _)) | (go_at_call 79; exact BelowOf.calls (HCF.out _))))
              refine wpQuiet_nil (belowOf_all ?_)
              intro w4 hb4
              have HN : Hid (okTil l n = false) := HNO.out (by rw [HO2.out]; rfl)
              have HB4 : Hid (Below w.heap.size w w4) := HB2.out.trans (hb4.mono HB2.out.size)
              go_wp2
              go_ret
              rw [HF.out, HN.out]
              exact ⟨rfl, HB4.out⟩
            | false =>
              refine region_below (by kernel_rfl) (by kernel_rfl) ?_
              repeat (go_big_quiet_step (first | (go_at_call 78; exact BelowOf.calls (HG.out _)) | (go_at_call 79; exact BelowOf.calls (HCF.out _))))
              refine wpQuiet_nil (belowOf_all ?_)
              intro w4 hb4
              have HN : Hid (okTil l (k + 1) = true) := by show _ = _; rw [HO2.out]; rfl
              have HB4 : Hid (Below w.heap.size w w4) := HB2.out.trans (hb4.mono HB2.out.size)
              go_wp2
              go_roundw
              case rel => exact ⟨k + 1, by omega, by go_num, HN, HB4.out⟩
              case measure => simp [intOf]; omega
        · obtain rfl : k = n := by omega
          have i1 : ¬ (k : Int) < (k : Int) := by omega
          go_wp2
          go_ret
          rw [HF.out, HI.out]
          exact ⟨rfl, hnx⟩
    · have HF : Hid (arC l n = false) := by show _ = _; unfold arC; rw [decide_eq_false (fun h => c2 h.2), Bool.false_and]
      have k1 : ¬ (n : Int) < 1 := by omega
      have k2 : (7 : Int) < (n : Int) := by omega
      go_enter Try.func52, Try.ntmps52
      go_wp2
      go_ret
      rw [HF.out]
      exact ⟨rfl, Below.refl _ _⟩
  · have HF : Hid (arC l n = false) := by show _ = _; unfold arC; rw [decide_eq_false (fun h => c1 h.1), Bool.false_and]
    have k1 : (n : Int) < 1 := by omega
    go_enter Try.func52, Try.ntmps52
    go_wp2
    go_ret
    rw [HF.out]
    exact ⟨rfl, Below.refl _ _⟩
end Go.Proofs.Ytbkdkiodkcpbeaa
