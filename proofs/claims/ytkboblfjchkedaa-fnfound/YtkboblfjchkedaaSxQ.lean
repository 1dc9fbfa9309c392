/- A pair looked for by halving among those that rise: slices.BinarySearchFunc. No condition but that they rise. -/
import Derived.Test.YtkboblfjchkedaaSxP
namespace Go.Proofs.Ytkboblfjchkedaa
open Go.RowKit Go.Sort
set_option linter.unusedVariables false

theorem grow_belowP (w : World) (q : Nat) (os : Array Obj) : Below w.heap.size w (grow (w.drewN q) os) :=
  ⟨rfl, rfl, rfl, by rw [size_grow]; exact Nat.le_add_right _ _, fun k hk => by
    show (w.heap ++ os)[k]? = _
    rw [Array.getElem?_append_left hk]⟩
theorem comparePairs_k (a1 a2 b1 b2 : Int) (w : World) :
    Calls Try.prog 60 #[.agg #[.int .i64 a1, .int .i64 a2], .agg #[.int .i64 b1, .int .i64 b2]] w fun e w' => e = .returned (.int .i64 (cmpP (a1, a2) (b1, b2))) ∧ Below w.heap.size w w' :=
  (comparePairs_g (a1, a2) (b1, b2) w).mono fun _ _ ⟨he, q, os, hw⟩ => ⟨he, hw ▸ grow_belowP w q os⟩
theorem pr_cells {w : World} {S : Nat → Prop} {o : Bool} {a : Option Addr} {n c : Nat} {l : List (Int × Int)} (h : (kRow kPr).is o w S [.slice a n c] l) {i : Nat} {x1 x2 : Int} (hx : l[i]? = some (x1, x2)) : ∃ b off, a = some ⟨b, off, none⟩ ∧ b < w.heap.size ∧ S b ∧ w.cell? ⟨b, off + i * 2, none⟩ = some (.int .i64 x1) ∧ w.cell? ⟨b, off + i * 2 + 1, none⟩ = some (.int .i64 x2) := by
  obtain ⟨b, off, B, C, rfl, hb, hS, _⟩ := row_at h hx
  exact ⟨b, off, rfl, hb, hS, kPr_plain.cell h hx (j := 0) rfl, kPr_plain.cell h hx (j := 1) rfl⟩

set_option maxRecDepth 100000 in
set_option maxHeartbeats 4000000 in
theorem searchPr_k (u : List (Int × Int)) (x1 x2 : Int) (a : Option Addr) (n c : Nat) (S : Nat → Prop) (w : World) (h : (kRow kPr).is false w S [.slice a n c] u) (hr : Ris ltP u) (hn30 : n ≤ 2 ^ 30) :
    Calls Try.prog 80 #[.slice a n c, .agg #[.int .i64 x1, .int .i64 x2], .func (.func 60) #[] #[]] w fun e w' => ∃ (k : Nat) (b : Bool), e = .returned (.tuple #[.int .i64 k, .bool b]) ∧ ((x1, x2) ∈ u → u[k]? = some (x1, x2)) ∧ Below w.heap.size w w' := by
  have HN : Hid (n = u.length) := row_len h
  have HR : Hid (Ris ltP u) := hr
  obtain ⟨W0, hW0⟩ : ∃ W0, W0 = w.alloc (.cells #[.int .i64 x1, .int .i64 x2] 80) := ⟨_, rfl⟩
  have B0 : Below w.heap.size w W0 := by rw [hW0]; exact below_a1r _ _
  have HRW : Hid ((kRow kPr).is false W0 S [.slice a n c] u) := Kd.below h B0
  have X0 : W0.cell? ⟨w.heap.size, 0, none⟩ = some (.int .i64 x1) ∧ W0.cell? ⟨w.heap.size, 1, none⟩ = some (.int .i64 x2) := by rw [hW0]; simp [go_sem]
  have HX0 : Hid (W0.cell? ⟨w.heap.size, 0, none⟩ = some (.int .i64 x1)) := X0.1
  have HX1 : Hid (W0.cell? ⟨w.heap.size, 1, none⟩ = some (.int .i64 x2)) := X0.2
  have zw0 : w.heap.size < W0.heap.size := by rw [hW0]; simp
  clear h hr X0
  go_enter Try.func80, Try.ntmps80
  go_wp2_with fail
  rw [← hW0]
  clear hW0
  go_loopw [9, 10] (fun lv hv wr => ∃ lo hi : Nat, lv = .int .i64 lo ∧ hv = .int .i64 hi ∧ lo ≤ hi ∧ hi ≤ n ∧ Hid (Nr ltP (x1, x2) u lo hi) ∧ Below W0.heap.size W0 wr) (fun lv hv _ => (intOf hv).toNat - (intOf lv).toNat)
  case atStart => exact ⟨0, n, rfl, rfl, Nat.zero_le _, Nat.le_refl _, by show Nr _ _ _ _ _; rw [HN.out]; exact Nr.start _ _ _, Below.refl _ _⟩
  case round =>
    obtain ⟨lo, hi, rfl, rfl, hlh, hin, HI, hnx⟩ := hrel
    have zw := hnx.size
    have T0 : wr.cell? ⟨w.heap.size, 0, none⟩ = some (.int .i64 x1) := (hnx.cell zw0).trans HX0.out
    have T1 : wr.cell? ⟨w.heap.size, 1, none⟩ = some (.int .i64 x2) := (hnx.cell zw0).trans HX1.out
    have U0 := fun q => BelowOf.cell T0 q
    have U1 := fun q => BelowOf.cell T1 q
    have hne := belowOf_ne wr
    by_cases hlt : lo < hi
    · obtain ⟨m, hm⟩ : ∃ m, m = (lo + hi) / 2 := ⟨_, rfl⟩
      have em : ((lo : Int) + (hi : Int)) / 2 = (m : Int) := by omega
      have hmn : m < n := by omega
      have hm1 : lo ≤ m := by omega
      have hm2 : m < hi := by omega
      obtain ⟨⟨y1, y2⟩, hy⟩ : ∃ y, u[m]? = some y := ⟨_, List.getElem?_eq_getElem (by rw [← HN.out]; exact hmn)⟩
      obtain ⟨b, off, rfl, hb, _, A1, A2⟩ := pr_cells (Kd.below HRW.out hnx) hy
      have U2 := fun q => BelowOf.cell A1 q
      have U3 := fun q => BelowOf.cell A2 q
      have hcl : Hid (∀ W, Calls Try.prog 60 #[.agg #[.int .i64 y1, .int .i64 y2], .agg #[.int .i64 x1, .int .i64 x2]] W fun e w' => e = .returned (.int .i64 (cmpP (y1, y2) (x1, x2))) ∧ Below W.heap.size W w') := fun W => comparePairs_k y1 y2 x1 x2 W
      have i0 : (0 : Int) ≤ (m : Int) := by omega
      have i1 : (m : Int) < (n : Int) := by omega
      have HX : Hid (u[m]? = some (y1, y2)) := hy
      have hcz := cmpP_neg (y1, y2) (x1, x2)
      clear hy hm
      cases hw : ltP (y1, y2) (x1, x2) with
      | true =>
        have c1 : cmpP (y1, y2) (x1, x2) < 0 := hcz.2 hw
        have HI2 : Hid (Nr ltP (x1, x2) u (m + 1) hi) := HI.out.up ltP_sto HR.out HX.out hw
        clear hw hcz HI
        generalize cmpP (y1, y2) (x1, x2) = z at *
        have c2 : decide (z < 0) = true := decide_eq_true c1
        go_wp2_with fail
        refine region_below (by kernel_rfl) (by kernel_rfl) ?_
        repeat (go_big_quiet_step (first | (go_at_call 60; exact BelowOf.calls (hcl.out _))))
        refine wpQuiet_nil (belowOf_all ?_)
        intro w2 hb2
        go_wp2
        go_roundw
        case rel => exact ⟨m + 1, hi, by rfl, rfl, by omega, hin, HI2, hnx.trans (hb2.mono zw)⟩
        case measure => simp only [intOf]; omega
      | false =>
        have c1 : ¬ cmpP (y1, y2) (x1, x2) < 0 := fun h => by rw [hcz.1 h] at hw; cases hw
        have HI2 : Hid (Nr ltP (x1, x2) u lo m) := HI.out.down ltP_sto HR.out HX.out hw
        clear hw hcz HI
        generalize cmpP (y1, y2) (x1, x2) = z at *
        have c2 : decide (z < 0) = false := decide_eq_false c1
        go_wp2_with fail
        refine region_below (by kernel_rfl) (by kernel_rfl) ?_
        repeat (go_big_quiet_step (first | (go_at_call 60; exact BelowOf.calls (hcl.out _))))
        refine wpQuiet_nil (belowOf_all ?_)
        intro w2 hb2
        go_wp2
        go_roundw
        case rel => exact ⟨lo, m, rfl, rfl, by omega, by omega, HI2, hnx.trans (hb2.mono zw)⟩
        case measure => simp only [intOf]; omega
    · obtain rfl : hi = lo := by omega
      have HF : Hid ((x1, x2) ∈ u → u[hi]? = some (x1, x2)) := fun hx => HI.out.found ltP_sto HR.out hx
      have HB : Hid (Below w.heap.size w wr) := B0.trans (hnx.mono B0.size)
      by_cases hl' : hi < n
      · obtain ⟨⟨y1, y2⟩, hy⟩ : ∃ y, u[hi]? = some y := ⟨_, List.getElem?_eq_getElem (by rw [← HN.out]; exact hl')⟩
        obtain ⟨b, off, rfl, hb, _, A1, A2⟩ := pr_cells (Kd.below HRW.out hnx) hy
        have U2 := fun q => BelowOf.cell A1 q
        have U3 := fun q => BelowOf.cell A2 q
        have hcl : Hid (∀ W, Calls Try.prog 60 #[.agg #[.int .i64 y1, .int .i64 y2], .agg #[.int .i64 x1, .int .i64 x2]] W fun e w' => e = .returned (.int .i64 (cmpP (y1, y2) (x1, x2))) ∧ Below W.heap.size W w') := fun W => comparePairs_k y1 y2 x1 x2 W
        have i0 : (0 : Int) ≤ (hi : Int) := by omega
        have i1 : (hi : Int) < (n : Int) := by omega
        have i2 : decide ((hi : Int) < (n : Int)) = true := decide_eq_true i1
        have i3 : decide (hi < n) = true := decide_eq_true hl'
        clear hy
        generalize cmpP (y1, y2) (x1, x2) = z at *
        go_wp2_with fail
        refine region_below (by kernel_rfl) (by kernel_rfl) ?_
        repeat (go_big_quiet_step (first | (go_at_call 60; exact BelowOf.calls (hcl.out _))))
        refine wpQuiet_nil (belowOf_all ?_)
        intro w2 hb2
        go_wp2
        refine bodyPost_ret (v := .tuple #[.int .i64 (hi : Int), .bool (z == 0)]) (by simp [results, Try.results80, go_sem]) rfl ?_
        exact ⟨hi, _, rfl, HF.out, HB.out.trans (hb2.mono HB.out.size)⟩
      · have i1 : ¬ (hi : Int) < (n : Int) := by omega
        have i2 : decide ((hi : Int) < (n : Int)) = false := decide_eq_false i1
        have i3 : decide (hi < n) = false := decide_eq_false hl'
        go_wp2_with fail
        refine region_below (by kernel_rfl) (by kernel_rfl) ?_
        repeat (go_big_quiet_step (first | fail))
        refine wpQuiet_nil (belowOf_all ?_)
        intro w2 hb2
        go_wp2
        refine bodyPost_ret (v := .tuple #[.int .i64 (hi : Int), .bool false]) (by simp [results, Try.results80, go_sem]) rfl ?_
        exact ⟨hi, false, rfl, HF.out, HB.out.trans (hb2.mono HB.out.size)⟩
end Go.Proofs.Ytkboblfjchkedaa
