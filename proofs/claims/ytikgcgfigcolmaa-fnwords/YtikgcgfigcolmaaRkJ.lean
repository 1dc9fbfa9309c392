/- Rankings that are good: the program's lists, and all of them. No condition but that they fit in memory. -/
import Derived.Test.YtikgcgfigcolmaaRkI
namespace Go.Proofs.Ytikgcgfigcolmaa
open Go.RowKit
set_option linter.unusedVariables false

theorem rkCmp_pos {x y : DScored} (h : x.1 ≠ y.1) : (0 < rkCmp x y) ↔ ahd x y = false := by
  have h1 := rkCmp_neg x y
  have h2 := rkCmp_zero x y
  constructor
  · intro h0
    cases e : ahd x y with
    | false => rfl
    | true => have := h1.2 e; omega
  · intro h0
    rcases Int.lt_trichotomy (rkCmp x y) 0 with c | c | c
    · rw [h1.1 c] at h0; cases h0
    · exact absurd (congrArg Prod.fst (h2.1 c)) h
    · exact c

set_option maxRecDepth 100000 in
set_option maxHeartbeats 4000000 in
theorem rkIsGood_k (l : List DScored) (a : Option Addr) (n c : Nat) (S : Nat → Prop) (w : World) (h : (kRow kScored).is true w S [.slice a n c] l) :
    Calls Try.prog 70 #[.agg #[.slice a n c]] w fun e w' => e = .returned (.bool (rkGood l)) ∧ Below w.heap.size w w' := by
  have hnl := row_len h
  have hmx : n ≤ 9223372036854775807 := by obtain ⟨_, _, _, h, _⟩ := row_form h; rw [hnl]; exact h
  have hnc : n ≤ c := by obtain ⟨_, _, e, _, h⟩ := row_form h; simp only [List.cons.injEq, Value.slice.injEq, and_true] at e; have := h rfl; omega
  have HNL : Hid (n = l.length) := hnl
  have H : Hid ((kRow kScored).is false w S [.slice a n c] l) := Kd.read _ h
  obtain ⟨q, hq⟩ : ∃ q, q = rkGood l := ⟨_, rfl⟩
  have HQ : Hid (q = (rkOk [] l && decide (l.length ≤ 60))) := hq
  rw [← hq]
  clear h hnl hq
  by_cases c60 : (60 : Int) < (n : Int)
  · have HF : Hid (q = false) := by show _ = _; rw [HQ.out, decide_eq_false (by rw [← HNL.out]; omega), Bool.and_false]
    go_enter Try.func70, Try.ntmps70
    go_wp2
    go_ret
    exact ⟨by rw [HF.out]; rfl, below_a1r _ _⟩
  have HQ1 : Hid (rkOk (l.take 0) (l.drop 0) = q) := by show _ = _; rw [HQ.out, decide_eq_true (by rw [← HNL.out]; omega), Bool.and_true]; simp
  clear HQ
  go_enter Try.func70, Try.ntmps70
  go_wp2_with fail
  obtain ⟨W0, hW0⟩ : ∃ W0, W0 = w.alloc (.cells #[.slice a n c] 58) := ⟨_, rfl⟩
  rw [← hW0]
  have X0 : W0.cell? ⟨w.heap.size, 0, none⟩ = some (.slice a n c) := by rw [hW0]; simp [go_sem]
  have HBW : Hid (Below w.heap.size w W0) := by rw [hW0]; exact below_a1r _ _
  have zW : w.heap.size < W0.heap.size := by rw [hW0]; simp
  clear hW0
  go_loopw [12] (fun iv wr => ∃ (k : Nat), k ≤ n ∧ iv = .int .i64 k ∧ Hid (rkOk (l.take k) (l.drop k) = q) ∧ Hid (∀ y ∈ l.take k, 1 ≤ y.2) ∧ Below W0.heap.size W0 wr) (fun iv _ => n - (intOf iv).toNat)
  case atStart => exact ⟨0, Nat.zero_le _, rfl, HQ1, fun y hy => by simp at hy, Below.refl _ _⟩
  case round =>
    obtain ⟨k, hk, rfl, HI, HP, hnx⟩ := hrel
    have zw := hnx.size
    have HBR : Hid (Below w.heap.size w wr) := HBW.out.trans (hnx.mono HBW.out.size)
    have Y0 := cell_later hnx X0
    by_cases hlt : k < n
    · obtain ⟨⟨i, s⟩, hx⟩ : ∃ x, l[k]? = some x := ⟨_, List.getElem?_eq_getElem (by rw [← HNL.out]; exact hlt)⟩
      obtain ⟨b, off, B, C, hab, hb, _, hi, _, hc⟩ := row_at (Kd.below H.out HBR.out) hx
      obtain ⟨rfl, g0, g1⟩ := kScored_open hi
      have HAB : Hid (a = some ⟨b, off, none⟩) := hab
      have A0 : wr.cell? ⟨b, off + k * 2, none⟩ = some (.int .i64 i) := (hc 0 _ rfl).1
      have A1 : wr.cell? ⟨b, off + k * 2 + 1, none⟩ = some (.int .i64 s) := (hc 1 _ rfl).1
      have i0 : (0 : Int) ≤ (k : Int) := by omega
      have i1 : (k : Int) < (n : Int) := by omega
      have HI1 : Hid (((scOk (i, s) && lastA (l.take k) (i, s) && noId (l.take k) i) && rkOk (l.take (k + 1)) (l.drop (k + 1))) = q) := by have := HI.out; rw [rk_drop hx] at this; exact this
      have HX : Hid (l[k]? = some (i, s)) := hx
      have HRT : Hid ((kRow kScored).is false w S [.slice a k c] (l.take k)) := row_take H.out hk
      subst hab
      clear hc hi hx HI hb
      obtain ⟨W1, hW1⟩ : ∃ W1, W1 = wr.alloc (.cells #[.int .i64 i, .int .i64 s] 60) := ⟨_, rfl⟩
      have B1 : Below wr.heap.size wr W1 := by rw [hW1]; exact below_a1r _ _
      have HB1 : Hid (Below w.heap.size w W1) := HBR.out.trans (B1.mono HBR.out.size)
      have HB0 : Hid (Below W0.heap.size W0 W1) := hnx.trans (B1.mono hnx.size)
      have U0 : ∀ p : BelowOf W1, p.v.cell? ⟨w.heap.size, 0, none⟩ = some (.slice (some ⟨b, off, none⟩) n c) := BelowOf.cell (cell_later B1 Y0)
      have U1 : ∀ p : BelowOf W1, p.v.cell? ⟨wr.heap.size, 0, none⟩ = some (.int .i64 i) := BelowOf.cell (by rw [hW1]; simp [go_sem])
      have U2 : ∀ p : BelowOf W1, p.v.cell? ⟨wr.heap.size, 1, none⟩ = some (.int .i64 s) := BelowOf.cell (by rw [hW1]; simp [go_sem])
      have k0 : ¬ (k : Int) < 0 := by omega
      have kc : (k : Int) ≤ (c : Int) := by omega
      have hne := belowOf_ne W1
      clear B1 hnx
      cases hs : scOk (i, s) with
      | false =>
        have HF : Hid (q = false) := by have := HI1.out; rw [hs] at this; exact this.symm
        have HS : Hid (∀ w, Calls Try.prog 101 #[.agg #[.int .i64 i, .int .i64 s]] w fun e w' => e = .returned (.bool false) ∧ Below w.heap.size w w') := fun w => by have := scIsGood_k i s w; rw [hs] at this; exact this
        clear HI1 hs
        go_wp2_with fail
        rw [← hW1]
        clear hW1
        refine region_below (by kernel_rfl) (by kernel_rfl) ?_
        repeat (go_big_quiet_step (first | (go_at_call 101; exact BelowOf.calls (HS.out _))))
        refine wpQuiet_nil (belowOf_all ?_)
        intro w2 hb2
        go_wp2
        go_ret
        exact ⟨by rw [HF.out]; rfl, HB1.out.trans (hb2.mono HB1.out.size)⟩
      | true =>
        have HSG : Hid (∀ w, Calls Try.prog 101 #[.agg #[.int .i64 i, .int .i64 s]] w fun e w' => e = .returned (.bool true) ∧ Below w.heap.size w w') := fun w => by have := scIsGood_k i s w; rw [hs] at this; exact this
        have HI2 : Hid (((lastA (l.take k) (i, s) && noId (l.take k) i) && rkOk (l.take (k + 1)) (l.drop (k + 1))) = q) := by have := HI1.out; rw [hs] at this; exact this
        have s1 : 1 ≤ s := by unfold scOk at hs; simp at hs; omega
        have HP2 : Hid (∀ y ∈ l.take (k + 1), 1 ≤ y.2) := by
          intro y hy
          rw [List.take_add_one, HX.out] at hy
          rcases List.mem_append.1 hy with h1 | h1
          · exact HP.out y h1
          · obtain rfl : y = (i, s) := by simpa using h1
            exact s1
        have HSC : Hid (∀ w', Below W1.heap.size W1 w' → Calls Try.prog 102 #[.slice (some ⟨b, off, none⟩) k c, .int .i64 i] w' fun e w'' => e = .returned (.int .i64 (scoreL (l.take k) i)) ∧ Below w'.heap.size w' w'') := fun w' hb => scoreIn_k (l.take k) _ k c S i w' (Kd.below HRT.out (HB1.out.trans (hb.mono HB1.out.size)))
        clear hs HI1
        obtain ⟨z, hz⟩ : ∃ z, z = scoreL (l.take k) i := ⟨_, rfl⟩
        rw [← hz] at HSC
        cases hno : noId (l.take k) i with
        | false =>
          have HF : Hid (q = false) := by have := HI2.out; rw [hno, Bool.and_false] at this; exact this.symm
          have z1 : (0 : Int) < z := by rw [hz]; have := scoreL_yes _ i HP.out hno; omega
          clear HI2 hno hz
          go_wp2_with fail
          rw [← hW1]
          clear hW1
          refine region_below (by kernel_rfl) (by kernel_rfl) ?_
          repeat (go_big_quiet_step (first | (go_at_call 101; exact BelowOf.calls (HSG.out _)) | (go_at_call 102; exact BelowOf.calls (HSC.out _ (BelowOf.h _)))))
          refine wpQuiet_nil (belowOf_all ?_)
          intro w2 hb2
          go_wp2
          go_ret
          exact ⟨by rw [HF.out]; rfl, HB1.out.trans (hb2.mono HB1.out.size)⟩
        | true =>
          have z1 : ¬ (0 : Int) < z := by rw [hz, scoreL_no _ i hno]; omega
          have HNO : Hid (noId (l.take k) i = true) := hno
          have HI3 : Hid ((lastA (l.take k) (i, s) && rkOk (l.take (k + 1)) (l.drop (k + 1))) = q) := by have := HI2.out; rw [hno, Bool.and_true] at this; exact this
          clear HI2 hno hz
          by_cases kz : k = 0
          · have HI4 : Hid (rkOk (l.take (k + 1)) (l.drop (k + 1)) = q) := by have := HI3.out; rw [show lastA (l.take k) (i, s) = true by rw [kz]; rfl, Bool.true_and] at this; exact this
            have KP : Hid (¬ (0 : Int) < (k : Int)) := by show ¬ _; omega
            clear HI3 kz
            go_wp2_with fail
            rw [← hW1]
            clear hW1
            refine region_below (by kernel_rfl) (by kernel_rfl) ?_
            repeat (go_big_quiet_step (first | (go_at_call 101; exact BelowOf.calls (HSG.out _)) | (go_at_call 102; exact BelowOf.calls (HSC.out _ (BelowOf.h _)))))
            refine wpQuiet_nil (belowOf_all ?_)
            intro w2 hb2
            have HB2 : Hid (Below W0.heap.size W0 w2) := HB0.out.trans (hb2.mono HB0.out.size)
            clear hb2
            go_wp2_with fail
            have hne2 := belowOf_ne w2
            have kpb : decide (0 < k) = false := decide_eq_false (by have := KP.out; omega)
            refine region_below (by kernel_rfl) (by kernel_rfl) ?_
            repeat (go_big_quiet_step (fail))
            refine wpQuiet_nil (belowOf_all ?_)
            intro w3 hb3
            go_wp2
            go_roundw
            case rel => exact ⟨k + 1, by omega, by go_num, HI4, HP2, HB2.out.trans (hb3.mono HB2.out.size)⟩
            case measure => simp [intOf]; omega
          · obtain ⟨m, rfl⟩ : ∃ m, k = m + 1 := ⟨k - 1, by omega⟩
            obtain ⟨⟨j, t⟩, hy⟩ : ∃ x, l[m]? = some x := ⟨_, List.getElem?_eq_getElem (by rw [← HNL.out]; omega)⟩
            obtain ⟨b', off', B', C', hab', hb', _, hi', _, hc'⟩ := row_at (Kd.below H.out HB1.out) hy
            obtain ⟨rfl, g2, g3⟩ := kScored_open hi'
            obtain ⟨rfl, rfl⟩ : b = b' ∧ off = off' := by injection hab' with e; injection e with e1 e2; exact ⟨e1, e2⟩
            have D0 : W1.cell? ⟨b, off + m * 2, none⟩ = some (.int .i64 j) := (hc' 0 _ rfl).1
            have D1 : W1.cell? ⟨b, off + m * 2 + 1, none⟩ = some (.int .i64 t) := (hc' 1 _ rfl).1
            have hji : j ≠ i := by
              refine (noId_iff _ _).1 HNO.out (j, t) ?_
              exact List.mem_of_getElem? (i := m) (by rw [List.getElem?_take_of_lt (by omega)]; exact hy)
            have HLA : Hid (lastA (l.take (m + 1)) (i, s) = ahd (j, t) (i, s)) := lastA_at hy (i, s)
            have HPO : Hid ((0 < rkCmp (j, t) (i, s)) ↔ ahd (j, t) (i, s) = false) := rkCmp_pos hji
            have HBY : Hid (∀ w, Calls Try.prog 99 #[.agg #[.int .i64 j, .int .i64 t], .agg #[.int .i64 i, .int .i64 s]] w fun e w' => e = .returned (.int .i64 (rkCmp (j, t) (i, s))) ∧ Below w.heap.size w w') := byRank_k j t i s
            obtain ⟨r, hr⟩ : ∃ r, r = rkCmp (j, t) (i, s) := ⟨_, rfl⟩
            rw [← hr] at HPO HBY
            have m0 : (0 : Int) < ((m : Int) + 1) := by omega
            have m1 : (m : Int) < (n : Int) := by omega
            have m2 : (0 : Int) ≤ (m : Int) := by omega
            clear hc' hi' hy hab' hb' hr
            go_wp2_with fail
            rw [← hW1]
            clear hW1
            refine region_below (by kernel_rfl) (by kernel_rfl) ?_
            repeat (go_big_quiet_step (first | (go_at_call 101; exact BelowOf.calls (HSG.out _)) | (go_at_call 102; exact BelowOf.calls (HSC.out _ (BelowOf.h _)))))
            refine wpQuiet_nil (belowOf_all ?_)
            intro w2 hb2
            have HB2 : Hid (Below W0.heap.size W0 w2) := HB0.out.trans (hb2.mono HB0.out.size)
            have HBW2 : Hid (Below w.heap.size w w2) := HB1.out.trans (hb2.mono HB1.out.size)
            have V0 : ∀ p : BelowOf w2, p.v.cell? ⟨w.heap.size, 0, none⟩ = some (.slice (some ⟨b, off, none⟩) n c) := BelowOf.cell (U0 ⟨w2, hb2⟩)
            have V1 : ∀ p : BelowOf w2, p.v.cell? ⟨wr.heap.size, 0, none⟩ = some (.int .i64 i) := BelowOf.cell (U1 ⟨w2, hb2⟩)
            have V2 : ∀ p : BelowOf w2, p.v.cell? ⟨wr.heap.size, 1, none⟩ = some (.int .i64 s) := BelowOf.cell (U2 ⟨w2, hb2⟩)
            have V3 : ∀ p : BelowOf w2, p.v.cell? ⟨b, off + m * 2, none⟩ = some (.int .i64 j) := BelowOf.cell (cell_later hb2 D0)
            have V4 : ∀ p : BelowOf w2, p.v.cell? ⟨b, off + m * 2 + 1, none⟩ = some (.int .i64 t) := BelowOf.cell (cell_later hb2 D1)
            have hne2 := belowOf_ne w2
            clear hb2 U0 U1 U2
            cases hah : ahd (j, t) (i, s) with
            | false =>
              have HF : Hid (q = false) := by have := HI3.out; rw [HLA.out, hah] at this; exact this.symm
              have r1 : (0 : Int) < r := HPO.out.2 hah
              clear hah HI3
              go_wp2_with fail
              refine region_below (by kernel_rfl) (by kernel_rfl) ?_
              repeat (go_big_quiet_step (first | (go_at_call 99; exact BelowOf.calls (HBY.out _))))
              refine wpQuiet_nil (belowOf_all ?_)
              intro w3 hb3
              go_wp2
              go_ret
              exact ⟨by rw [HF.out]; rfl, HBW2.out.trans (hb3.mono HBW2.out.size)⟩
            | true =>
              have HI4 : Hid (rkOk (l.take (m + 1 + 1)) (l.drop (m + 1 + 1)) = q) := by have := HI3.out; rw [HLA.out, hah] at this; exact this
              have r1 : ¬ (0 : Int) < r := fun h => by have := HPO.out.1 h; rw [hah] at this; cases this
              clear hah HI3
              go_wp2_with fail
              refine region_below (by kernel_rfl) (by kernel_rfl) ?_
              repeat (go_big_quiet_step (first | (go_at_call 99; exact BelowOf.calls (HBY.out _))))
              refine wpQuiet_nil (belowOf_all ?_)
              intro w3 hb3
              go_wp2
              go_roundw
              case rel => exact ⟨m + 1 + 1, by omega, by go_num, HI4, HP2, HB2.out.trans (hb3.mono HB2.out.size)⟩
              case measure => simp [intOf]; omega
    · have HF : Hid (q = true) := by
        have := HI.out
        rw [show k = l.length by rw [← HNL.out]; omega, List.drop_length, rkOk] at this
        exact this.symm
      go_wp2
      go_ret
      exact ⟨by rw [HF.out]; rfl, HBR.out⟩
end Go.Proofs.Ytikgcgfigcolmaa
