/- The program's GoodAct, and the specification's. -/
import Derived.Test.YtjohocnfcnjciaaDoorFilG0
namespace Go.Proofs.YtjohocnfcnjciaaDoor
open Go.RowKit
set_option linter.unusedVariables false

/-- A GOOD ACT. -/
def ActOK (k : Int) (p : ByteArray) (N : Nat → Nd) (n : Nat) : Prop := p.size ≠ 0 ∧ PathIs p ∧ (((k = 1 ∨ k = 4 ∨ k = 5) ∧ GoodV N n) ∨ (k = 2 ∧ n = 0) ∨ (k = 3 ∧ GoodV N n ∧ (N 0).kind = 4) ∨ (k = 6 ∧ GoodV N n ∧ (N 0).kind = 5))

set_option maxHeartbeats 1000000 in
theorem isGoodOf_any (a : Option Addr) (c n : Nat) (N : Nat → Nd) (kd : Int) (w : World) (h : ArgIs w a n N) (hsm : SmallN n N) (htab : Tab w.heap.size w) :
    Calls Tryd.prog 16 #[.agg #[.slice a n c], .int .i64 kd] w (BoolIs (GoodV N n ∧ (N 0).kind = kd) w) := by
  have H : Hid (ArgIs w a n N) := h
  have HS : Hid (SmallN n N) := hsm
  have HT : Hid (Tab w.heap.size w) := htab
  clear h hsm htab
  have hal : ∀ o, Below w.heap.size w (w.alloc o) := fun o => (Below.refl _ _).alloc (Nat.le_refl _) o
  go_enter Tryd.func16, Tryd.ntmps16
  go_wp2_with fail
  refine (implGood_arg a c n N _ (H.out.below (hal _)) HS.out (HT.out.up (hal _))).mono ?_
  rintro e w1 ⟨q, rfl, hq, hb⟩
  have x1 : w1.cell? ⟨w.heap.size, 0, none⟩ = some (.slice a n c) := by rw [hb.cell (by simp)]; simp [go_sem]
  have HB : Hid (Below w.heap.size w w1) := (hal _).trans (hb.mono (by simp))
  clear hb hal
  cases q with
  | false =>
    have HN : Hid (¬ (GoodV N n ∧ (N 0).kind = kd)) := fun h => by simpa using hq.2 h.1
    clear hq
    go_wp2
    go_ret
    exact BoolIs.no HN.out HB.out
  | true =>
    have hg := hq.1 rfl
    have n0 := good_pos hg
    have HG : Hid (GoodV N n) := hg
    clear hq hg
    have n20 := HS.out.1
    rcases H.out.below HB.out with h0 | ⟨b, off, rfl, hb, hat⟩
    · omega
    have a0 := (hat 0 n0).1
    have i1 : (0 : Int) < (n : Int) := by omega
    simp only [Nat.zero_mul, Nat.add_zero] at a0
    clear hat
    go_wp2
    go_ret
    refine BoolIs.of ?_ HB.out
    have hg := HG.out
    simp [hg]

set_option maxRecDepth 100000 in
set_option maxHeartbeats 4000000 in
theorem implGoodAct_any (k : Int) (p : ByteArray) (va : Option Addr) (n vc : Nat) (N : Nat → Nd) (w : World) (hv : ArgIs w va n N) (hs : SmallN n N) (htab : Tab w.heap.size w) (hml : ML w) :
    Calls Tryd.prog 7 #[.agg #[.int .i64 k, .string p, .slice va n vc]] w (BoolIs (ActOK k p N n) w) := by
  have n20 : n ≤ 2 ^ 20 := hs.1
  have HV : Hid (ArgIs w va n N) := hv
  have HS : Hid (SmallN n N) := hs
  have HT : Hid (Tab w.heap.size w) := htab
  have HM : Hid (ML w) := hml
  clear hv hs htab hml
  have hal : ∀ o, Below w.heap.size w (w.alloc o) := fun o => (Below.refl _ _).alloc (Nat.le_refl _) o
  by_cases p0 : p.size = 0
  · have HN : Hid (¬ ActOK k p N n) := fun h => h.1 p0
    have pe : p.toList.isEmpty = true := by rw [(empty_iff p).2 p0]; rfl
    clear p0
    go_enter Tryd.func7, Tryd.ntmps7
    go_wp2
    go_ret
    exact BoolIs.no HN.out (by go_grown)
  · have pe : p.toList.isEmpty = false := by cases hh : p.toList.isEmpty with | false => rfl | true => exact absurd ((empty_iff p).1 (List.isEmpty_iff.1 hh)) p0
    have HP0 : Hid (p.size ≠ 0) := p0
    clear p0
    go_enter Tryd.func7, Tryd.ntmps7
    go_wp2_with fail
    refine (isPath_any p _ (HM.out.below (hal _))).mono ?_
    rintro e w1 ⟨q, rfl, hq, hb⟩
    have x0 : w1.cell? ⟨w.heap.size, 0, none⟩ = some (.int .i64 k) := by rw [hb.cell (by simp)]; simp [go_sem]
    have x2 : w1.cell? ⟨w.heap.size, 2, none⟩ = some (.slice va n vc) := by rw [hb.cell (by simp)]; simp [go_sem]
    have HB : Hid (Below w.heap.size w w1) := (hal _).trans (hb.mono (by simp))
    have z1 : w.heap.size < w1.heap.size := by have := hb.size; simp at this; omega
    clear hb hal
    cases q with
    | false =>
      have HN : Hid (¬ ActOK k p N n) := fun h => by simpa using hq.2 h.2.1
      clear hq
      go_wp2
      go_ret
      exact BoolIs.no HN.out HB.out
    | true =>
      have HP : Hid (PathIs p) := hq.1 rfl
      clear hq
      by_cases k145 : k = 1 ∨ k = 4 ∨ k = 5
      · have HIF : Hid (ActOK k p N n ↔ GoodV N n) := by
          unfold ActOK
          have h1 := HP0.out
          have h2 := HP.out
          refine ⟨fun h => ?_, fun h => ⟨h1, h2, .inl ⟨k145, h⟩⟩⟩
          rcases h.2.2 with h | h | h | h
          · exact h.2
          · omega
          · omega
          · omega
        rcases k145 with rfl | rfl | rfl
        all_goals
          go_wp2_with fail
          refine (implGood_arg va vc n N _ (HV.out.below HB.out) HS.out (HT.out.up HB.out)).mono ?_
          rintro e w2 ⟨q, rfl, hq, hb2⟩
          have HB2 : Hid (Below w.heap.size w w2) := HB.out.trans (hb2.mono HB.out.size)
          have HQ : Hid (q = true ↔ ActOK _ p N n) := hq.trans HIF.out.symm
          clear hb2 hq
          go_wp2
          go_ret
          exact ⟨q, rfl, HQ.out, HB2.out⟩
      · by_cases k2 : k = 2
        · subst k2
          have HIF : Hid (ActOK 2 p N n ↔ n = 0) := by
            unfold ActOK
            have h1 := HP0.out
            have h2 := HP.out
            refine ⟨fun h => ?_, fun h => ⟨h1, h2, .inr (.inl ⟨rfl, h⟩)⟩⟩
            rcases h.2.2 with h | h | h | h
            · omega
            · exact h.2
            · omega
            · omega
          clear k145
          go_wp2
          go_ret
          refine BoolIs.of ?_ HB.out
          rw [HIF.out]
          simp
        · by_cases k3 : k = 3
          · subst k3
            have HIF : Hid (ActOK 3 p N n ↔ GoodV N n ∧ (N 0).kind = 4) := by
              unfold ActOK
              have h1 := HP0.out
              have h2 := HP.out
              refine ⟨fun h => ?_, fun h => ⟨h1, h2, .inr (.inr (.inl ⟨rfl, h⟩))⟩⟩
              rcases h.2.2 with h | h | h | h
              · omega
              · omega
              · exact h.2
              · omega
            clear k145 k2
            go_wp2_with fail
            refine (isGoodOf_any va vc n N 4 _ (HV.out.below HB.out) HS.out (HT.out.up HB.out)).mono ?_
            rintro e w2 ⟨q, rfl, hq, hb2⟩
            have HB2 : Hid (Below w.heap.size w w2) := HB.out.trans (hb2.mono HB.out.size)
            have HQ : Hid (q = true ↔ ActOK _ p N n) := hq.trans HIF.out.symm
            clear hb2 hq
            go_wp2
            go_ret
            exact ⟨q, rfl, HQ.out, HB2.out⟩
          · by_cases k6 : k = 6
            · subst k6
              have HIF : Hid (ActOK 6 p N n ↔ GoodV N n ∧ (N 0).kind = 5) := by
                unfold ActOK
                have h1 := HP0.out
                have h2 := HP.out
                refine ⟨fun h => ?_, fun h => ⟨h1, h2, .inr (.inr (.inr ⟨rfl, h⟩))⟩⟩
                rcases h.2.2 with h | h | h | h
                · omega
                · omega
                · omega
                · exact h.2
              clear k145 k2 k3
              go_wp2_with fail
              refine (isGoodOf_any va vc n N 5 _ (HV.out.below HB.out) HS.out (HT.out.up HB.out)).mono ?_
              rintro e w2 ⟨q, rfl, hq, hb2⟩
              have HB2 : Hid (Below w.heap.size w w2) := HB.out.trans (hb2.mono HB.out.size)
              have HQ : Hid (q = true ↔ ActOK _ p N n) := hq.trans HIF.out.symm
              clear hb2 hq
              go_wp2
              go_ret
              exact ⟨q, rfl, HQ.out, HB2.out⟩
            · have HN : Hid (¬ ActOK k p N n) := fun h => by
                rcases h.2.2 with h | h | h | h <;> omega
              have k1 : ¬ k = 1 := fun e => k145 (.inl e)
              have k4 : ¬ k = 4 := fun e => k145 (.inr (.inl e))
              have k5 : ¬ k = 5 := fun e => k145 (.inr (.inr e))
              clear k145
              go_wp2
              go_ret
              exact BoolIs.no HN.out HB.out

end Go.Proofs.YtjohocnfcnjciaaDoor
