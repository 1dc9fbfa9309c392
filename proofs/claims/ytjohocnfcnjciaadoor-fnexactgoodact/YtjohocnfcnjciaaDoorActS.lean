/- The specification's GoodAct. -/
import Derived.Test.YtjohocnfcnjciaaDoorActI
import Derived.Test.YtjohocnfcnjciaaDoorFilS0
import Derived.Test.YtjohocnfcnjciaaDoorPathS
namespace Go.Proofs.YtjohocnfcnjciaaDoor
open Go.RowKit
set_option linter.unusedVariables false

set_option maxRecDepth 100000 in
set_option maxHeartbeats 4000000 in
theorem specGoodAct_any (k : Int) (p : ByteArray) (va : Option Addr) (n vc : Nat) (N : Nat → Nd) (w : World) (hp : p.size ≤ 2 ^ 20) (hv : ArgIs w va n N) (hs : SmallN n N) :
    Calls Tryd.prog 5 #[.agg #[.int .i64 k, .string p, .slice va n vc]] w (BoolIs (ActOK k p N n) w) := by
  have n20 : n ≤ 2 ^ 20 := hs.1
  have HV : Hid (ArgIs w va n N) := hv
  have HS : Hid (SmallN n N) := hs
  have s1 : p.data.toList.length ≤ 2 ^ 20 := by rw [Array.length_toList]; exact hp
  clear hv hs
  have hal : ∀ o, Below w.heap.size w (w.alloc o) := fun o => (Below.refl _ _).alloc (Nat.le_refl _) o
  go_enter Tryd.func5, Tryd.ntmps5
  go_wp2_with fail
  refine (show Calls Tryd.prog 10 #[.string p] _ (NamesIs p.data.toList _) from l3Path_any p.data.toList _ s1).mono ?_
  rintro e w1 ⟨vv, g, rfl, _, _, hb⟩
  have x0 : w1.cell? ⟨w.heap.size, 0, none⟩ = some (.int .i64 k) := by rw [hb.cell (by simp)]; simp [go_sem]
  have x1 : w1.cell? ⟨w.heap.size, 1, none⟩ = some (.string p) := by rw [hb.cell (by simp)]; simp [go_sem]
  have x2 : w1.cell? ⟨w.heap.size, 2, none⟩ = some (.slice va n vc) := by rw [hb.cell (by simp)]; simp [go_sem]
  have HB : Hid (Below w.heap.size w w1) := (hal _).trans (hb.mono (by simp))
  have z1 : w.heap.size < w1.heap.size := by have := hb.size; simp at this; omega
  clear hb hal
  cases hpp : (namesL p.data.toList).isSome with
  | false =>
    have HN : Hid (¬ ActOK k p N n) := fun h => by have := h.2.1; unfold PathIs at this; rw [hpp] at this; simp at this
    clear hpp
    go_wp2
    go_ret
    exact BoolIs.no HN.out HB.out
  | true =>
    have HP : Hid (PathIs p) := hpp
    clear hpp
    by_cases p0 : p.size = 0
    · have HN : Hid (¬ ActOK k p N n) := fun h => h.1 p0
      have pe : p.toList.isEmpty = true := by rw [(empty_iff p).2 p0]; rfl
      clear p0
      go_wp2
      go_ret
      exact BoolIs.no HN.out HB.out
    · have pe : p.toList.isEmpty = false := by cases hh : p.toList.isEmpty with | false => rfl | true => exact absurd ((empty_iff p).1 (List.isEmpty_iff.1 hh)) p0
      have HP0 : Hid (p.size ≠ 0) := p0
      clear p0
      by_cases k145 : k = 1 ∨ k = 4 ∨ k = 5
      · have HIF : Hid (ActOK k p N n ↔ GoodV N n) := by
          unfold ActOK
          have h1 := HP0.out
          have h2 := HP.out
          refine ⟨fun h => ?_, fun h => ⟨h1, h2, .inl ⟨k145, h⟩⟩⟩
          rcases h.2.2 with h | h | h | h
          · exact h.2
          · omega
          · omega
          · omega
        rcases k145 with rfl | rfl | rfl
        all_goals
          go_wp2_with fail
          refine (specGood_arg va vc n N _ (HV.out.below HB.out) HS.out).mono ?_
          rintro e w2 ⟨q, rfl, hq, hb2⟩
          have HB2 : Hid (Below w.heap.size w w2) := HB.out.trans (hb2.mono HB.out.size)
          have HQ : Hid (q = true ↔ ActOK _ p N n) := hq.trans HIF.out.symm
          clear hb2 hq
          go_wp2
          go_ret
          exact ⟨q, rfl, HQ.out, HB2.out⟩
      · by_cases k2 : k = 2
        · subst k2
          have HIF : Hid (ActOK 2 p N n ↔ n = 0) := by
            unfold ActOK
            have h1 := HP0.out
            have h2 := HP.out
            refine ⟨fun h => ?_, fun h => ⟨h1, h2, .inr (.inl ⟨rfl, h⟩)⟩⟩
            rcases h.2.2 with h | h | h | h
            · omega
            · exact h.2
            · omega
            · omega
          clear k145
          go_wp2_with fail
          refine (l5Zero_any va vc n _ n20).mono ?_
          rintro e w2 ⟨q, rfl, hq, hb2⟩
          have HB2 : Hid (Below w.heap.size w w2) := HB.out.trans (hb2.mono HB.out.size)
          have HQ : Hid (q = true ↔ ActOK _ p N n) := hq.trans HIF.out.symm
          clear hb2 hq
          go_wp2
          go_ret
          exact ⟨q, rfl, HQ.out, HB2.out⟩
        · by_cases k36 : k = 3 ∨ k = 6
          · obtain ⟨kd, hkd⟩ : ∃ kd : Int, (k = 3 ∧ kd = 4) ∨ (k = 6 ∧ kd = 5) := by
              rcases k36 with h | h
              · exact ⟨4, .inl ⟨h, rfl⟩⟩
              · exact ⟨5, .inr ⟨h, rfl⟩⟩
            have HIF : Hid (ActOK k p N n ↔ GoodV N n ∧ (N 0).kind = kd) := by
              unfold ActOK
              have h1 := HP0.out
              have h2 := HP.out
              refine ⟨fun h => ?_, fun h => ⟨h1, h2, ?_⟩⟩
              · rcases h.2.2 with h | h | h | h
                · omega
                · omega
                · exact ⟨h.2.1, by omega⟩
                · exact ⟨h.2.1, by omega⟩
              · rcases hkd with ⟨e1, e2⟩ | ⟨e1, e2⟩
                · exact .inr (.inr (.inl ⟨e1, h.1, by omega⟩))
                · exact .inr (.inr (.inr ⟨e1, h.1, by omega⟩))
            clear k145 k2 k36
            rcases hkd with ⟨rfl, rfl⟩ | ⟨rfl, rfl⟩
            all_goals
              go_wp2_with fail
              refine (specGood_arg va vc n N _ (HV.out.below HB.out) HS.out).mono ?_
              rintro e w2 ⟨q, rfl, hq, hb2⟩
              have y2 : w2.cell? ⟨w.heap.size, 2, none⟩ = some (.slice va n vc) := (hb2.cell z1).trans x2
              have HB2 : Hid (Below w.heap.size w w2) := HB.out.trans (hb2.mono HB.out.size)
              clear hb2
              cases q with
              | false =>
                have HN : Hid (¬ ActOK _ p N n) := fun h => by simpa using hq.2 (HIF.out.1 h).1
                clear hq
                go_wp2
                go_ret
                exact BoolIs.no HN.out HB2.out
              | true =>
                have hg := hq.1 rfl
                have n0 := good_pos hg
                have HG : Hid (GoodV N n) := hg
                clear hq hg
                rcases HV.out.below HB2.out with h0 | ⟨b, off, rfl, hb, hat⟩
                · omega
                have a0 := (hat 0 n0).1
                have i1 : (0 : Int) < (n : Int) := by omega
                simp only [Nat.zero_mul, Nat.add_zero] at a0
                clear hat
                go_wp2
                go_ret
                refine BoolIs.of ?_ HB2.out
                rw [HIF.out]
                have hg := HG.out
                simp [hg]
          · have HN : Hid (¬ ActOK k p N n) := fun h => by
              rcases h.2.2 with h | h | h | h <;> omega
            have k1 : ¬ k = 1 := fun e => k145 (.inl e)
            have k4 : ¬ k = 4 := fun e => k145 (.inr (.inl e))
            have k5 : ¬ k = 5 := fun e => k145 (.inr (.inr e))
            have k3 : ¬ k = 3 := fun e => k36 (.inl e)
            have k6 : ¬ k = 6 := fun e => k36 (.inr e)
            clear k145 k36
            go_wp2
            go_ret
            exact BoolIs.no HN.out HB.out

end Go.Proofs.YtjohocnfcnjciaaDoor
