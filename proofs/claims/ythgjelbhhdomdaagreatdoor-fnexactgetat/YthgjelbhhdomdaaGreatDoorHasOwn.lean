/- Whether a number lies between two, by the specification. Whether a value has a node. -/
import Derived.Test.YthgjelbhhdomdaaGreatDoorGoodOwn
namespace Go.Proofs.YthgjelbhhdomdaaGreatDoor
open Go.RowKit
set_option linter.unusedVariables false

set_option maxRecDepth 100000 in
set_option maxHeartbeats 1000000 in
theorem l1In_any (x lo hi : Int) (w : World) : Calls Tryz.prog 62 #[.int .i64 x, .int .i64 lo, .int .i64 hi] w fun e w' => e = .returned (.bool (decide (lo ≤ x) && decide (x ≤ hi))) ∧ Below w.heap.size w w' := by
  by_cases h0 : lo ≤ x
  · go_enter Tryz.func62, Tryz.ntmps62
    go_wp2
    go_ret
    exact ⟨by simp [h0], by go_grown⟩
  · go_enter Tryz.func62, Tryz.ntmps62
    go_wp2
    go_ret
    have h1 : decide (lo ≤ x) = false := decide_eq_false (by omega)
    exact ⟨by rw [h1]; rfl, by go_grown⟩

end Go.Proofs.YthgjelbhhdomdaaGreatDoor
namespace Go.Proofs.YthgjelbhhdomdaaGreatDoor
open Go.RowKit
set_option linter.unusedVariables false


set_option maxRecDepth 100000 in
set_option maxHeartbeats 1000000 in
theorem hasNode_own (b n : Nat) (a : Option Addr) (c : Nat) (N : Nat → Nd) (z : Int) (w : World) (h : OwnAt w b (.slice a n c) n N) (hsm : SmallN n N) (htab : Tab w.heap.size w) :
    Calls Tryz.prog 51 #[.agg #[.slice a n c], .int .i64 z] w (BoolIs (HasN N n z) w) := by
  have HO : Hid (OwnAt w b (.slice a n c) n N) := h
  have HSM : Hid (SmallN n N) := hsm
  have HTB : Hid (Tab w.heap.size w) := htab
  have hbl : ∀ o, Below w.heap.size w (w.alloc o) := fun o => (Below.refl _ _).alloc (Nat.le_refl _) o
  have n20 : n ≤ 2 ^ 20 := hsm.1
  clear h hsm htab
  by_cases h0 : 0 ≤ z
  · by_cases h1 : z < n
    · go_enter Tryz.func51, Tryz.ntmps51
      go_wp2_with fail
      refine (implGood_own b n a c N _ (HO.out.below (hbl _)) HSM.out (HTB.out.up (hbl _))).mono ?_
      rintro e w1 ⟨q, rfl, hq, hb1⟩
      have HB1 : Hid (Below w.heap.size w w1) := (hbl _).trans (hb1.mono (by simp))
      have HQ : Hid (q = true ↔ HasN N n z) := ⟨fun h => ⟨h0, h1, hq.1 h⟩, fun h => hq.2 h.2.2⟩
      clear hb1 hbl hq
      go_wp2
      go_ret
      exact BoolIs.of HQ.out HB1.out
    · have HN : Hid (¬ HasN N n z) := fun h => h1 h.2.1
      go_enter Tryz.func51, Tryz.ntmps51
      go_wp2_with fail
      go_ret
      exact BoolIs.no HN.out (by go_grown)
  · have HN : Hid (¬ HasN N n z) := fun h => h0 h.1
    go_enter Tryz.func51, Tryz.ntmps51
    go_wp2_with fail
    go_ret
    exact BoolIs.no HN.out (by go_grown)

end Go.Proofs.YthgjelbhhdomdaaGreatDoor
