/- Whether two rows of limbs are the same: slices.Equal. -/
import Derived.Test.YtnmbnebofbdmfaaTpT
import Derived.Laws.StructEq
import Derived.Deep.RegionLaw
import Derived.Deep.QuietTactic
import Derived.Deep.RegionHeld3
import Derived.BigQuiet
namespace Go.Proofs.Ytnmbnebofbdmfaa
open Go.RowKit
set_option linter.unusedVariables false

def lbSame (x y : Lb) : Bool := (x.key.toList == y.key.toList) && (x.val.toList == y.val.toList) && x.left == y.left && x.right == y.right
theorem lbSame_iff {x y : Lb} : lbSame x y = true ↔ x = y := by
  unfold lbSame
  cases x; cases y
  simp
  constructor
  · rintro ⟨⟨⟨h1, h2⟩, h3⟩, h4⟩; exact ⟨toL_inj h1, toL_inj h2, h3, h4⟩
  · rintro ⟨h1, h2, h3, h4⟩; exact ⟨⟨⟨congrArg _ h1, congrArg _ h2⟩, h3⟩, h4⟩
theorem neq_limb (x y : Lb) (w : World) : Sem.run Try.prog (binOp .neq 55 (.agg #[.string x.key, .string x.val, .int .i64 x.left, .int .i64 x.right]) (.agg #[.string y.key, .string y.val, .int .i64 y.left, .int .i64 y.right])) w = .ok (.bool (!lbSame x y)) w := by
  have u3 := Try.underlying3
  have a3 := Try.isAgg3
  have z3 := Try.sizeOf3
  have u9 := Try.underlying9
  have a9 := Try.isAgg9
  have z9 := Try.sizeOf9
  have hS : Try.prog.underlying 55 = some (.struct (Try.prog.fieldsOf 55)) := by kernel_rfl
  have hp : Try.prog.stoodInHeld 55 = false := by kernel_rfl
  rw [run_neq_struct, show (10000 : Nat) = 9999 + 1 from rfl, run_equalIn_agg w 9999 55 _ _ hS hp]
  simp only [Program.fieldsOf, Try.underlying55]
  go_simp
  unfold lbSame
  by_cases h1 : x.key.toList = y.key.toList <;> by_cases h2 : x.val.toList = y.val.toList <;> by_cases h3 : x.left = y.left <;> by_cases h4 : x.right = y.right <;> simp [h1, h2, h3, h4]
theorem guard_limb (op : BinOp) (a b : Operand) (x y : Lb) (w : World) : Sem.run Try.prog (eqGuard op 55 a b (.agg #[.string x.key, .string x.val, .int .i64 x.left, .int .i64 x.right]) (.agg #[.string y.key, .string y.val, .int .i64 y.left, .int .i64 y.right])) w = .ok () w :=
  run_eqGuard_agg w op 55 a b _ _ (by kernel_rfl)
theorem drewN_belowT {B : Nat} {a w : World} (h : Below B a w) (n : Nat) : Below B a (w.drewN n) := ⟨h.os, h.tape, h.output, h.size, h.block⟩

set_option maxRecDepth 100000 in
set_option maxHeartbeats 2000000 in
theorem eqLimbs_any (v1 v2 : Value) (n1 n2 : Nat) (N1 N2 : Nat → Lb) (w : World) (h1 : RowIs w w.heap.size v1 n1 N1) (h2 : RowIs w w.heap.size v2 n2 N2) :
    Calls Try.prog 31 #[v1, v2] w fun e w' => ∃ q, e = .returned (.bool q) ∧ (q = true ↔ n1 = n2 ∧ ∀ i, i < n1 → N1 i = N2 i) ∧ Below w.heap.size w w' := by
  obtain ⟨x1, c1, rfl, hn1, h1⟩ := h1
  obtain ⟨x2, c2, rfl, hn2, h2⟩ := h2
  have H1 : Hid (n1 = 0 ∨ ∃ b off, x1 = some ⟨b, off, none⟩ ∧ b < w.heap.size ∧ LimbsAt w b off n1 N1) := h1
  have H2 : Hid (n2 = 0 ∨ ∃ b off, x2 = some ⟨b, off, none⟩ ∧ b < w.heap.size ∧ LimbsAt w b off n2 N2) := h2
  clear h1 h2
  by_cases hnn : n1 = n2
  · subst hnn
    go_enter Try.func31, Try.ntmps31
    go_wp2_with fail
    go_loopw [13] (fun i wr => ∃ m : Nat, m ≤ n1 ∧ i = .int .i64 m ∧ Hid (∀ j, j < m → N1 j = N2 j) ∧ Below w.heap.size w wr) (fun i _ => n1 - (intOf i).toNat)
    case atStart => exact ⟨0, Nat.zero_le _, rfl, fun j hj => by omega, Below.refl _ _⟩
    case round =>
      obtain ⟨m, hm1, rfl, HL, hnx⟩ := hrel
      have hz := hnx.size
      by_cases hlt : m < n1
      · rcases H1.out with h0 | ⟨b1, o1, rfl, hb1, h1⟩
        · omega
        rcases H2.out with h0 | ⟨b2, o2, rfl, hb2, h2⟩
        · omega
        obtain ⟨a0, a1, a2, a3⟩ := h1.below hnx hb1 m hlt
        obtain ⟨d0, d1, d2, d3⟩ := h2.below hnx hb2 m hlt
        have j0 : (0 : Int) ≤ (m : Int) := by omega
        have j1 : (m : Int) < (n1 : Int) := by omega
        have hbw1 : b1 < wr.heap.size := by omega
        have hbw2 : b2 < wr.heap.size := by omega
        have hne := neq_limb (N1 m) (N2 m)
        have hgd := fun op a b => guard_limb op a b (N1 m) (N2 m)
        obtain ⟨q, hq⟩ : ∃ q, q = lbSame (N1 m) (N2 m) := ⟨_, rfl⟩
        have HQ : Hid (q = lbSame (N1 m) (N2 m)) := hq
        rw [← hq] at hne
        have HNX : Hid (Below w.heap.size w wr) := hnx
        clear hq hnx h1 h2
        cases q with
        | true =>
          have HL' : Hid (∀ j, j < m + 1 → N1 j = N2 j) := fun j hj => by
            by_cases e : j = m
            · subst e; exact lbSame_iff.1 HQ.out.symm
            · exact HL.out j (by omega)
          go_wp2_with fail
          go_quiet (fail)
          go_wp2
          go_roundw
          case rel => exact ⟨m + 1, by omega, by go_num, HL', drewN_belowT HNX.out _⟩
          case measure => simp [intOf]; omega
        | false =>
          have HN : Hid (¬ (n1 = n1 ∧ ∀ i, i < n1 → N1 i = N2 i)) := fun h => by
            have := lbSame_iff.2 (h.2 m hlt)
            rw [← HQ.out] at this
            simp at this
          go_wp2_with fail
          go_quiet (fail)
          go_wp2
          go_ret
          exact ⟨false, rfl, by simp [HN.out], drewN_belowT HNX.out _⟩
      · obtain rfl : m = n1 := by omega
        go_wp2
        go_ret
        exact ⟨true, rfl, by simpa using HL.out, hnx⟩
  · have hne : ¬ (n1 : Int) = (n2 : Int) := by omega
    go_enter Try.func31, Try.ntmps31
    go_wp2
    go_ret
    exact ⟨false, rfl, by simp [hnn], Below.refl _ _⟩

end Go.Proofs.Ytnmbnebofbdmfaa
