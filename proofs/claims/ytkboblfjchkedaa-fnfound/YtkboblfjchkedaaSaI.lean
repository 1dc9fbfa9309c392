/- Lists of numbers that are the same, as the laws look at them. No condition. -/
import Derived.Test.YtkboblfjchkedaaAp4
import Derived.Test.YtkboblfjchkedaaQb
namespace Go.Proofs.Ytkboblfjchkedaa
open Go.RowKit
set_option linter.unusedVariables false

set_option maxRecDepth 100000 in
set_option maxHeartbeats 2000000 in
theorem sameInts_k (l : List Int) (a1 a2 : Option Addr) (n c1 c2 : Nat) (S1 S2 : Nat → Prop) (w : World) (h1 : (kRow kInt).is false w S1 [.slice a1 n c1] l) (h2 : (kRow kInt).is false w S2 [.slice a2 n c2] l) :
    Calls Try.prog 13 #[.slice a1 n c1, .slice a2 n c2] w fun e w' => e = .returned (.bool true) ∧ Below w.heap.size w w' := by
  have hnl := row_len h1
  have hmx : n ≤ 9223372036854775807 := by obtain ⟨_, _, _, h, _⟩ := row_form h1; rw [hnl]; exact h
  have HNL : Hid (n = l.length) := hnl
  clear hnl
  have H1 : Hid ((kRow kInt).is false w S1 [.slice a1 n c1] l) := h1
  have H2 : Hid ((kRow kInt).is false w S2 [.slice a2 n c2] l) := h2
  clear h1 h2
  go_enter Try.func13, Try.ntmps13
  go_wp2_with fail
  go_loopw [13] (fun i wr => ∃ k : Nat, k ≤ n ∧ i = .int .i64 k ∧ Below w.heap.size w wr) (fun i _ => n - (intOf i).toNat)
  case atStart => exact ⟨0, Nat.zero_le _, rfl, Below.refl _ _⟩
  case round =>
    obtain ⟨k, hk, rfl, hnx⟩ := hrel
    by_cases hlt : k < n
    · obtain ⟨x, hx⟩ : ∃ x, l[k]? = some x := ⟨_, List.getElem?_eq_getElem (by rw [← HNL.out]; exact hlt)⟩
      obtain ⟨b, off, B, C, rfl, hb, _, hi, _, hc⟩ := row_at (Kd.below H1.out hnx) hx
      obtain ⟨b', off', B', C', rfl, hb', _, hi', _, hc'⟩ := row_at (Kd.below H2.out hnx) hx
      obtain ⟨rfl, g0⟩ := hi
      obtain ⟨rfl, j0⟩ := hi'
      have A0 : wr.cell? ⟨b, off + k, none⟩ = some (.int .i64 x) := by have := (hc 0 _ rfl).1; simpa [kInt] using this
      have D0 : wr.cell? ⟨b', off' + k, none⟩ = some (.int .i64 x) := by have := (hc' 0 _ rfl).1; simpa [kInt] using this
      have i0 : (0 : Int) ≤ (k : Int) := by omega
      have i1 : (k : Int) < (n : Int) := by omega
      have hne := belowOf_ne wr
      have V0 : ∀ q : BelowOf wr, q.v.cell? ⟨b, off + k, none⟩ = some (.int .i64 x) := BelowOf.cell A0
      have V2 : ∀ q : BelowOf wr, q.v.cell? ⟨b', off' + k, none⟩ = some (.int .i64 x) := BelowOf.cell D0
      clear hc hc'
      go_wp2_with fail
      refine region_below (by kernel_rfl) (by kernel_rfl) ?_
      repeat (go_big_quiet_step (fail))
      refine wpQuiet_nil (belowOf_all ?_)
      intro w1 hb1
      clear V0 V2 hne
      go_wp2
      go_roundw
      case rel => exact ⟨k + 1, by omega, by go_num, hnx.trans (hb1.mono hnx.size)⟩
      case measure => simp [intOf]; omega
    · go_wp2
      go_ret
      exact ⟨rfl, hnx⟩

end Go.Proofs.Ytkboblfjchkedaa
