/- sameScored of lists that are the same. No condition. -/
import Derived.Test.YtikgcgfigcolmaaRkG
import Derived.Test.YtikgcgfigcolmaaQb
import Derived.Test.YtikgcgfigcolmaaCur
namespace Go.Proofs.Ytikgcgfigcolmaa
open Go.RowKit
set_option linter.unusedVariables false

set_option maxRecDepth 100000 in
set_option maxHeartbeats 2000000 in
theorem sameScored_k (l : List DScored) (a1 a2 : Option Addr) (n c1 c2 : Nat) (S1 S2 : Nat → Prop) (w : World) (h1 : (kRow kScored).is false w S1 [.slice a1 n c1] l) (h2 : (kRow kScored).is false w S2 [.slice a2 n c2] l) :
    Calls Try.prog 27 #[.slice a1 n c1, .slice a2 n c2] w fun e w' => e = .returned (.bool true) ∧ Below w.heap.size w w' := by
  have hnl := row_len h1
  have hmx : n ≤ 9223372036854775807 := by obtain ⟨_, _, _, h, _⟩ := row_form h1; rw [hnl]; exact h
  have HNL : Hid (n = l.length) := hnl
  clear hnl
  have H1 : Hid ((kRow kScored).is false w S1 [.slice a1 n c1] l) := h1
  have H2 : Hid ((kRow kScored).is false w S2 [.slice a2 n c2] l) := h2
  clear h1 h2
  go_enter Try.func27, Try.ntmps27
  go_wp2_with fail
  go_loopw [13] (fun i wr => ∃ k : Nat, k ≤ n ∧ i = .int .i64 k ∧ Below w.heap.size w wr) (fun i _ => n - (intOf i).toNat)
  case atStart => exact ⟨0, Nat.zero_le _, rfl, Below.refl _ _⟩
  case round =>
    obtain ⟨k, hk, rfl, hnx⟩ := hrel
    by_cases hlt : k < n
    · obtain ⟨x, hx⟩ : ∃ x, l[k]? = some x := ⟨_, List.getElem?_eq_getElem (by rw [← HNL.out]; exact hlt)⟩
      obtain ⟨b, off, B, C, rfl, hb, _, hi, _, hc⟩ := row_at (Kd.below H1.out hnx) hx
      obtain ⟨b', off', B', C', rfl, hb', _, hi', _, hc'⟩ := row_at (Kd.below H2.out hnx) hx
      obtain ⟨x0, x1⟩ := x
      obtain ⟨rfl, g0, g1⟩ := kScored_open hi
      obtain ⟨rfl, j0, j1⟩ := kScored_open hi'
      have A0 : wr.cell? ⟨b, off + k * 2, none⟩ = some (.int .i64 x0) := (hc 0 _ rfl).1
      have A1 : wr.cell? ⟨b, off + k * 2 + 1, none⟩ = some (.int .i64 x1) := (hc 1 _ rfl).1
      have D0 : wr.cell? ⟨b', off' + k * 2, none⟩ = some (.int .i64 x0) := (hc' 0 _ rfl).1
      have D1 : wr.cell? ⟨b', off' + k * 2 + 1, none⟩ = some (.int .i64 x1) := (hc' 1 _ rfl).1
      have i0 : (0 : Int) ≤ (k : Int) := by omega
      have i1 : (k : Int) < (n : Int) := by omega
      have hne := belowOf_ne wr
      have V0 : ∀ q : BelowOf wr, q.v.cell? ⟨b, off + k * 2, none⟩ = some (.int .i64 x0) := BelowOf.cell A0
      have V1 : ∀ q : BelowOf wr, q.v.cell? ⟨b, off + k * 2 + 1, none⟩ = some (.int .i64 x1) := BelowOf.cell A1
      have V2 : ∀ q : BelowOf wr, q.v.cell? ⟨b', off' + k * 2, none⟩ = some (.int .i64 x0) := BelowOf.cell D0
      have V3 : ∀ q : BelowOf wr, q.v.cell? ⟨b', off' + k * 2 + 1, none⟩ = some (.int .i64 x1) := BelowOf.cell D1
      clear hi hi' hc hc'
      go_wp2_with fail
      refine region_below (by kernel_rfl) (by kernel_rfl) ?_
      repeat (go_big_quiet_step (fail))
      refine wpQuiet_nil (belowOf_all ?_)
      intro w1 hb1
      clear V0 V1 V2 V3 hne
      go_wp2
      go_roundw
      case rel => exact ⟨k + 1, by omega, by go_num, hnx.trans (hb1.mono hnx.size)⟩
      case measure => simp [intOf]; omega
    · go_wp2
      go_ret
      exact ⟨rfl, hnx⟩
end Go.Proofs.Ytikgcgfigcolmaa
