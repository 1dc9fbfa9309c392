/- What the law's small helpers do with a list of texts. No condition. -/
import Derived.Test.YtmiofccmimhabaaStrs0
namespace Go.Proofs.Ytmiofccmimhabaa
open Go.RowKit
set_option linter.unusedVariables false

set_option maxHeartbeats 400000 in
theorem eqStringS_some (g1 c1 g2 c2 n : Nat) (f : Nat → ByteArray) (w : World) (hn : n ≤ 2 ^ 40) (hb1 : g1 < w.heap.size) (hb2 : g2 < w.heap.size) (h1 : StrsAt w g1 n f) (h2 : StrsAt w g2 n f) :
    Calls Try.prog 28 #[.slice (some ⟨g1, 0, none⟩) n c1, .slice (some ⟨g2, 0, none⟩) n c2] w fun e w' => e = .returned (.bool true) ∧ Below w.heap.size w w' := by
  have H1 : Hid (StrsAt w g1 n f) := h1
  have H2 : Hid (StrsAt w g2 n f) := h2
  clear h1 h2
  go_enter Try.func28, Try.ntmps28
  go_wp2_with fail
  go_loopw [5] (fun i wr => ∃ k : Nat, k ≤ n ∧ i = .int .i64 k ∧ Below w.heap.size w wr) (fun i _ => n - (intOf i).toNat)
  case atStart => exact ⟨0, Nat.zero_le _, rfl, Below.refl _ _⟩
  case round =>
    obtain ⟨k, hk, rfl, hnx⟩ := hrel
    by_cases hlt : k < n
    · have a0 := ((H1.out.below hnx hb1) k hlt).1
      have d0 := ((H2.out.below hnx hb2) k hlt).1
      have i0 : (0 : Int) ≤ (k : Int) := by omega
      have i1 : (k : Int) < (n : Int) := by omega
      go_wp2_with fail
      go_region_held3 (fun w' => w'.cell? ⟨g1, k, none⟩ = some (.string (f k)) ∧ w'.cell? ⟨g2, k, none⟩ = some (.string (f k))) (exact ⟨a0, d0⟩) (fail)
      go_wp2
      go_roundw
      case rel => exact ⟨k + 1, by omega, by go_num, hnx.drew⟩
      case measure => simp [intOf]; omega
    · go_wp2
      go_ret
      exact ⟨rfl, hnx⟩

set_option maxHeartbeats 400000 in
theorem eqStringS_none (a1 a2 : Option Addr) (c1 c2 : Nat) (w : World) :
    Calls Try.prog 28 #[.slice a1 0 c1, .slice a2 0 c2] w fun e w' => e = .returned (.bool true) ∧ Below w.heap.size w w' := by
  go_enter Try.func28, Try.ntmps28
  go_wp2
  go_rounds 1
  go_ret
  exact ⟨rfl, by go_grown⟩

theorem eqStringS_any (v1 v2 : Value) (g1 g2 n : Nat) (f : Nat → ByteArray) (w : World) (h1 : OwnS w g1 v1 n f) (h2 : OwnS w g2 v2 n f) :
    Calls Try.prog 28 #[v1, v2] w fun e w' => e = .returned (.bool true) ∧ Below w.heap.size w w' := by
  obtain ⟨a1, c1, rfl, hn, h1⟩ := h1
  obtain ⟨a2, c2, rfl, _, h2⟩ := h2
  rcases h1 with rfl | ⟨rfl, q1, h1⟩
  · exact eqStringS_none a1 a2 c1 c2 w
  · rcases h2 with rfl | ⟨rfl, q2, h2⟩
    · exact eqStringS_none _ a2 c1 c2 w
    · exact eqStringS_some g1 c1 g2 c2 n f w (by omega) q1 q2 h1 h2

end Go.Proofs.Ytmiofccmimhabaa
