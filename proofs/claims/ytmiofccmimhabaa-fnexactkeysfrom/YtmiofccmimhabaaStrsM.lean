/- A list of texts that is marked, and held against its marks. No condition. -/
import Derived.Test.YtmiofccmimhabaaStrs
namespace Go.Proofs.Ytmiofccmimhabaa
open Go.RowKit
set_option linter.unusedVariables false

set_option maxHeartbeats 1000000 in
theorem markStringS_some (g c n : Nat) (f : Nat → ByteArray) (k0 : Int) (w : World) (hg : g < w.heap.size) (hn : n ≤ 2 ^ 30) (hk0 : 0 < k0) (hk1 : k0 ≤ 2 ^ 30) (h : StrsAt w g n f) :
    Calls Try.prog 29 #[.slice (some ⟨g, 0, none⟩) n c, .int .i64 k0] w fun e w' => e = .returned (.int .i64 (k0 + n)) ∧ BelowBut w.heap.size g w w' ∧ StrsAt w' g n (fun i => mtext (k0 + i)) := by
  have H : Hid (StrsAt w g n f) := h
  clear h
  go_enter Try.func29, Try.ntmps29
  go_wp2_with fail
  go_loopw [1, 5] (fun q i wr => ∃ k : Nat, k ≤ n ∧ i = .int .i64 k ∧ q = .int .i64 (k0 + k) ∧ BelowBut w.heap.size g w wr ∧ Hid (StrsAt wr g n (fun j => if j < k then mtext (k0 + j) else f j))) (fun _ i _ => n - (intOf i).toNat)
  case atStart => exact ⟨0, Nat.zero_le _, rfl, by simp, BelowBut.refl _ _ _, by show StrsAt _ _ _ _; simpa using H.out⟩
  case round =>
    obtain ⟨k, hk, rfl, rfl, hnx, HI⟩ := hrel
    by_cases hlt : k < n
    · have gs : g < wr.heap.size := Nat.lt_of_lt_of_le hg hnx.size
      have i0 : (0 : Int) ≤ (k : Int) := by omega
      have i1 : (k : Int) < (n : Int) := by omega
      have l0 := (HI.out k hlt).1
      have l1 := (HI.out k hlt).2
      simp only [Nat.lt_irrefl, if_false] at l0
      go_wp2_with fail
      refine (markText_any _ _ (by omega) (by omega)).mono ?_
      rintro e w1 ⟨rfl, hb1⟩
      have HI1 : Hid (StrsAt w1 g n (fun j => if j < k then mtext (k0 + j) else f j)) := HI.out.below hb1 gs
      have m0 := (HI1.out k hlt).1
      have m1 := (HI1.out k hlt).2
      simp only [Nat.lt_irrefl, if_false] at m0
      have hnx1 : BelowBut w.heap.size g w w1 := hnx.trans ((BelowBut.of hb1).mono hnx.size)
      clear hb1 l0 l1 hnx
      go_wp2
      have r1 := (HI1.out).set hlt (mtext (k0 + k))
      go_roundw
      case rel =>
        refine ⟨k + 1, by omega, by go_num, by go_num, hnx1.trans (BelowBut.setCell _ _ _), r1.congr fun i hi => ?_⟩
        by_cases e : i = k
        · subst e; simp
        · by_cases e2 : i < k
          · simp [e, e2, Nat.lt_succ_of_lt e2]
          · have e3 : ¬ i < k + 1 := by omega
            simp [e, e2, e3]
      case measure => simp [intOf]; omega
    · go_wp2
      go_ret
      obtain rfl : k = n := by omega
      exact ⟨rfl, hnx, HI.out.congr fun i hi => by rw [if_pos hi]⟩

set_option maxHeartbeats 400000 in
theorem markStringS_none (a : Option Addr) (c : Nat) (k0 : Int) (w : World) :
    Calls Try.prog 29 #[.slice a 0 c, .int .i64 k0] w fun e w' => e = .returned (.int .i64 k0) ∧ w' = w := by
  go_enter Try.func29, Try.ntmps29
  go_wp2
  go_rounds 1
  go_ret
  exact ⟨rfl, rfl⟩

theorem markStringS_any (v : Value) (g n : Nat) (f : Nat → ByteArray) (w : World) (h : OwnS w g v n f) :
    Calls Try.prog 29 #[v, .int .i64 1] w fun e w' => e = .returned (.int .i64 (1 + n)) ∧ BelowBut w.heap.size g w w' ∧ OwnS w' g v n (fun i => mtext (1 + i)) := by
  obtain ⟨a, c, rfl, hn, rfl | ⟨rfl, hlt, hat⟩⟩ := h
  · refine (markStringS_none a c 1 w).mono ?_
    rintro e w1 ⟨rfl, rfl⟩
    exact ⟨by simp, BelowBut.refl _ _ _, a, c, rfl, hn, .inl rfl⟩
  · refine (markStringS_some g c n f 1 w hlt hn (by omega) (by omega) hat).mono ?_
    rintro e w1 ⟨rfl, hb, hi⟩
    exact ⟨rfl, hb, _, c, rfl, hn, .inr ⟨rfl, Nat.lt_of_lt_of_le hlt hb.size, hi⟩⟩

set_option maxHeartbeats 1000000 in
theorem heldStringS_some (g c n : Nat) (k0 : Int) (w : World) (hg : g < w.heap.size) (hn : n ≤ 2 ^ 30) (hk0 : 0 < k0) (hk1 : k0 ≤ 2 ^ 30) (h : StrsAt w g n (fun i => mtext (k0 + i))) :
    Calls Try.prog 30 #[.slice (some ⟨g, 0, none⟩) n c, .int .i64 k0] w fun e w' => e = .returned (.int .i64 (k0 + n)) ∧ Below w.heap.size w w' := by
  have H : Hid (StrsAt w g n (fun i => mtext (k0 + i))) := h
  clear h
  go_enter Try.func30, Try.ntmps30
  go_wp2_with fail
  go_loopw [1, 5] (fun q i wr => ∃ k : Nat, k ≤ n ∧ i = .int .i64 k ∧ q = .int .i64 (k0 + k) ∧ Below w.heap.size w wr) (fun _ i _ => n - (intOf i).toNat)
  case atStart => exact ⟨0, Nat.zero_le _, rfl, by simp, Below.refl _ _⟩
  case round =>
    obtain ⟨k, hk, rfl, rfl, hnx⟩ := hrel
    by_cases hlt : k < n
    · have l0 := ((H.out.below hnx hg) k hlt).1
      have gs : g < wr.heap.size := Nat.lt_of_lt_of_le hg hnx.size
      have i0 : (0 : Int) ≤ (k : Int) := by omega
      have i1 : (k : Int) < (n : Int) := by omega
      go_wp2_with fail
      go_region_held3 (fun w' => w'.cell? ⟨g, k, none⟩ = some (.string (mtext (k0 + k)))) (first | exact l0 | exact (hc1 _ _ gs).trans l0)
        (first | (go_at_call 52; refine (markText_any _ _ (by omega) (by omega)).mono ?_; rintro e w1 ⟨rfl, hb1⟩; obtain ⟨hc1, hf1⟩ := bcell hb1))
      have hnx1 : Below w.heap.size w w1 := hnx.drew.trans (hb1.mono hnx.size)
      clear hb1
      go_wp2
      go_roundw
      case rel => exact ⟨k + 1, by omega, by go_num, by go_num, hnx1⟩
      case measure => simp [intOf]; omega
    · go_wp2
      go_ret
      obtain rfl : k = n := by omega
      exact ⟨rfl, hnx⟩

set_option maxHeartbeats 400000 in
theorem heldStringS_none (a : Option Addr) (c : Nat) (k0 : Int) (w : World) :
    Calls Try.prog 30 #[.slice a 0 c, .int .i64 k0] w fun e w' => e = .returned (.int .i64 k0) ∧ w' = w := by
  go_enter Try.func30, Try.ntmps30
  go_wp2
  go_rounds 1
  go_ret
  exact ⟨rfl, rfl⟩

theorem heldStringS_any (v : Value) (g n : Nat) (w : World) (h : OwnS w g v n (fun i => mtext (1 + i))) :
    Calls Try.prog 30 #[v, .int .i64 1] w fun e w' => e = .returned (.int .i64 (1 + n)) ∧ Below w.heap.size w w' := by
  obtain ⟨a, c, rfl, hn, rfl | ⟨rfl, hlt, hat⟩⟩ := h
  · refine (heldStringS_none a c 1 w).mono ?_
    rintro e w1 ⟨rfl, rfl⟩
    exact ⟨by simp, Below.refl _ _⟩
  · exact heldStringS_some g c n 1 w hlt hn (by omega) (by omega) hat

end Go.Proofs.Ytmiofccmimhabaa
