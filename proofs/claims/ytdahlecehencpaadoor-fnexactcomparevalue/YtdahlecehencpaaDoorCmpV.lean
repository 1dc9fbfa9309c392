/- The program's order of values. -/
import Derived.Test.YtdahlecehencpaaDoorCmpI
import Derived.Test.YtdahlecehencpaaDoorGoodOwn
import Derived.Deep.DeepFit
namespace Go.Proofs.YtdahlecehencpaaDoor
open Go.RowKit
set_option linter.unusedVariables false

/-- The nodes from m on. -/
def from_ (N : Nat → Nd) (n m : Nat) : List Nd := (List.range' m (n - m)).map N
theorem from_cons {N : Nat → Nd} {n m : Nat} (h : m < n) : from_ N n m = N m :: from_ N n (m + 1) := by
  unfold from_
  rw [show n - m = (n - (m + 1)) + 1 by omega, List.range'_succ]
  rfl
theorem from_end {N : Nat → Nd} {n m : Nat} (h : n ≤ m) : from_ N n m = [] := by
  unfold from_
  rw [show n - m = 0 by omega]
  rfl
theorem from_zero (N : Nat → Nd) (n : Nat) : from_ N n 0 = (List.range n).map N := by
  unfold from_
  rw [List.range_eq_range', Nat.sub_zero]

set_option maxRecDepth 100000 in
set_option maxHeartbeats 2000000 in
theorem compareFunc_any (b1 o1 c1 n1 b2 o2 c2 n2 : Nat) (N1 N2 : Nat → Nd) (w : World) (hn1 : n1 ≤ 2 ^ 20) (hn2 : n2 ≤ 2 ^ 20) (hb1 : b1 < w.heap.size) (hb2 : b2 < w.heap.size) (h1 : NodesAt w b1 o1 n1 N1) (h2 : NodesAt w b2 o2 n2 N2) :
    Calls Tryd.prog 82 #[.slice (some ⟨b1, o1, none⟩) n1 c1, .slice (some ⟨b2, o2, none⟩) n2 c2, (.func (.func 83) #[] #[])] w fun e w' => e = .returned (.int .i64 (lexN (from_ N1 n1 0) (from_ N2 n2 0))) ∧ Below w.heap.size w w' := by
  have H1 : Hid (NodesAt w b1 o1 n1 N1) := h1
  have H2 : Hid (NodesAt w b2 o2 n2 N2) := h2
  clear h1 h2
  go_enter Tryd.func82, Tryd.ntmps82
  go_wp2_with fail
  go_loopw [13] (fun i wr => ∃ m : Nat, m ≤ n1 ∧ m ≤ n2 ∧ i = .int .i64 m ∧ Hid (lexN (from_ N1 n1 0) (from_ N2 n2 0) = lexN (from_ N1 n1 m) (from_ N2 n2 m)) ∧ Below w.heap.size w wr) (fun i _ => n1 - (intOf i).toNat)
  case atStart => exact ⟨0, Nat.zero_le _, Nat.zero_le _, rfl, rfl, Below.refl _ _⟩
  case round =>
    obtain ⟨m, hm1, hm2, rfl, HL, hnx⟩ := hrel
    have hz := hnx.size
    by_cases hlt : m < n1
    · obtain ⟨a0, a1, a2, a3, a4⟩ := H1.out.below hnx hb1 m hlt
      have j0 : (0 : Int) ≤ (m : Int) := by omega
      have j1 : (m : Int) < (n1 : Int) := by omega
      have hbw1 : b1 < wr.heap.size := by omega
      have hbw2 : b2 < wr.heap.size := by omega
      by_cases hlt2 : m < n2
      · obtain ⟨d0, d1, d2, d3, d4⟩ := H2.out.below hnx hb2 m hlt2
        have j2 : (m : Int) < (n2 : Int) := by omega
        have j3 : ¬ (n2 : Int) ≤ (m : Int) := by omega
        have HS : Hid (lexN (from_ N1 n1 0) (from_ N2 n2 0) = or2 (ndCmp (N1 m) (N2 m)) (lexN (from_ N1 n1 (m + 1)) (from_ N2 n2 (m + 1)))) := by
          show _ = _
          rw [HL.out, from_cons hlt, from_cons hlt2, lexN]
        obtain ⟨C, hC⟩ : ∃ C, C = ndCmp (N1 m) (N2 m) := ⟨_, rfl⟩
        have HC : Hid (C = ndCmp (N1 m) (N2 m)) := hC
        clear hC
        go_wp2_with fail
        refine (compareNodes_any (N1 m) (N2 m) _).mono ?_
        rintro e w2 ⟨rfl, hb2'⟩
        rw [← HC.out]
        rw [← HC.out] at HS
        have HB2 : Hid (Below w.heap.size w w2) := hnx.trans ((((Below.refl _ _).alloc (Nat.le_refl _) _).alloc (by simp) _).mono hz |>.trans (hb2'.mono (by simp; omega)))
        clear hb2'
        by_cases h0 : C = 0
        · subst h0
          rw [or2_zero] at HS
          go_wp2_with fail
          go_roundw
          case rel => exact ⟨m + 1, by omega, by omega, by go_num, HS, HB2.out⟩
          case measure => simp [intOf]; omega
        · have hb : (C == 0) = false := by simpa using h0
          rw [or2_ne h0] at HS
          go_wp2_with fail
          go_ret
          exact ⟨by rw [HS.out]; rfl, HB2.out⟩
      · obtain rfl : m = n2 := by omega
        have HS : Hid (lexN (from_ N1 n1 0) (from_ N2 m 0) = 1) := by
          show _ = _
          rw [HL.out, from_cons hlt, from_end (Nat.le_refl _)]
          rfl
        go_wp2_with fail
        go_ret
        exact ⟨by rw [HS.out]; rfl, hnx.trans (((Below.refl _ _).alloc (Nat.le_refl _) _).mono hz)⟩
    · obtain rfl : m = n1 := by omega
      by_cases hlt2 : m < n2
      · have j2 : (m : Int) < (n2 : Int) := by omega
        have HS : Hid (lexN (from_ N1 m 0) (from_ N2 n2 0) = -1) := by
          show _ = _
          rw [HL.out, from_cons hlt2, from_end (Nat.le_refl _)]
          rfl
        go_wp2_with fail
        go_ret
        exact ⟨by rw [HS.out]; rfl, hnx⟩
      · have j2 : ¬ (m : Int) < (n2 : Int) := by omega
        have HS : Hid (lexN (from_ N1 m 0) (from_ N2 n2 0) = 0) := by
          show _ = _
          rw [HL.out, from_end (Nat.le_refl _), from_end (by omega)]
          rfl
        go_wp2_with fail
        go_ret
        exact ⟨by rw [HS.out]; rfl, hnx⟩

set_option maxRecDepth 100000 in
set_option maxHeartbeats 1000000 in
theorem compareValues_any (b1 o1 c1 n1 b2 o2 c2 n2 : Nat) (N1 N2 : Nat → Nd) (w : World) (hn1 : n1 ≤ 2 ^ 20) (hn2 : n2 ≤ 2 ^ 20) (hb1 : b1 < w.heap.size) (hb2 : b2 < w.heap.size) (h1 : NodesAt w b1 o1 n1 N1) (h2 : NodesAt w b2 o2 n2 N2) :
    Calls Tryd.prog 49 #[.agg #[.slice (some ⟨b1, o1, none⟩) n1 c1], .agg #[.slice (some ⟨b2, o2, none⟩) n2 c2]] w fun e w' => e = .returned (.int .i64 (lexN (from_ N1 n1 0) (from_ N2 n2 0))) ∧ Below w.heap.size w w' := by
  have H1 : Hid (NodesAt w b1 o1 n1 N1) := h1
  have H2 : Hid (NodesAt w b2 o2 n2 N2) := h2
  clear h1 h2
  go_enter Tryd.func49, Tryd.ntmps49
  go_wp2_with fail
  have hb2' : ∀ o o', Below w.heap.size w ((w.alloc o).alloc o') := fun o o' => ((Below.refl _ _).alloc (Nat.le_refl _) o).alloc (by simp) o'
  refine (compareFunc_any b1 o1 c1 n1 b2 o2 c2 n2 N1 N2 _ hn1 hn2 (by simp; omega) (by simp; omega) (H1.out.below (hb2' _ _) hb1) (H2.out.below (hb2' _ _) hb2)).mono ?_
  rintro e w1 ⟨rfl, hb3⟩
  have HB : Hid (Below w.heap.size w w1) := (hb2' _ _).trans (hb3.mono (by simp; omega))
  clear hb3 hb2'
  go_wp2_with fail
  go_ret
  exact ⟨rfl, HB.out⟩

end Go.Proofs.YtdahlecehencpaaDoor
