/- Who stands ahead: the program's comparison of two that are ranked. No condition. -/
import Derived.Test.YtikgcgfigcolmaaRkL
import Derived.Deep.RegionHeld3
import Derived.Deep.DeepFit
namespace Go.Proofs.Ytikgcgfigcolmaa
open Go.RowKit Go.Sort
set_option linter.unusedVariables false

def orR : List Int → Int
  | [] => 0
  | a :: l => if a = 0 then orR l else a

set_option maxRecDepth 100000 in
set_option maxHeartbeats 1000000 in
theorem cmpOr_k (bk c : Nat) (l : List Int) (w : World) (hl : l.length ≤ 100) (hcells : ∀ j, j < l.length → w.cell? ⟨bk, j, none⟩ = some (.int .i64 (l.getD j 0))) :
    Calls Try.prog 111 #[.slice (some ⟨bk, 0, none⟩) l.length c] w fun e w' => e = .returned (.int .i64 (orR l)) ∧ w' = w := by
  have HC : Hid (∀ j, j < l.length → w.cell? ⟨bk, j, none⟩ = some (.int .i64 (l.getD j 0))) := hcells
  clear hcells
  go_enter Try.func111, Try.ntmps111
  go_wp2_with fail
  go_loopw [8] (fun i wr => ∃ m : Nat, m ≤ l.length ∧ i = .int .i64 m ∧ Hid (orR l = orR (l.drop m)) ∧ wr = w) (fun i _ => l.length - (intOf i).toNat)
  case atStart => exact ⟨0, Nat.zero_le _, rfl, rfl, rfl⟩
  case round =>
    obtain ⟨m, hm, rfl, HO, rfl⟩ := hrel
    by_cases hlt : m < l.length
    · have hc := HC.out m hlt
      have hd : l.drop m = l.getD m 0 :: l.drop (m + 1) := by
        rw [List.drop_eq_getElem_cons hlt, List.getD_eq_getElem?_getD, List.getElem?_eq_getElem hlt]
        rfl
      obtain ⟨x, hx⟩ : ∃ x, x = l.getD m 0 := ⟨_, rfl⟩
      rw [← hx] at hc hd
      have j0 : (0 : Int) ≤ (m : Int) := by omega
      have j1 : (m : Int) < (l.length : Int) := by omega
      by_cases h0 : x = 0
      · have HO2 : Hid (orR l = orR (l.drop (m + 1))) := by
          show _ = _
          rw [HO.out, hd, orR, if_pos h0]
        subst h0
        clear hd hx
        go_wp2_with fail
        go_roundw
        case rel => exact ⟨m + 1, by omega, by go_num, HO2, by trivial⟩
        case measure => simp [intOf]; omega
      · have HO2 : Hid (orR l = x) := by
          show _ = _
          rw [HO.out, hd, orR, if_neg h0]
        have hb : (x == 0) = false := by simpa using h0
        clear hd hx
        go_wp2_with fail
        go_ret
        exact ⟨by rw [HO2.out]; rfl, rfl⟩
    · obtain rfl : m = l.length := by omega
      go_wp2_with fail
      go_ret
      exact ⟨by rw [HO.out, List.drop_length]; rfl, rfl⟩

theorem two_ints (W : World) (a b : Int) (T : TypeId) (H : Nat) (hH : W.heap.size = H) : ∀ j, j < [a, b].length → (W.alloc (.cells #[.int .i64 a, .int .i64 b] T)).drew.cell? ⟨H, j, none⟩ = some (.int .i64 ([a, b].getD j 0)) := by
  intro j hj
  subst hH
  show (W.alloc (.cells #[.int .i64 a, .int .i64 b] T)).cell? _ = _
  rw [World.cell?_alloc_new]
  match j, hj with
  | 0, _ => rfl
  | 1, _ => rfl

/-- How two are compared. -/
def rkCmp (x y : DScored) : Int := orR [Lib.compareInt y.2 x.2, Lib.compareInt x.1 y.1]
theorem cmpInt_neg (x y : Int) : Lib.compareInt x y < 0 ↔ x < y := by
  unfold Lib.compareInt
  by_cases h1 : x < y
  · simp [h1]
  · by_cases h2 : y < x <;> simp [h1, h2]
theorem cmpInt_zero (x y : Int) : Lib.compareInt x y = 0 ↔ x = y := by
  unfold Lib.compareInt
  by_cases h1 : x < y
  · simp [h1]; omega
  · by_cases h2 : y < x
    · simp [h1, h2]; omega
    · simp [h1, h2]; omega
theorem rkCmp_neg (x y : DScored) : rkCmp x y < 0 ↔ ahd x y = true := by
  unfold rkCmp ahd
  simp only [orR, decide_eq_true_eq]
  by_cases h : Lib.compareInt y.2 x.2 = 0
  · rw [if_pos h]
    have h' := (cmpInt_zero _ _).1 h
    by_cases k : Lib.compareInt x.1 y.1 = 0
    · rw [if_pos k]
      have := (cmpInt_zero _ _).1 k
      omega
    · rw [if_neg k, cmpInt_neg]
      omega
  · rw [if_neg h, cmpInt_neg]
    have h' : ¬ y.2 = x.2 := fun e => h ((cmpInt_zero _ _).2 e)
    omega
theorem rkCmp_zero (x y : DScored) : rkCmp x y = 0 ↔ x = y := by
  unfold rkCmp
  simp only [orR]
  constructor
  · intro h
    by_cases h1 : Lib.compareInt y.2 x.2 = 0
    · rw [if_pos h1] at h
      by_cases h2 : Lib.compareInt x.1 y.1 = 0
      · exact Prod.ext ((cmpInt_zero _ _).1 h2) ((cmpInt_zero _ _).1 h1).symm
      · rw [if_neg h2] at h; exact absurd h h2
    · rw [if_neg h1] at h; exact absurd h h1
  · rintro rfl
    rw [if_pos ((cmpInt_zero _ _).2 rfl), if_pos ((cmpInt_zero _ _).2 rfl)]

set_option maxRecDepth 100000 in
set_option maxHeartbeats 4000000 in
theorem byRank_g (x y : DScored) (w : World) :
    Calls Try.prog 99 #[.agg #[.int .i64 x.1, .int .i64 x.2], .agg #[.int .i64 y.1, .int .i64 y.2]] w fun e w' => e = .returned (.int .i64 (rkCmp x y)) ∧ ∃ q os', w' = grow (w.drewN q) os' := by
  obtain ⟨i, s⟩ := x
  obtain ⟨j, t⟩ := y
  show Calls Try.prog 99 #[.agg #[.int .i64 i, .int .i64 s], .agg #[.int .i64 j, .int .i64 t]] w _
  have HR : Hid (orR [Lib.compareInt t s, Lib.compareInt i j] = rkCmp (i, s) (j, t)) := rfl
  have z0 : w.heap.size < w.heap.size + 1 + 1 := by omega
  obtain ⟨W, hW⟩ : ∃ W, W = (w.alloc (.cells #[.int .i64 i, .int .i64 s] 60)).alloc (.cells #[.int .i64 j, .int .i64 t] 60) := ⟨_, rfl⟩
  have a0 : W.cell? ⟨w.heap.size, 0, none⟩ = some (.int .i64 i) ∧ W.cell? ⟨w.heap.size, 1, none⟩ = some (.int .i64 s) ∧ W.cell? ⟨w.heap.size + 1, 0, none⟩ = some (.int .i64 j) ∧ W.cell? ⟨w.heap.size + 1, 1, none⟩ = some (.int .i64 t) := by
    rw [hW]
    simp [go_sem]
  have hWz : W.heap.size = w.heap.size + 2 := by rw [hW]; simp
  have HA : Hid (∀ o, (W.alloc o).cell? ⟨w.heap.size, 0, none⟩ = some (.int .i64 i) ∧ (W.alloc o).cell? ⟨w.heap.size, 1, none⟩ = some (.int .i64 s) ∧ (W.alloc o).cell? ⟨w.heap.size + 1, 0, none⟩ = some (.int .i64 j) ∧ (W.alloc o).cell? ⟨w.heap.size + 1, 1, none⟩ = some (.int .i64 t)) := fun o => by
    have e : ∀ x, (W.alloc o).cell? ⟨w.heap.size, x, none⟩ = W.cell? ⟨w.heap.size, x, none⟩ := fun x => World.cell?_of_block (heap_alloc_old _ _ (by show w.heap.size < _; omega))
    have e' : ∀ x, (W.alloc o).cell? ⟨w.heap.size + 1, x, none⟩ = W.cell? ⟨w.heap.size + 1, x, none⟩ := fun x => World.cell?_of_block (heap_alloc_old _ _ (by show w.heap.size + 1 < _; omega))
    simp only [e, e']
    exact a0
  have H0 : Hid (W.cell? ⟨w.heap.size, 0, none⟩ = some (.int .i64 i) ∧ W.cell? ⟨w.heap.size, 1, none⟩ = some (.int .i64 s) ∧ W.cell? ⟨w.heap.size + 1, 0, none⟩ = some (.int .i64 j) ∧ W.cell? ⟨w.heap.size + 1, 1, none⟩ = some (.int .i64 t)) := a0
  clear a0
  have HW : Hid (W = (w.alloc (.cells #[.int .i64 i, .int .i64 s] 60)).alloc (.cells #[.int .i64 j, .int .i64 t] 60)) := hW
  clear hW
  go_enter Try.func99, Try.ntmps99
  go_wp2_with fail
  rw [← HW.out]
  go_region_held3 (fun w' => w'.cell? ⟨w.heap.size, 0, none⟩ = some (.int .i64 i) ∧ w'.cell? ⟨w.heap.size, 1, none⟩ = some (.int .i64 s) ∧ w'.cell? ⟨w.heap.size + 1, 0, none⟩ = some (.int .i64 j) ∧ w'.cell? ⟨w.heap.size + 1, 1, none⟩ = some (.int .i64 t)) (first | exact H0.out | exact HA.out _)
    (first | (go_at_call 112; refine (Try.cmp_Compare_int _ _ _).mono ?_; rintro e w' ⟨rfl, rfl⟩) | (go_at_call 111; go_fit (cmpOr_k (w.heap.size + 2) 2 [Lib.compareInt t s, Lib.compareInt i j] _ (by simp) (two_ints W _ _ _ _ hWz)); rintro e w' ⟨rfl, rfl⟩))
  go_wp2_with fail
  go_ret
  refine ⟨by rw [HR.out]; rfl, 1, #[.cells #[.int .i64 i, .int .i64 s] 60, .cells #[.int .i64 j, .int .i64 t] 60, .cells #[.int .i64 (Lib.compareInt t s), .int .i64 (Lib.compareInt i j)] 3], ?_⟩
  rw [HW.out, alloc_eq_grow, alloc_eq_grow, alloc_eq_grow, grow_grow, grow_grow]
  rfl
theorem grow_below (w : World) (q : Nat) (os : Array Obj) : Below w.heap.size w (grow (w.drewN q) os) :=
  ⟨rfl, rfl, rfl, by rw [size_grow]; exact Nat.le_add_right _ _, fun k hk => by
    show (w.heap ++ os)[k]? = _
    rw [Array.getElem?_append_left hk]⟩
theorem byRank_k (i s j t : Int) (w : World) :
    Calls Try.prog 99 #[.agg #[.int .i64 i, .int .i64 s], .agg #[.int .i64 j, .int .i64 t]] w fun e w' => e = .returned (.int .i64 (rkCmp (i, s) (j, t))) ∧ Below w.heap.size w w' :=
  (byRank_g (i, s) (j, t) w).mono fun _ _ ⟨he, q, os, hw⟩ => ⟨he, hw ▸ grow_below w q os⟩
end Go.Proofs.Ytikgcgfigcolmaa
