/- The program's order of nodes and of rows of nodes. -/
import Derived.Test.YtdahlecehencpaaDoorLib
import Derived.Test.YtdahlecehencpaaDoorBase
import Derived.Test.YtdahlecehencpaaDoorTrCmp
import Derived.Deep.RegionHeld3
import Derived.Deep.DeepFit
namespace Go.Proofs.YtdahlecehencpaaDoor
open Go.RowKit
set_option linter.unusedVariables false

theorem cmpInt_is (x y : Int) : Lib.compareInt x y = intCmp x y := by
  unfold Lib.compareInt intCmp
  rfl

def orL : List Int → Int
  | [] => 0
  | a :: l => or2 a (orL l)
theorem orL_five (a b c d e : Int) : orL [a, b, c, d, e] = or2 a (or2 b (or2 c (or2 d e))) := by
  have : or2 e 0 = e := by unfold or2; split <;> simp_all
  simp [orL, this]

set_option maxRecDepth 100000 in
set_option maxHeartbeats 1000000 in
theorem cmpOr_any (bk c : Nat) (l : List Int) (w : World) (hl : l.length ≤ 100) (hcells : ∀ j, j < l.length → w.cell? ⟨bk, j, none⟩ = some (.int .i64 (l.getD j 0))) :
    Calls Tryd.prog 115 #[.slice (some ⟨bk, 0, none⟩) l.length c] w fun e w' => e = .returned (.int .i64 (orL l)) ∧ w' = w := by
  have HC : Hid (∀ j, j < l.length → w.cell? ⟨bk, j, none⟩ = some (.int .i64 (l.getD j 0))) := hcells
  clear hcells
  go_enter Tryd.func115, Tryd.ntmps115
  go_wp2_with fail
  go_loopw [8] (fun i wr => ∃ m : Nat, m ≤ l.length ∧ i = .int .i64 m ∧ Hid (orL l = orL (l.drop m)) ∧ wr = w) (fun i _ => l.length - (intOf i).toNat)
  case atStart => exact ⟨0, Nat.zero_le _, rfl, rfl, rfl⟩
  case round =>
    obtain ⟨m, hm, rfl, HO, rfl⟩ := hrel
    by_cases hlt : m < l.length
    · have hc := HC.out m hlt
      have hd : l.drop m = l.getD m 0 :: l.drop (m + 1) := by
        rw [List.drop_eq_getElem_cons hlt, List.getD_eq_getElem?_getD, List.getElem?_eq_getElem hlt]
        rfl
      obtain ⟨x, hx⟩ : ∃ x, x = l.getD m 0 := ⟨_, rfl⟩
      rw [← hx] at hc hd
      have j0 : (0 : Int) ≤ (m : Int) := by omega
      have j1 : (m : Int) < (l.length : Int) := by omega
      by_cases h0 : x = 0
      · have HO2 : Hid (orL l = orL (l.drop (m + 1))) := by
          show _ = _
          rw [HO.out, hd, orL, h0, or2_zero]
        subst h0
        clear hd hx
        go_wp2_with fail
        go_roundw
        case rel => exact ⟨m + 1, by omega, by go_num, HO2, by trivial⟩
        case measure => simp [intOf]; omega
      · have HO2 : Hid (orL l = x) := by
          show _ = _
          rw [HO.out, hd, orL, or2_ne h0]
        have hb : (x == 0) = false := by simpa using h0
        clear hd hx
        go_wp2_with fail
        go_ret
        exact ⟨by rw [HO2.out]; rfl, rfl⟩
    · obtain rfl : m = l.length := by omega
      go_wp2_with fail
      go_ret
      exact ⟨by rw [HO.out, List.drop_length]; rfl, rfl⟩

theorem five_ints (W : World) (a b c d e : Int) (T : TypeId) (H : Nat) (hH : W.heap.size = H) : ∀ j, j < [a, b, c, d, e].length → (W.alloc (.cells #[.int .i64 a, .int .i64 b, .int .i64 c, .int .i64 d, .int .i64 e] T)).drew.cell? ⟨H, j, none⟩ = some (.int .i64 ([a, b, c, d, e].getD j 0)) := by
  intro j hj
  subst hH
  show (W.alloc (.cells #[.int .i64 a, .int .i64 b, .int .i64 c, .int .i64 d, .int .i64 e] T)).cell? _ = _
  rw [World.cell?_alloc_new]
  match j, hj with
  | 0, _ => rfl
  | 1, _ => rfl
  | 2, _ => rfl
  | 3, _ => rfl
  | 4, _ => rfl

set_option maxRecDepth 100000 in
set_option maxHeartbeats 4000000 in
theorem compareNodes_any (x y : Nd) (w : World) :
    Calls Tryd.prog 83 #[.agg #[.int .i64 x.kind, .int .i64 x.num, .string x.text, .string x.name, .int .i64 x.up], .agg #[.int .i64 y.kind, .int .i64 y.num, .string y.text, .string y.name, .int .i64 y.up]] w fun e w' => e = .returned (.int .i64 (ndCmp x y)) ∧ Below w.heap.size w w' := by
  have HR : Hid (orL [Lib.compareInt x.up y.up, Lib.compareBytes x.name.data.toList y.name.data.toList, Lib.compareInt x.kind y.kind, Lib.compareInt x.num y.num, Lib.compareBytes x.text.data.toList y.text.data.toList] = ndCmp x y) := by
    show _ = _
    rw [orL_five, cmpInt_is, cmpInt_is, cmpInt_is]
    rfl
  have z0 : w.heap.size < w.heap.size + 1 + 1 := by omega
  obtain ⟨W, hW⟩ : ∃ W, W = (w.alloc (.cells #[.int .i64 x.kind, .int .i64 x.num, .string x.text, .string x.name, .int .i64 x.up] 69)).alloc (.cells #[.int .i64 y.kind, .int .i64 y.num, .string y.text, .string y.name, .int .i64 y.up] 69) := ⟨_, rfl⟩
  have a0 : W.cell? ⟨w.heap.size, 0, none⟩ = some (.int .i64 x.kind) ∧ W.cell? ⟨w.heap.size, 1, none⟩ = some (.int .i64 x.num) ∧ W.cell? ⟨w.heap.size, 2, none⟩ = some (.string x.text) ∧ W.cell? ⟨w.heap.size, 3, none⟩ = some (.string x.name) ∧ W.cell? ⟨w.heap.size, 4, none⟩ = some (.int .i64 x.up) ∧
      W.cell? ⟨w.heap.size + 1, 0, none⟩ = some (.int .i64 y.kind) ∧ W.cell? ⟨w.heap.size + 1, 1, none⟩ = some (.int .i64 y.num) ∧ W.cell? ⟨w.heap.size + 1, 2, none⟩ = some (.string y.text) ∧ W.cell? ⟨w.heap.size + 1, 3, none⟩ = some (.string y.name) ∧ W.cell? ⟨w.heap.size + 1, 4, none⟩ = some (.int .i64 y.up) := by
    rw [hW]
    simp [go_sem]
  have hWz : W.heap.size = w.heap.size + 2 := by rw [hW]; simp
  have HBW : Hid (Below w.heap.size w W) := by rw [hW]; exact ((Below.refl _ _).alloc (Nat.le_refl _) _).alloc (by simp) _
  have HA : Hid (∀ o, (W.alloc o).cell? ⟨w.heap.size, 0, none⟩ = some (.int .i64 x.kind) ∧ (W.alloc o).cell? ⟨w.heap.size, 1, none⟩ = some (.int .i64 x.num) ∧ (W.alloc o).cell? ⟨w.heap.size, 2, none⟩ = some (.string x.text) ∧ (W.alloc o).cell? ⟨w.heap.size, 3, none⟩ = some (.string x.name) ∧ (W.alloc o).cell? ⟨w.heap.size, 4, none⟩ = some (.int .i64 x.up) ∧
      (W.alloc o).cell? ⟨w.heap.size + 1, 0, none⟩ = some (.int .i64 y.kind) ∧ (W.alloc o).cell? ⟨w.heap.size + 1, 1, none⟩ = some (.int .i64 y.num) ∧ (W.alloc o).cell? ⟨w.heap.size + 1, 2, none⟩ = some (.string y.text) ∧ (W.alloc o).cell? ⟨w.heap.size + 1, 3, none⟩ = some (.string y.name) ∧ (W.alloc o).cell? ⟨w.heap.size + 1, 4, none⟩ = some (.int .i64 y.up)) := fun o => by
    have e : ∀ x, (W.alloc o).cell? ⟨w.heap.size, x, none⟩ = W.cell? ⟨w.heap.size, x, none⟩ := fun x => World.cell?_of_block (heap_alloc_old _ _ (by show w.heap.size < _; omega))
    have e' : ∀ x, (W.alloc o).cell? ⟨w.heap.size + 1, x, none⟩ = W.cell? ⟨w.heap.size + 1, x, none⟩ := fun x => World.cell?_of_block (heap_alloc_old _ _ (by show w.heap.size + 1 < _; omega))
    simp only [e, e']
    exact a0
  have H0 : Hid (W.cell? ⟨w.heap.size, 0, none⟩ = some (.int .i64 x.kind) ∧ W.cell? ⟨w.heap.size, 1, none⟩ = some (.int .i64 x.num) ∧ W.cell? ⟨w.heap.size, 2, none⟩ = some (.string x.text) ∧ W.cell? ⟨w.heap.size, 3, none⟩ = some (.string x.name) ∧ W.cell? ⟨w.heap.size, 4, none⟩ = some (.int .i64 x.up) ∧
      W.cell? ⟨w.heap.size + 1, 0, none⟩ = some (.int .i64 y.kind) ∧ W.cell? ⟨w.heap.size + 1, 1, none⟩ = some (.int .i64 y.num) ∧ W.cell? ⟨w.heap.size + 1, 2, none⟩ = some (.string y.text) ∧ W.cell? ⟨w.heap.size + 1, 3, none⟩ = some (.string y.name) ∧ W.cell? ⟨w.heap.size + 1, 4, none⟩ = some (.int .i64 y.up)) := a0
  clear a0
  have HW : Hid (W = (w.alloc (.cells #[.int .i64 x.kind, .int .i64 x.num, .string x.text, .string x.name, .int .i64 x.up] 69)).alloc (.cells #[.int .i64 y.kind, .int .i64 y.num, .string y.text, .string y.name, .int .i64 y.up] 69)) := hW
  clear hW
  go_enter Tryd.func83, Tryd.ntmps83
  go_wp2_with fail
  rw [← HW.out]
  go_region_held3 (fun w' => w'.cell? ⟨w.heap.size, 0, none⟩ = some (.int .i64 x.kind) ∧ w'.cell? ⟨w.heap.size, 1, none⟩ = some (.int .i64 x.num) ∧ w'.cell? ⟨w.heap.size, 2, none⟩ = some (.string x.text) ∧ w'.cell? ⟨w.heap.size, 3, none⟩ = some (.string x.name) ∧ w'.cell? ⟨w.heap.size, 4, none⟩ = some (.int .i64 x.up) ∧
      w'.cell? ⟨w.heap.size + 1, 0, none⟩ = some (.int .i64 y.kind) ∧ w'.cell? ⟨w.heap.size + 1, 1, none⟩ = some (.int .i64 y.num) ∧ w'.cell? ⟨w.heap.size + 1, 2, none⟩ = some (.string y.text) ∧ w'.cell? ⟨w.heap.size + 1, 3, none⟩ = some (.string y.name) ∧ w'.cell? ⟨w.heap.size + 1, 4, none⟩ = some (.int .i64 y.up)) (first | exact H0.out | exact HA.out _)
    (first | (go_at_call 116; refine (Tryd.cmp_Compare_int _ _ _).mono ?_; rintro e w' ⟨rfl, rfl⟩) | (go_at_call 117; refine (Tryd.strings_Compare _ _ _).mono ?_; rintro e w' ⟨rfl, rfl⟩) | (go_at_call 115; go_fit (cmpOr_any (w.heap.size + 2) 5 [Lib.compareInt x.up y.up, Lib.compareBytes x.name.data.toList y.name.data.toList, Lib.compareInt x.kind y.kind, Lib.compareInt x.num y.num, Lib.compareBytes x.text.data.toList y.text.data.toList] _ (by simp) (five_ints W _ _ _ _ _ _ _ hWz)); rintro e w' ⟨rfl, rfl⟩))
  go_wp2_with fail
  go_ret
  exact ⟨by rw [HR.out]; rfl, HBW.out.trans (((Below.refl _ _).alloc (by omega) _).drew)⟩

end Go.Proofs.YtdahlecehencpaaDoor
