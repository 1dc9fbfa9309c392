/- A text looked for by halving among those that rise: slices.BinarySearchFunc. No condition but that they rise. -/
import Derived.Test.YtkboblfjchkedaaSxL
namespace Go.Proofs.Ytkboblfjchkedaa
open Go.RowKit
set_option linter.unusedVariables false

set_option maxRecDepth 100000 in
set_option maxHeartbeats 4000000 in
theorem searchTx_k (u : List (List UInt8)) (x : List UInt8) (a : Option Addr) (n c : Nat) (S : Nat → Prop) (w : World) (h : (kRow kTx).is false w S [.slice a n c] u) (hr : Ris bl u) (hn30 : n ≤ 2 ^ 30) :
    Calls Try.prog 75 #[.slice a n c, encStr x, .func (.func 58) #[] #[]] w fun e w' => ∃ (k : Nat) (b : Bool), e = .returned (.tuple #[.int .i64 k, .bool b]) ∧ (x ∈ u → u[k]? = some x) ∧ Below w.heap.size w w' := by
  have HN : Hid (n = u.length) := row_len h
  have HR : Hid (Ris bl u) := hr
  have HRW : Hid ((kRow kTx).is false w S [.slice a n c] u) := h
  have HC : Hid (∀ y W, Calls Try.prog 58 #[encStr y, encStr x] W fun e w' => e = .returned (.int .i64 (Lib.compareBytes y x)) ∧ w' = W) := fun y W => Try.strings_Compare ⟨y.toArray⟩ ⟨x.toArray⟩ W
  obtain ⟨X, hX⟩ : ∃ X, X = encStr x := ⟨_, rfl⟩
  rw [← hX] at HC ⊢
  clear h hr hX
  go_enter Try.func75, Try.ntmps75
  go_wp2_with fail
  go_loopw [9, 10] (fun lv hv wr => ∃ lo hi : Nat, lv = .int .i64 lo ∧ hv = .int .i64 hi ∧ lo ≤ hi ∧ hi ≤ n ∧ Hid (Nr bl x u lo hi) ∧ Below w.heap.size w wr) (fun lv hv _ => (intOf hv).toNat - (intOf lv).toNat)
  case atStart => exact ⟨0, n, rfl, rfl, Nat.zero_le _, Nat.le_refl _, by show Nr _ _ _ _ _; rw [HN.out]; exact Nr.start _ _ _, Below.refl _ _⟩
  case round =>
    obtain ⟨lo, hi, rfl, rfl, hlh, hin, HI, hnx⟩ := hrel
    have zw := hnx.size
    by_cases hlt : lo < hi
    · obtain ⟨m, hm⟩ : ∃ m, m = (lo + hi) / 2 := ⟨_, rfl⟩
      have em : ((lo : Int) + (hi : Int)) / 2 = (m : Int) := by omega
      have hmn : m < n := by omega
      have hm1 : lo ≤ m := by omega
      have hm2 : m < hi := by omega
      obtain ⟨y, hy⟩ : ∃ y, u[m]? = some y := ⟨_, List.getElem?_eq_getElem (by rw [← HN.out]; exact hmn)⟩
      obtain ⟨b, off, B, C, rfl, hb, _⟩ := row_at (Kd.below HRW.out hnx) hy
      have A0 : wr.cell? ⟨b, off + m, none⟩ = some (encStr y) := by
        have := kTx_plain.cell (Kd.below HRW.out hnx) hy (j := 0) rfl
        rw [show off + m * kTx.wd + 0 = off + m by show off + m * 1 + 0 = _; omega] at this
        exact this
      obtain ⟨Y, hY⟩ : ∃ Y, Y = encStr y := ⟨_, rfl⟩
      have hcl := HC.out y wr
      rw [← hY] at A0 hcl
      have i0 : (0 : Int) ≤ (m : Int) := by omega
      have i1 : (m : Int) < (n : Int) := by omega
      have HX : Hid (u[m]? = some y) := hy
      have hcz := cmpT_neg y x
      clear hy hm hY
      cases hw : bl y x with
      | true =>
        have c1 : Lib.compareBytes y x < 0 := hcz.2 hw
        have HI2 : Hid (Nr bl x u (m + 1) hi) := HI.out.up bl_sto HR.out HX.out hw
        clear hw hcz HI
        generalize Lib.compareBytes y x = z at *
        go_wp2_with fail
        refine hcl.mono ?_
        rintro e w1 ⟨rfl, rfl⟩
        go_wp2
        go_roundw
        case rel => exact ⟨m + 1, hi, by rfl, rfl, by omega, hin, HI2, hnx⟩
        case measure => simp only [intOf]; omega
      | false =>
        have c1 : ¬ Lib.compareBytes y x < 0 := fun h => by rw [hcz.1 h] at hw; cases hw
        have HI2 : Hid (Nr bl x u lo m) := HI.out.down bl_sto HR.out HX.out hw
        clear hw hcz HI
        generalize Lib.compareBytes y x = z at *
        go_wp2_with fail
        refine hcl.mono ?_
        rintro e w1 ⟨rfl, rfl⟩
        go_wp2
        go_roundw
        case rel => exact ⟨lo, m, rfl, rfl, by omega, by omega, HI2, hnx⟩
        case measure => simp only [intOf]; omega
    · obtain rfl : hi = lo := by omega
      have HF : Hid (x ∈ u → u[hi]? = some x) := fun hx => HI.out.found bl_sto HR.out hx
      by_cases hl' : hi < n
      · obtain ⟨y, hy⟩ : ∃ y, u[hi]? = some y := ⟨_, List.getElem?_eq_getElem (by rw [← HN.out]; exact hl')⟩
        obtain ⟨b, off, B, C, rfl, hb, _⟩ := row_at (Kd.below HRW.out hnx) hy
        have A0 : wr.cell? ⟨b, off + hi, none⟩ = some (encStr y) := by
          have := kTx_plain.cell (Kd.below HRW.out hnx) hy (j := 0) rfl
          rw [show off + hi * kTx.wd + 0 = off + hi by show off + hi * 1 + 0 = _; omega] at this
          exact this
        obtain ⟨Y, hY⟩ : ∃ Y, Y = encStr y := ⟨_, rfl⟩
        have hcl := HC.out y wr
        rw [← hY] at A0 hcl
        have i0 : (0 : Int) ≤ (hi : Int) := by omega
        have i1 : (hi : Int) < (n : Int) := by omega
        clear hy hY
        generalize Lib.compareBytes y x = z at *
        go_wp2_with fail
        refine hcl.mono ?_
        rintro e w1 ⟨rfl, rfl⟩
        go_wp2
        refine bodyPost_ret (v := .tuple #[.int .i64 (hi : Int), .bool (z == 0)]) (by simp [results, Try.results75, go_sem]) rfl ?_
        exact ⟨hi, _, rfl, HF.out, hnx⟩
      · have i1 : ¬ (hi : Int) < (n : Int) := by omega
        go_wp2
        refine bodyPost_ret (v := .tuple #[.int .i64 (hi : Int), .bool false]) (by simp [results, Try.results75, go_sem]) rfl ?_
        exact ⟨hi, .inl rfl, HF.out, hnx⟩
end Go.Proofs.Ytkboblfjchkedaa
