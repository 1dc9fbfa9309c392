/- Lists of postings: what the specification asks of them. No condition. -/
import Derived.Test.YtikgcgfigcolmaaPoM
namespace Go.Proofs.Ytikgcgfigcolmaa
open Go.RowKit
set_option linter.unusedVariables false

set_option maxRecDepth 100000 in
set_option maxHeartbeats 4000000 in
theorem l10List_k (l : List DPosting) (a : Option Addr) (n c : Nat) (S : Nat → Prop) (texts tv : Int) (w : World) (h : (kRow kPosting).is false w S [.slice a n c] l) (htv : IntKind.wrap .i64 (texts - 1) = tv) :
    Calls Try.prog 58 #[.slice a n c, .int .i64 texts] w fun e w' => e = .returned (.bool (postSp tv true 0 l)) ∧ Below w.heap.size w w' := by
  have hnl := row_len h
  have hmx : n ≤ 9223372036854775807 := by obtain ⟨_, _, _, h, _⟩ := row_form h; rw [hnl]; exact h
  have HNL : Hid (n = l.length) := hnl
  have H : Hid ((kRow kPosting).is false w S [.slice a n c] l) := h
  obtain ⟨q, hq⟩ : ∃ q, q = postSp tv true 0 l := ⟨_, rfl⟩
  have HQ : Hid (q = postSp tv true 0 l) := hq
  rw [← hq]
  clear h hnl hq
  go_enter Try.func58, Try.ntmps58
  go_wp2_with fail
  go_loopw [9] (fun iv wr => ∃ (k : Nat) (last : Int), k ≤ n ∧ iv = .int .i64 k ∧ Hid (postSp tv (decide (k = 0)) last (l.drop k) = q) ∧ Hid (∀ t m, 0 < k → l[k - 1]? = some (t, m) → t = last) ∧ Below w.heap.size w wr) (fun iv _ => n - (intOf iv).toNat)
  case atStart => exact ⟨0, 0, Nat.zero_le _, rfl, HQ.out.symm, fun t m h => by omega, Below.refl _ _⟩
  case round =>
    obtain ⟨k, last, hk, rfl, HI, HP, hnx⟩ := hrel
    by_cases hlt : k < n
    · obtain ⟨x, hx⟩ : ∃ x, l[k]? = some x := ⟨_, List.getElem?_eq_getElem (by rw [← HNL.out]; exact hlt)⟩
      have hrow := Kd.below H.out hnx
      obtain ⟨b, off, B, C, rfl, hb, _, hi, _, hc⟩ := row_at hrow hx
      obtain ⟨t, m⟩ := x
      obtain ⟨rfl, g0, g1⟩ := kPosting_open hi
      have A0 : wr.cell? ⟨b, off + k * 2, none⟩ = some (.int .i64 t) := (hc 0 _ rfl).1
      have A1 : wr.cell? ⟨b, off + k * 2 + 1, none⟩ = some (.int .i64 m) := (hc 1 _ rfl).1
      have i0 : (0 : Int) ≤ (k : Int) := by omega
      have i1 : (k : Int) < (n : Int) := by omega
      have hdr : l.drop k = (t, m) :: l.drop (k + 1) := by
        rw [List.drop_eq_getElem_cons (by rw [← HNL.out]; exact hlt)]
        congr 1
        exact (List.getElem?_eq_some_iff.1 hx).2
      have HI1 : Hid ((decide ((0 ≤ t ∧ t ≤ tv) ∧ (1 ≤ m ∧ m ≤ 100) ∧ (decide (k = 0) = true ∨ last < t)) && postSp tv false t (l.drop (k + 1))) = q) := by have := HI.out; rw [hdr, postSp] at this; exact this
      have HX : Hid (l[k]? = some (t, m)) := hx
      have zw := hnx.size
      have HAL : Hid (∀ o nq, Below w.heap.size w ((wr.alloc o).drewN nq)) := fun o nq => by
        have h1 := hnx.alloc zw o
        exact ⟨h1.os, h1.tape, h1.output, h1.size, h1.block⟩
      clear hc hi hx hdr HI
      by_cases c1 : 0 ≤ t ∧ t ≤ tv
      · have q1 : decide (0 ≤ t ∧ t ≤ tv) = true := decide_eq_true c1
        have HL1 : Hid (∀ W, Calls Try.prog 59 #[.int .i64 t, .int .i64 0, .int .i64 tv] W fun e w' => e = .returned (.bool true) ∧ w' = W) := fun W => l1In_is W q1
        by_cases c2 : 1 ≤ m ∧ m ≤ 100
        · have q2 : decide (1 ≤ m ∧ m ≤ 100) = true := decide_eq_true c2
          have HL2 : Hid (∀ W, Calls Try.prog 59 #[.int .i64 m, .int .i64 1, .int .i64 100] W fun e w' => e = .returned (.bool true) ∧ w' = W) := fun W => l1In_is W q2
          by_cases c3 : k = 0
          · have e3 : decide ((0 : Int) < (k : Int)) = false := by simp; omega
            have e3' : decide (0 < k) = false := by simp; omega
            have HI2 : Hid (postSp tv false t (l.drop (k + 1)) = q) := by have := HI1.out; rw [decide_eq_true (by simp; omega)] at this; exact this
            clear HI1 c1 c2 q1 q2 c3
            go_wp2_with fail
            go_big_quiet (first | (go_at_call_of 59 (Value.int .i64 t); exact Calls.quiet_of_same (HL1.out _)) | (go_at_call_of 59 (Value.int .i64 m); exact Calls.quiet_of_same (HL2.out _)))
            go_wp2
            go_roundw
            case rel => exact ⟨k + 1, t, by omega, by go_num, by rw [decide_eq_false (by omega)]; exact HI2, fun t' m' _ h => by have h1 := HX.out; rw [show k + 1 - 1 = k by omega, h1] at h; cases h; rfl, HAL.out _ _⟩
            case measure => simp [intOf]; omega
          · obtain ⟨ip, hip⟩ : ∃ ip, k = ip + 1 := ⟨k - 1, by omega⟩
            obtain ⟨⟨t', m'⟩, hx'⟩ : ∃ x, l[ip]? = some x := ⟨_, List.getElem?_eq_getElem (by rw [← HNL.out]; omega)⟩
            obtain ⟨b2, off2, B2, C2, e2, hb2, _, hi2, _, hc2⟩ := row_at hrow hx'
            obtain ⟨rfl, rfl⟩ : b = b2 ∧ off = off2 := by simpa using e2
            obtain ⟨rfl, g2, g3⟩ := kPosting_open hi2
            have F0 : wr.cell? ⟨b, off + ip * 2, none⟩ = some (.int .i64 t') := (hc2 0 _ rfl).1
            have hl' : t' = last := HP.out t' m' (by omega) (by rw [hip, show ip + 1 - 1 = ip by omega]; exact hx')
            subst hl'
            have e3' : (0 : Int) < (k : Int) := by omega
            have e3'' : 0 < k := by omega
            have e4' : (k : Int) - 1 = (ip : Int) := by omega
            have e5' : (0 : Int) ≤ (ip : Int) := by omega
            have e6' : (ip : Int) < (n : Int) := by omega
            have HK : Hid (decide (k = 0) = false) := decide_eq_false c3
            clear hip hc2 hi2 hx' e2 c3
            by_cases c4 : t' < t
            · have HI2 : Hid (postSp tv false t (l.drop (k + 1)) = q) := by have := HI1.out; rw [decide_eq_true ⟨c1, c2, .inr c4⟩] at this; exact this
              have c4' : decide (t ≤ t') = false := by simp; omega
              clear HI1 c1 c2 q1 q2 c4
              go_wp2_with fail
              go_big_quiet (first | (go_at_call_of 59 (Value.int .i64 t); exact Calls.quiet_of_same (HL1.out _)) | (go_at_call_of 59 (Value.int .i64 m); exact Calls.quiet_of_same (HL2.out _)))
              go_wp2
              go_roundw
              case rel => exact ⟨k + 1, t, by omega, by go_num, by rw [decide_eq_false (by omega)]; exact HI2, fun t' m' _ h => by have h1 := HX.out; rw [show k + 1 - 1 = k by omega, h1] at h; cases h; rfl, HAL.out _ _⟩
              case measure => simp [intOf]; omega
            · have HF : Hid (q = false) := by have := HI1.out; rw [HK.out, decide_eq_false (by rintro ⟨_, _, h | h⟩; cases h; omega)] at this; exact this.symm
              have c4' : t ≤ t' := by omega
              clear HI1 c1 c2 q1 q2 c4
              go_wp2_with fail
              go_big_quiet (first | (go_at_call_of 59 (Value.int .i64 t); exact Calls.quiet_of_same (HL1.out _)) | (go_at_call_of 59 (Value.int .i64 m); exact Calls.quiet_of_same (HL2.out _)))
              go_wp2
              go_ret
              exact ⟨by rw [HF.out]; rfl, HAL.out _ _⟩
        · have q2 : decide (1 ≤ m ∧ m ≤ 100) = false := decide_eq_false c2
          have HL2 : Hid (∀ W, Calls Try.prog 59 #[.int .i64 m, .int .i64 1, .int .i64 100] W fun e w' => e = .returned (.bool false) ∧ w' = W) := fun W => l1In_is W q2
          have HF : Hid (q = false) := by have := HI1.out; rw [decide_eq_false (fun h => c2 h.2.1)] at this; exact this.symm
          clear HI1 c1 c2 q1 q2
          go_wp2_with fail
          go_big_quiet (first | (go_at_call_of 59 (Value.int .i64 t); exact Calls.quiet_of_same (HL1.out _)) | (go_at_call_of 59 (Value.int .i64 m); exact Calls.quiet_of_same (HL2.out _)))
          go_wp2
          go_ret
          exact ⟨by rw [HF.out]; rfl, HAL.out _ _⟩
      · have q1 : decide (0 ≤ t ∧ t ≤ tv) = false := decide_eq_false c1
        have HL1 : Hid (∀ W, Calls Try.prog 59 #[.int .i64 t, .int .i64 0, .int .i64 tv] W fun e w' => e = .returned (.bool false) ∧ w' = W) := fun W => l1In_is W q1
        have HF : Hid (q = false) := by have := HI1.out; rw [decide_eq_false (fun h => c1 h.1)] at this; exact this.symm
        clear HI1 c1 q1
        go_wp2_with fail
        go_big_quiet ((go_at_call 59; exact Calls.quiet_of_same (HL1.out _)))
        go_wp2
        go_ret
        exact ⟨by rw [HF.out]; rfl, HAL.out _ _⟩
    · have HF : Hid (q = true) := by
        have := HI.out
        rw [show k = l.length by rw [← HNL.out]; omega, List.drop_length, postSp] at this
        exact this.symm
      go_wp2
      go_ret
      exact ⟨by rw [HF.out]; rfl, hnx⟩
end Go.Proofs.Ytikgcgfigcolmaa
