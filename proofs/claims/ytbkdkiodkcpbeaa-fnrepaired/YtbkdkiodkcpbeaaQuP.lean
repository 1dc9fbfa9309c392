/- GoodVoting: the specification's parts. No condition but that rows fit in memory. -/
import Derived.Test.YtbkdkiodkcpbeaaQuI
namespace Go.Proofs.Ytbkdkiodkcpbeaa
open Go.RowKit
set_option linter.unusedVariables false

set_option maxRecDepth 100000 in
theorem in1_k (x a b : Int) (w : World) : Calls Try.prog 55 #[.int .i64 x, .int .i64 a, .int .i64 b] w fun e w' => e = .returned (.bool (decide (a ≤ x ∧ x ≤ b))) ∧ w' = w := by
  by_cases h1 : a ≤ x
  · by_cases h2 : x ≤ b
    · go_enter Try.func55, Try.ntmps55
      go_wp2
      go_ret
      exact ⟨by rw [decide_eq_true (by omega)]; rfl, rfl⟩
    · go_enter Try.func55, Try.ntmps55
      go_wp2
      go_ret
      exact ⟨by rw [decide_eq_false (by omega)]; rfl, rfl⟩
  · go_enter Try.func55, Try.ntmps55
    go_wp2
    go_ret
    exact ⟨by rw [decide_eq_false (by omega)]; rfl, rfl⟩
theorem in1_is {x a b : Int} {q : Bool} (w : World) (h : decide (a ≤ x ∧ x ≤ b) = q) : Calls Try.prog 55 #[.int .i64 x, .int .i64 a, .int .i64 b] w fun e w' => e = .returned (.bool q) ∧ w' = w := by
  rw [← h]
  exact in1_k x a b w

set_option maxRecDepth 100000 in
set_option maxHeartbeats 2000000 in
theorem all14_k (l : List DCopy) (a : Option Addr) (n c : Nat) (S : Nat → Prop) (r s : Int) (w : World) (h : (kRow kCopy).is false w S [.slice a n c] l) (h7 : n ≤ 7) (hok : okTil l n = true) :
    Calls Try.prog 56 #[.agg #[.slice a n c, .int .i64 r, .int .i64 s]] w fun e w' => e = .returned (.int .i64 (allW l)) ∧ Below w.heap.size w w' := by
  have HAL : Hid (allW l = ws (fun _ => true) l n) := by show _ = _; unfold allW; rw [← row_len h]
  have H : Hid ((kRow kCopy).is false w S [.slice a n c] l) := h
  have HK : Hid (okTil l n = true) := hok
  clear h hok
  go_enter Try.func56, Try.ntmps56
  go_wp2_with fail
  go_loopw [3, 9] (fun v iv wr => ∃ k : Nat, k ≤ n ∧ iv = .int .i64 k ∧ v = .int .i64 (ws (fun _ => true) l k) ∧ Below w.heap.size w wr) (fun _ iv _ => n - (intOf iv).toNat)
  case atStart => exact ⟨0, Nat.zero_le _, rfl, rfl, below_a1q _ _⟩
  case round =>
    obtain ⟨k, hk, rfl, rfl, hB⟩ := hrel
    have zw := hB.size
    obtain ⟨z, hz⟩ : ∃ z, z = ws (fun _ => true) l k := ⟨_, rfl⟩
    have HZ : Hid (z = ws (fun _ => true) l k) := hz
    obtain ⟨z0, z1⟩ := ws_bd (p := fun _ => true) (okTil_le HK.out hk)
    rw [← hz] at z0 z1 ⊢
    have z2 : z ≤ 70 := by omega
    clear hz z1
    by_cases hlt : k < n
    · obtain ⟨b, o, rfl, hb, j1, j2, j3, A0, A1, A2⟩ := rowC_at (Kd.below H.out hB) hlt
      obtain ⟨q1, q2, _⟩ := cpAt_ok (okTil_at HK.out hlt)
      have HW : Hid (ws (fun _ => true) l (k + 1) = z + (cp l k).1) := by show (if true = true then _ else _) = _; rw [if_pos rfl, HZ.out]
      obtain ⟨d, hd⟩ : ∃ d, d = cp l k := ⟨_, rfl⟩
      rw [← hd] at A0 A1 A2 j1 j2 j3 HW q1 q2
      clear hd
      obtain ⟨d1, d2, d3⟩ := d
      simp only at A0 A1 A2 q1 q2 HW
      have i0 : (k : Int) < (n : Int) := by omega
      have i1 : (0 : Int) ≤ (k : Int) := by omega
      have HB2 : Hid (Below w.heap.size w (wr.alloc (.cells #[.int .i64 d1, .int .i64 d2, .string d3] 40))) := hB.trans ((below_a1q _ _).mono zw)
      go_wp2
      go_roundw
      case rel => exact ⟨k + 1, by omega, by go_num, by rw [HW.out], HB2.out⟩
      case measure => simp [intOf]; omega
    · obtain rfl : k = n := by omega
      have i0 : ¬ (k : Int) < (k : Int) := by omega
      go_wp2
      go_ret
      rw [HAL.out, ← HZ.out]
      exact ⟨rfl, hB⟩
set_option maxRecDepth 100000 in
set_option maxHeartbeats 2000000 in
theorem newest14_k (l : List DCopy) (a : Option Addr) (n c : Nat) (S : Nat → Prop) (r s : Int) (w : World) (h : (kRow kCopy).is false w S [.slice a n c] l) (h7 : n ≤ 7) (hok : okTil l n = true) :
    Calls Try.prog 57 #[.agg #[.slice a n c, .int .i64 r, .int .i64 s]] w fun e w' => e = .returned (.tuple #[.int .i64 (tp l n), .int .i64 (newW l)]) ∧ Below w.heap.size w w' := by
  have HNW : Hid (newW l = ws (fun k => decide ((cp l k).2.1 = tp l n)) l n) := by show _ = _; unfold newW; rw [← row_len h]
  have H : Hid ((kRow kCopy).is false w S [.slice a n c] l) := h
  have HK : Hid (okTil l n = true) := hok
  clear h hok
  go_enter Try.func57, Try.ntmps57
  go_wp2_with fail
  obtain ⟨W0, hW0⟩ : ∃ W, W = w.alloc (.cells #[.slice a n c, .int .i64 r, .int .i64 s] 25) := ⟨_, rfl⟩
  have C0 : W0.cell? ⟨w.heap.size, 0, none⟩ = some (.slice a n c) := by rw [hW0]; simp [go_sem]
  have HB0 : Hid (Below w.heap.size w W0) := by show Below _ _ _; rw [hW0]; exact below_a1q _ _
  rw [← hW0]
  clear hW0
  go_loopw [4, 13] (fun v iv wr => ∃ k : Nat, k ≤ n ∧ iv = .int .i64 k ∧ v = .int .i64 (tp l k) ∧ Below W0.heap.size W0 wr) (fun _ iv _ => n - (intOf iv).toNat)
  case atStart => exact ⟨0, Nat.zero_le _, rfl, rfl, Below.refl _ _⟩
  case round =>
    obtain ⟨k, hk, rfl, rfl, hB⟩ := hrel
    have zw := hB.size
    have D0 : wr.cell? ⟨w.heap.size, 0, none⟩ = some (.slice a n c) := (hB.cell (World.block_lt_of_cell? _ _ C0)).trans C0
    have HBw : Hid (Below w.heap.size w wr) := HB0.out.trans (hB.mono HB0.out.size)
    by_cases hlt : k < n
    · obtain ⟨z, hz⟩ : ∃ z, z = tp l k := ⟨_, rfl⟩
      have HZ : Hid (z = tp l k) := hz
      rw [← hz]
      clear hz
      obtain ⟨b, o, rfl, hb, j1, j2, j3, A0, A1, A2⟩ := rowC_at (Kd.below H.out HBw.out) hlt
      have HW : Hid (tp l (k + 1) = if z < (cp l k).2.1 then (cp l k).2.1 else z) := by show (if _ then _ else _) = _; rw [HZ.out]
      obtain ⟨d, hd⟩ : ∃ d, d = cp l k := ⟨_, rfl⟩
      rw [← hd] at A0 A1 A2 j1 j2 j3 HW
      clear hd
      obtain ⟨d1, d2, d3⟩ := d
      simp only at A0 A1 A2 HW
      have i0 : (k : Int) < (n : Int) := by omega
      have i1 : (0 : Int) ≤ (k : Int) := by omega
      have HB2 : Hid (Below W0.heap.size W0 (wr.alloc (.cells #[.int .i64 d1, .int .i64 d2, .string d3] 40))) := hB.trans ((below_a1q _ _).mono zw)
      by_cases c1 : z < d2
      · have HW2 : Hid (tp l (k + 1) = d2) := by show _ = _; rw [HW.out, if_pos c1]
        go_wp2
        go_roundw
        case rel => exact ⟨k + 1, by omega, by go_num, by rw [HW2.out], HB2.out⟩
        case measure => simp [intOf]; omega
      · have HW2 : Hid (tp l (k + 1) = z) := by show _ = _; rw [HW.out, if_neg c1]
        go_wp2
        go_roundw
        case rel => exact ⟨k + 1, by omega, by go_num, by rw [HW2.out], HB2.out⟩
        case measure => simp [intOf]; omega
    · obtain rfl : k = n := by omega
      have i0 : ¬ (k : Int) < (k : Int) := by omega
      obtain ⟨V, rfl⟩ : ∃ V, V = wr := ⟨_, rfl⟩
      obtain ⟨t, ht⟩ : ∃ t, t = tp l k := ⟨_, rfl⟩
      have HT : Hid (tp l k = t) := ht.symm
      rw [← ht] at HNW ⊢
      clear ht hB
      go_wp2_with fail
      go_loopw [7, 27] (fun v iv wq => ∃ q : Nat, q ≤ k ∧ iv = .int .i64 q ∧ v = .int .i64 (ws (fun k => decide ((cp l k).2.1 = t)) l q) ∧ Below V.heap.size V wq) (fun _ iv _ => k - (intOf iv).toNat)
      case atStart => exact ⟨0, Nat.zero_le _, rfl, rfl, Below.refl _ _⟩
      case round =>
        obtain ⟨q, hq, rfl, rfl, hB⟩ := hrel
        have zq := hB.size
        obtain ⟨z, hz⟩ : ∃ z, z = ws (fun k => decide ((cp l k).2.1 = t)) l q := ⟨_, rfl⟩
        have HZ : Hid (z = ws (fun k => decide ((cp l k).2.1 = t)) l q) := hz
        obtain ⟨z0, z1⟩ := ws_bd (p := fun k => decide ((cp l k).2.1 = t)) (okTil_le HK.out hq)
        rw [← hz] at z0 z1 ⊢
        have z2 : z ≤ 70 := by omega
        clear hz z1
        have HBq : Hid (Below w.heap.size w wr) := HBw.out.trans (hB.mono HBw.out.size)
        by_cases hlq : q < k
        · obtain ⟨b, o, rfl, hb, j1, j2, j3, A0, A1, A2⟩ := rowC_at (Kd.below H.out HBq.out) hlq
          obtain ⟨q1, q2, _⟩ := cpAt_ok (okTil_at HK.out hlq)
          have HW : Hid (ws (fun k => decide ((cp l k).2.1 = t)) l (q + 1) = if decide ((cp l q).2.1 = t) = true then z + (cp l q).1 else z) := by show (if _ then _ else _) = _; rw [HZ.out]
          obtain ⟨d, hd⟩ : ∃ d, d = cp l q := ⟨_, rfl⟩
          rw [← hd] at A0 A1 A2 j1 j2 j3 HW q1 q2
          clear hd
          obtain ⟨d1, d2, d3⟩ := d
          simp only at A0 A1 A2 q1 q2 HW
          have i2 : (q : Int) < (k : Int) := by omega
          have i1 : (0 : Int) ≤ (q : Int) := by omega
          have HB2 : Hid (Below V.heap.size V (wr.alloc (.cells #[.int .i64 d1, .int .i64 d2, .string d3] 40))) := hB.trans ((below_a1q _ _).mono zq)
          by_cases c1 : d2 = t
          · have HW2 : Hid (ws (fun k => decide ((cp l k).2.1 = t)) l (q + 1) = z + d1) := by show _ = _; rw [HW.out, if_pos (decide_eq_true c1)]
            subst c1
            clear HW
            go_wp2
            go_roundw
            case rel => exact ⟨q + 1, by omega, by go_num, by rw [HW2.out], HB2.out⟩
            case measure => simp [intOf]; omega
          · have HW2 : Hid (ws (fun k => decide ((cp l k).2.1 = t)) l (q + 1) = z) := by show _ = _; rw [HW.out, if_neg (by simp [c1])]
            have c2 : (d2 == t) = false := by simpa using c1
            clear HW
            go_wp2
            go_roundw
            case rel => exact ⟨q + 1, by omega, by go_num, by rw [HW2.out], HB2.out⟩
            case measure => simp [intOf]; omega
        · obtain rfl : q = k := by omega
          have i2 : ¬ (q : Int) < (q : Int) := by omega
          go_wp2
          refine bodyPost_ret (v := .tuple #[.int .i64 t, .int .i64 z]) (by simp [results, Try.results57, go_sem]) rfl ?_
          rw [HNW.out, ← HZ.out, HT.out]
          exact ⟨rfl, HBq.out⟩
end Go.Proofs.Ytbkdkiodkcpbeaa
