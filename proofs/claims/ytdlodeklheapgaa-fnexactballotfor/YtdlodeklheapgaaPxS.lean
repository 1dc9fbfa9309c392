/- Numbers in a row that rise; l1In. No condition. -/
import Derived.Test.YtdlodeklheapgaaKSint
import Derived.Test.YtdlodeklheapgaaQb
import Derived.WalkLawsBesides
import Derived.Test.YtdlodeklheapgaaAp4
import Derived.Deep.RegionHeld3
import Derived.Deep.DeepFit
import Derived.Deep.DeepCutAuto
namespace Go.Proofs.Ytdlodeklheapgaa
open Go.RowKit
set_option linter.unusedVariables false

/-- Rising numbers of copies. -/
def lastS (s : List Int) : Nat → Int
  | 0 => -1
  | j + 1 => s.getD j 0
def someTil (s : List Int) (n : Nat) : Nat → Bool
  | 0 => true
  | j + 1 => someTil s n j && (decide (lastS s j < s.getD j 0) && decide (s.getD j 0 < n))
def someOk (s : List Int) (n : Nat) : Bool := someTil s n s.length
theorem someTil_at {s : List Int} {n : Nat} : ∀ {m j : Nat}, someTil s n m = true → j < m → lastS s j < s.getD j 0 ∧ s.getD j 0 < n
  | m + 1, j, h, hj => by
    unfold someTil at h
    simp only [Bool.and_eq_true, decide_eq_true_eq] at h
    by_cases e : j = m
    · exact e ▸ h.2
    · exact someTil_at h.1 (by omega)
theorem someTil_of {s : List Int} {n : Nat} : ∀ {m : Nat}, (∀ j, j < m → lastS s j < s.getD j 0 ∧ s.getD j 0 < n) → someTil s n m = true
  | 0, _ => rfl
  | m + 1, h => by
    unfold someTil
    rw [someTil_of (m := m) (fun j hj => h j (by omega))]
    simp only [Bool.true_and, Bool.and_eq_true, decide_eq_true_eq]
    exact h m (by omega)
theorem someTil_no {s : List Int} {n m j : Nat} (hj : j < m) (h : ¬ (lastS s j < s.getD j 0 ∧ s.getD j 0 < n)) : someTil s n m = false := by
  cases e : someTil s n m with
  | false => rfl
  | true => exact absurd (someTil_at e hj) h
theorem some_nn {s : List Int} {n m : Nat} (h : someTil s n m = true) : ∀ j, j < m → 0 ≤ s.getD j 0
  | 0, hj => by have h1 : (-1 : Int) < s.getD 0 0 := (someTil_at h hj).1; omega
  | j + 1, hj => by
    have h1 : s.getD j 0 < s.getD (j + 1) 0 := (someTil_at h hj).1
    have h2 := some_nn h j (by omega)
    omega
theorem some_lt {s : List Int} {n m : Nat} (h : someTil s n m = true) {i : Nat} : ∀ j : Nat, i < j → j < m → s.getD i 0 < s.getD j 0
  | 0, hi, _ => by omega
  | j + 1, hi, hj => by
    have h1 : s.getD j 0 < s.getD (j + 1) 0 := (someTil_at h hj).1
    by_cases e : i = j
    · exact e ▸ h1
    · have := some_lt (i := i) h j (by omega) (show j < m by omega)
      omega
/-- The number at a place. -/
def nat (s : List Int) (j : Nat) : Nat := (s.getD j 0).toNat
theorem some_nat {s : List Int} {n m : Nat} (h : someTil s n m = true) {j : Nat} (hj : j < m) : s.getD j 0 = (nat s j : Int) ∧ nat s j < n := by
  have h1 := some_nn h j hj
  have h2 := (someTil_at h hj).2
  unfold nat
  omega
theorem getD_of {s : List Int} {j : Nat} {k : Int} (h : s[j]? = some k) : s.getD j 0 = k := by rw [List.getD_eq_getElem?_getD, h]; rfl
theorem getD_at {s : List Int} {j : Nat} (h : j < s.length) : s[j]? = some (s.getD j 0) := by rw [getD_of (List.getElem?_eq_getElem h), List.getElem?_eq_getElem h]
theorem below_a1q (w : World) (o : Obj) : Below w.heap.size w (w.alloc o) := (Below.refl _ _).alloc (Nat.le_refl _) o
theorem below_a2q (w : World) (o o' : Obj) : Below w.heap.size w ((w.alloc o).alloc o') := ((Below.refl _ _).alloc (Nat.le_refl _) o).alloc (by simp) o'
theorem wrap_i64n {x : Int} (h0 : 0 ≤ x) (h1 : x < 9223372036854775808) : IntKind.i64.wrap x = x := by
  simp [IntKind.wrap, IntKind.bits, IntKind.signed]
  omega
theorem row_max {α : Type} {K : Kd α} {o : Bool} {w : World} {S : Nat → Prop} {a : Option Addr} {n c : Nat} {l : List α} (h : (kRow K).is o w S [.slice a n c] l) : n ≤ 9223372036854775807 := by
  have hnl := row_len h
  obtain ⟨_, _, _, h, _⟩ := row_form h
  rw [hnl]
  exact h
set_option maxRecDepth 100000 in
theorem in1_k (x a b : Int) (w : World) : Calls Try.prog 66 #[.int .i64 x, .int .i64 a, .int .i64 b] w fun e w' => e = .returned (.bool (decide (a ≤ x ∧ x ≤ b))) ∧ w' = w := by
  by_cases h1 : a ≤ x
  · by_cases h2 : x ≤ b
    · go_enter Try.func66, Try.ntmps66
      go_wp2
      go_ret
      exact ⟨by rw [decide_eq_true (by omega)]; rfl, rfl⟩
    · go_enter Try.func66, Try.ntmps66
      go_wp2
      go_ret
      exact ⟨by rw [decide_eq_false (by omega)]; rfl, rfl⟩
  · go_enter Try.func66, Try.ntmps66
    go_wp2
    go_ret
    exact ⟨by rw [decide_eq_false (by omega)]; rfl, rfl⟩
theorem in1_is {x a b : Int} {q : Bool} (w : World) (h : decide (a ≤ x ∧ x ≤ b) = q) : Calls Try.prog 66 #[.int .i64 x, .int .i64 a, .int .i64 b] w fun e w' => e = .returned (.bool q) ∧ w' = w := by
  rw [← h]
  exact in1_k x a b w

/-- A number of a row. -/
theorem rowN_at {w : World} {S : Nat → Prop} {o : Bool} {a : Option Addr} {n c : Nat} {s : List Int} (h : (kRow kInt).is o w S [.slice a n c] s) {j : Nat} (hj : j < n) : ∃ b off, a = some ⟨b, off, none⟩ ∧ b < w.heap.size ∧ w.cell? ⟨b, off + j, none⟩ = some (.int .i64 (s.getD j 0)) ∧ IntOk (s.getD j 0) := by
  have hx := getD_at (s := s) (j := j) (by rw [← row_len h]; exact hj)
  obtain ⟨b, off, e, hb, _, hc⟩ := rowI_at h hx
  obtain ⟨_, _, _, _, _, _, _, hi, _⟩ := row_at h hx
  exact ⟨b, off, e, hb, hc, hi.2⟩
set_option maxRecDepth 100000 in
set_option maxHeartbeats 2000000 in
theorem risingAhead_k (s : List Int) (a : Option Addr) (n c : Nat) (S : Nat → Prop) (m : Nat) (w : World) (h : (kRow kInt).is false w S [.slice a n c] s) :
    Calls Try.prog 102 #[.slice a n c, .int .i64 m] w fun e w' => e = .returned (.bool (someOk s m)) ∧ w' = w := by
  have HNL : Hid (n = s.length) := row_len h
  have hmx := row_max h
  have H : Hid ((kRow kInt).is false w S [.slice a n c] s) := h
  clear h
  go_enter Try.func102, Try.ntmps102
  go_wp2_with fail
  go_loopw [5, 10] (fun v iv wr => ∃ j : Nat, j ≤ n ∧ iv = .int .i64 j ∧ v = .int .i64 (lastS s j) ∧ Hid (someTil s m j = true) ∧ wr = w) (fun _ iv _ => n - (intOf iv).toNat)
  case atStart => exact ⟨0, Nat.zero_le _, rfl, rfl, rfl, rfl⟩
  case round =>
    obtain ⟨j, hj, rfl, rfl, HI, rfl⟩ := hrel
    by_cases hlt : j < n
    · obtain ⟨b, o, rfl, hb, A0, _⟩ := rowN_at H.out hlt
      have HT : Hid (someTil s m (j + 1) = (decide (lastS s j < s.getD j 0) && decide (s.getD j 0 < m))) := by show (someTil s m j && _) = _; rw [HI.out, Bool.true_and]
      have HL : Hid (lastS s (j + 1) = s.getD j 0) := rfl
      have HNO : Hid (someTil s m (j + 1) = false → someOk s m = false) := fun h => by
        have hn : ¬ (lastS s j < s.getD j 0 ∧ s.getD j 0 < m) := fun g => by rw [HT.out, decide_eq_true g.1, decide_eq_true g.2] at h; cases h
        exact someTil_no (show j < s.length by rw [← HNL.out]; exact hlt) hn
      generalize lastS s j = z at *
      generalize s.getD j 0 = x at *
      have i0 : (j : Int) < (n : Int) := by omega
      have i1 : (0 : Int) ≤ (j : Int) := by omega
      by_cases c1 : z < x
      · by_cases c2 : x < m
        · have HN : Hid (someTil s m (j + 1) = true) := by show _ = _; rw [HT.out, decide_eq_true c1, decide_eq_true c2]; rfl
          clear HNO HT
          go_wp2
          go_roundw
          case rel => exact ⟨j + 1, by omega, by go_num, by rw [HL.out], HN, trivial⟩
          case measure => simp [intOf]; omega
        · have HF : Hid (someOk s m = false) := HNO.out (by rw [HT.out, decide_eq_false c2, Bool.and_false])
          clear HNO HT
          go_wp2
          go_ret
          rw [HF.out]
          exact ⟨rfl, rfl⟩
      · have HF : Hid (someOk s m = false) := HNO.out (by rw [HT.out, decide_eq_false c1, Bool.false_and])
        clear HNO HT
        go_wp2
        go_ret
        rw [HF.out]
        exact ⟨rfl, rfl⟩
    · obtain rfl : j = n := by omega
      have i0 : ¬ (j : Int) < (j : Int) := by omega
      have HF : Hid (someOk s m = true) := by show someTil s m s.length = true; rw [← HNL.out]; exact HI.out
      go_wp2
      go_ret
      rw [HF.out]
      exact ⟨rfl, rfl⟩
set_option maxRecDepth 100000 in
set_option maxHeartbeats 2000000 in
theorem some14_k (s : List Int) (a : Option Addr) (n c : Nat) (S : Nat → Prop) (m : Nat) (w : World) (h : (kRow kInt).is false w S [.slice a n c] s) (hm : m ≤ 2 ^ 40) :
    Calls Try.prog 69 #[.slice a n c, .int .i64 m] w fun e w' => e = .returned (.bool (someOk s m)) ∧ w' = w := by
  have HNL : Hid (n = s.length) := row_len h
  have hmx := row_max h
  have H : Hid ((kRow kInt).is false w S [.slice a n c] s) := h
  clear h
  go_enter Try.func69, Try.ntmps69
  go_wp2_with fail
  go_loopw [9] (fun iv wr => ∃ j : Nat, j ≤ n ∧ iv = .int .i64 j ∧ Hid (someTil s m j = true) ∧ wr = w) (fun iv _ => n - (intOf iv).toNat)
  case atStart => exact ⟨0, Nat.zero_le _, rfl, rfl, rfl⟩
  case round =>
    obtain ⟨j, hj, rfl, HI, rfl⟩ := hrel
    by_cases hlt : j < n
    · obtain ⟨b, o, rfl, hb, A0, _⟩ := rowN_at H.out hlt
      have HT : Hid (someTil s m (j + 1) = (decide (lastS s j < s.getD j 0) && decide (s.getD j 0 < m))) := by show (someTil s m j && _) = _; rw [HI.out, Bool.true_and]
      have HNO : Hid (someTil s m (j + 1) = false → someOk s m = false) := fun h => by
        have hn : ¬ (lastS s j < s.getD j 0 ∧ s.getD j 0 < m) := fun g => by rw [HT.out, decide_eq_true g.1, decide_eq_true g.2] at h; cases h
        exact someTil_no (show j < s.length by rw [← HNL.out]; exact hlt) hn
      have i0 : (j : Int) < (n : Int) := by omega
      have i1 : (0 : Int) ≤ (j : Int) := by omega
      have HLJ : Hid (j ≠ 0 → ∃ q, j = q + 1 ∧ lastS s j = s.getD q 0 ∧ 0 ≤ s.getD q 0 ∧ wr.cell? ⟨b, o + q, none⟩ = some (.int .i64 (s.getD q 0))) := fun h0 => by
        obtain ⟨q, rfl⟩ : ∃ q, j = q + 1 := ⟨j - 1, by omega⟩
        obtain ⟨b', o', e', _, A1, _⟩ := rowN_at H.out (show q < n by omega)
        injection e' with e'; injection e' with eb eo; subst eb eo
        exact ⟨q, rfl, rfl, some_nn HI.out q (by omega), A1⟩
      have HL0 : Hid (j = 0 → lastS s j = -1) := fun h => by rw [h]; rfl
      obtain ⟨z, hz⟩ : ∃ z, z = lastS s j := ⟨_, rfl⟩
      obtain ⟨x, hx⟩ : ∃ x, x = s.getD j 0 := ⟨_, rfl⟩
      rw [← hz] at HT HLJ HL0
      rw [← hx] at HT A0
      clear hz hx
      by_cases c1 : 0 ≤ x ∧ x ≤ (m : Int) - 1
      · have K1 : Hid (decide (0 ≤ x ∧ x ≤ (m : Int) - 1) = true) := decide_eq_true c1
        have c2 : x < m := by omega
        have c3 : 0 ≤ x := c1.1
        by_cases h0 : j = 0
        · have HN : Hid (someTil s m (j + 1) = true) := by show _ = _; rw [HT.out, decide_eq_true c2, HL0.out h0, decide_eq_true (show -1 < x by omega)]; rfl
          subst h0
          rw [Nat.add_zero] at A0
          have i2 : (0 : Int) < (n : Int) := by omega
          clear HNO HT HLJ HL0 c1 i0 i1
          go_wp2_with (first | (go_at_call 66; refine (in1_k _ _ _ _).mono ?_; rintro e w' ⟨rfl, rfl⟩; rw [K1.out]))
          go_roundw
          case rel => exact ⟨1, by omega, by go_num, HN, trivial⟩
          case measure => simp [intOf]; omega
        · obtain ⟨q, hq, hl, hq0, A1⟩ := HLJ.out h0
          subst hq
          have i2 : (0 : Int) < (q : Int) + 1 := by omega
          have i3 : (q : Int) + 1 < (n : Int) := by omega
          have i4 : (0 : Int) ≤ (q : Int) := by omega
          have i5 : (q : Int) < (n : Int) := by omega
          have i6 : (0 : Int) ≤ (q : Int) + 1 := by omega
          have q1 : IntKind.i64.wrap ((q : Int) + 1 - 1) = (q : Int) := by rw [show (q : Int) + 1 - 1 = (q : Int) by omega]; exact wrap_i64n i4 (by omega)
          have q2 : ((q : Int) + 1).toNat = q + 1 := by omega
          rw [← hl] at A1
          clear hl hq0 HLJ HL0 c1 HI
          by_cases c4 : z < x
          · have HN : Hid (someTil s m (q + 1 + 1) = true) := by show _ = _; rw [HT.out, decide_eq_true c2, decide_eq_true c4]; rfl
            clear HNO HT
            go_wp2_with (first | (go_at_call 66; refine (in1_k _ _ _ _).mono ?_; rintro e w' ⟨rfl, rfl⟩; rw [K1.out]))
            go_roundw
            case rel => exact ⟨q + 1 + 1, by omega, by go_num, HN, trivial⟩
            case measure => simp [intOf]; omega
          · have HF : Hid (someOk s m = false) := HNO.out (by rw [HT.out, decide_eq_false c4]; rfl)
            clear HNO HT
            go_wp2_with (first | (go_at_call 66; refine (in1_k _ _ _ _).mono ?_; rintro e w' ⟨rfl, rfl⟩; rw [K1.out]))
            go_ret
            rw [HF.out]
            exact ⟨rfl, rfl⟩
      · have K1 : Hid (decide (0 ≤ x ∧ x ≤ (m : Int) - 1) = false) := decide_eq_false c1
        have HF : Hid (someOk s m = false) := HNO.out (by
          rw [HT.out]
          by_cases c2 : x < m
          · have : ¬ z < x := by
              by_cases h0 : j = 0
              · have := HL0.out h0
                omega
              · obtain ⟨q, _, hl, hq0, _⟩ := HLJ.out h0
                omega
            rw [decide_eq_false this]; rfl
          · rw [decide_eq_false c2, Bool.and_false])
        clear HNO HT HLJ HL0 c1
        go_wp2_with (first | (go_at_call 66; refine (in1_k _ _ _ _).mono ?_; rintro e w' ⟨rfl, rfl⟩; rw [K1.out]))
        go_ret
        rw [HF.out]
        exact ⟨rfl, rfl⟩
    · obtain rfl : j = n := by omega
      have i0 : ¬ (j : Int) < (j : Int) := by omega
      have HF : Hid (someOk s m = true) := by show someTil s m s.length = true; rw [← HNL.out]; exact HI.out
      go_wp2
      go_ret
      rw [HF.out]
      exact ⟨rfl, rfl⟩
end Go.Proofs.Ytdlodeklheapgaa
