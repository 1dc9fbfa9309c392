/- Rankings that are good: the program's. No condition but that they fit in memory. -/
import Derived.Test.YtikgcgfigcolmaaRkC
import Derived.Test.YtikgcgfigcolmaaQb
namespace Go.Proofs.Ytikgcgfigcolmaa
open Go.RowKit
set_option linter.unusedVariables false

/-- The front of a row. -/
theorem row_take {α : Type} {K : Kd α} {o : Bool} {w : World} {S : Nat → Prop} {a : Option Addr} {n c : Nat} {l : List α} (h : (kRow K).is o w S [.slice a n c] l) {k : Nat} (hk : k ≤ n) : (kRow K).is o w S [.slice a k c] (l.take k) := by
  obtain ⟨a', c', e, h2, h3, h0⟩ := h
  simp only [List.cons.injEq, Value.slice.injEq, and_true] at e
  obtain ⟨rfl, rfl, rfl⟩ := e
  have hl : (l.take k).length = k := by rw [List.length_take]; omega
  refine ⟨a, c, by rw [hl], by omega, fun e => by have := h3 e; omega, ?_⟩
  rcases h0 with h0 | ⟨b, off, B, C, rfl, hlt, hb, hr, hs, hd⟩
  · left; rw [h0]; simp
  · right
    refine ⟨b, off, B, C, rfl, hlt, hb, fun i x hx => hr i x ?_, fun i q hi => hs i q (by omega), fun e => ⟨fun i hi => (hd e).1 i (by omega), fun i j q hi hj => (hd e).2 i j q (by omega) (by omega)⟩⟩
    have hi : i < k := by have := (List.getElem?_eq_some_iff.1 hx).1; omega
    rw [List.getElem?_take_of_lt hi] at hx
    exact hx
theorem score_drop {l : List DScored} {k : Nat} {x : DScored} (h : l[k]? = some x) (i : Int) : scoreL (l.drop k) i = if x.1 = i then x.2 else scoreL (l.drop (k + 1)) i := by
  have hk := (List.getElem?_eq_some_iff.1 h)
  rw [List.drop_eq_getElem_cons hk.1, hk.2, scoreL]

set_option maxRecDepth 100000 in
set_option maxHeartbeats 2000000 in
theorem scoreIn_k (l : List DScored) (a : Option Addr) (n c : Nat) (S : Nat → Prop) (i : Int) (w : World) (h : (kRow kScored).is false w S [.slice a n c] l) :
    Calls Try.prog 102 #[.slice a n c, .int .i64 i] w fun e w' => e = .returned (.int .i64 (scoreL l i)) ∧ Below w.heap.size w w' := by
  have hnl := row_len h
  have hmx : n ≤ 9223372036854775807 := by obtain ⟨_, _, _, h, _⟩ := row_form h; rw [hnl]; exact h
  have HNL : Hid (n = l.length) := hnl
  have H : Hid ((kRow kScored).is false w S [.slice a n c] l) := h
  obtain ⟨q, hq⟩ : ∃ q, q = scoreL l i := ⟨_, rfl⟩
  have HQ : Hid (q = scoreL l i) := hq
  rw [← hq]
  clear h hnl hq
  go_enter Try.func102, Try.ntmps102
  go_wp2_with fail
  go_loopw [9] (fun iv wr => ∃ (k : Nat), k ≤ n ∧ iv = .int .i64 k ∧ Hid (scoreL (l.drop k) i = q) ∧ Below w.heap.size w wr) (fun iv _ => n - (intOf iv).toNat)
  case atStart => exact ⟨0, Nat.zero_le _, rfl, HQ.out.symm, Below.refl _ _⟩
  case round =>
    obtain ⟨k, hk, rfl, HI, hnx⟩ := hrel
    have zw := hnx.size
    by_cases hlt : k < n
    · obtain ⟨⟨j, s⟩, hx⟩ : ∃ x, l[k]? = some x := ⟨_, List.getElem?_eq_getElem (by rw [← HNL.out]; exact hlt)⟩
      obtain ⟨b, off, B, C, rfl, hb, _, hi, _, hc⟩ := row_at (Kd.below H.out hnx) hx
      obtain ⟨rfl, g0, g1⟩ := kScored_open hi
      have A0 : wr.cell? ⟨b, off + k * 2, none⟩ = some (.int .i64 j) := (hc 0 _ rfl).1
      have A1 : wr.cell? ⟨b, off + k * 2 + 1, none⟩ = some (.int .i64 s) := (hc 1 _ rfl).1
      have i0 : (0 : Int) ≤ (k : Int) := by omega
      have i1 : (k : Int) < (n : Int) := by omega
      have HI1 : Hid ((if j = i then s else scoreL (l.drop (k + 1)) i) = q) := by have := HI.out; rw [score_drop hx] at this; exact this
      clear hc hi hx HI
      by_cases c1 : j = i
      · have HF : Hid (q = s) := by have := HI1.out; rw [if_pos c1] at this; exact this.symm
        subst c1
        clear HI1
        go_wp2
        go_ret
        exact ⟨by rw [HF.out]; rfl, hnx.alloc zw _⟩
      · have HI2 : Hid (scoreL (l.drop (k + 1)) i = q) := by have := HI1.out; rw [if_neg c1] at this; exact this
        have c1' : (j == i) = false := by simpa using c1
        clear HI1
        go_wp2
        go_roundw
        case rel => exact ⟨k + 1, by omega, by go_num, HI2, hnx.alloc zw _⟩
        case measure => simp [intOf]; omega
    · have HF : Hid (q = 0) := by
        have := HI.out
        rw [show k = l.length by rw [← HNL.out]; omega, List.drop_length, scoreL] at this
        exact this.symm
      go_wp2
      go_ret
      exact ⟨by rw [HF.out]; rfl, hnx⟩

set_option maxHeartbeats 400000 in
theorem isId_k (i : Int) (w : World) : Calls Try.prog 72 #[.int .i64 i] w fun e w' => e = .returned (.bool (decide (0 ≤ i ∧ i ≤ 1000))) ∧ w' = w := by
  by_cases h1 : 0 ≤ i
  · by_cases h2 : i ≤ 1000
    · go_enter Try.func72, Try.ntmps72
      go_wp2
      go_ret
      exact ⟨by rw [decide_eq_true (by omega)]; rfl, rfl⟩
    · go_enter Try.func72, Try.ntmps72
      go_wp2
      go_ret
      exact ⟨by rw [decide_eq_false (by omega)]; rfl, rfl⟩
  · go_enter Try.func72, Try.ntmps72
    go_wp2
    go_ret
    exact ⟨by rw [decide_eq_false (by omega)]; rfl, rfl⟩
theorem isId_is {i : Int} {q : Bool} (w : World) (h : decide (0 ≤ i ∧ i ≤ 1000) = q) : Calls Try.prog 72 #[.int .i64 i] w fun e w' => e = .returned (.bool q) ∧ w' = w := by
  rw [← h]
  exact isId_k i w
set_option maxRecDepth 100000 in
set_option maxHeartbeats 1000000 in
theorem scIsGood_k (i s : Int) (w : World) : Calls Try.prog 101 #[.agg #[.int .i64 i, .int .i64 s]] w fun e w' => e = .returned (.bool (scOk (i, s))) ∧ Below w.heap.size w w' := by
  obtain ⟨q, hq⟩ : ∃ q, q = scOk (i, s) := ⟨_, rfl⟩
  have HQ : Hid (q = decide ((1 ≤ s ∧ s ≤ 1000000) ∧ (0 ≤ i ∧ i ≤ 1000))) := hq
  rw [← hq]
  clear hq
  by_cases c1 : 0 ≤ i ∧ i ≤ 1000
  · have HI : ∀ w, Hid (Calls Try.prog 72 #[.int .i64 i] w fun e w' => e = .returned (.bool true) ∧ w' = w) := fun w => isId_is w (decide_eq_true c1)
    by_cases c3 : 1 ≤ s
    · by_cases c4 : s ≤ 1000000
      · have HF : Hid (q = true) := by show _ = _; rw [HQ.out, decide_eq_true (by omega)]
        clear HQ c1
        go_enter Try.func101, Try.ntmps101
        go_wp2_with fail
        refine (HI _).out.mono ?_
        rintro e w1 ⟨rfl, rfl⟩
        go_wp2
        go_ret
        exact ⟨by rw [HF.out]; rfl, below_a1r _ _⟩
      · have HF : Hid (q = false) := by show _ = _; rw [HQ.out, decide_eq_false (by omega)]
        clear HQ c1
        go_enter Try.func101, Try.ntmps101
        go_wp2_with fail
        refine (HI _).out.mono ?_
        rintro e w1 ⟨rfl, rfl⟩
        go_wp2
        go_ret
        exact ⟨by rw [HF.out]; show Ending.returned (Value.bool (decide (s ≤ 1000000))) = _; rw [decide_eq_false (by omega)], below_a1r _ _⟩
    · have HF : Hid (q = false) := by show _ = _; rw [HQ.out, decide_eq_false (by omega)]
      clear HQ c1
      go_enter Try.func101, Try.ntmps101
      go_wp2_with fail
      refine (HI _).out.mono ?_
      rintro e w1 ⟨rfl, rfl⟩
      go_wp2
      go_ret
      exact ⟨by rw [HF.out]; rfl, below_a1r _ _⟩
  · have HI : ∀ w, Hid (Calls Try.prog 72 #[.int .i64 i] w fun e w' => e = .returned (.bool false) ∧ w' = w) := fun w => isId_is w (decide_eq_false c1)
    have HF : Hid (q = false) := by show _ = _; rw [HQ.out, decide_eq_false (by omega)]
    clear HQ c1
    go_enter Try.func101, Try.ntmps101
    go_wp2_with fail
    refine (HI _).out.mono ?_
    rintro e w1 ⟨rfl, rfl⟩
    go_wp2
    go_ret
    exact ⟨by rw [HF.out]; rfl, below_a1r _ _⟩
end Go.Proofs.Ytikgcgfigcolmaa
