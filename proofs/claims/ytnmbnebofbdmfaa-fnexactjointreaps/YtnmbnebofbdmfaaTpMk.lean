/- A treap marked and held by the law. No condition. -/
import Derived.Test.YtnmbnebofbdmfaaTpB
namespace Go.Proofs.Ytnmbnebofbdmfaa
open Go.RowKit
set_option linter.unusedVariables false

/-- The limb that is marked from k on. -/
def mkL (k : Int) : Lb := ⟨mtext k, mtext (k + 1), k + 1 + 1, k + 1 + 1 + 1⟩

theorem markL_step {wr w1 w2 : World} {b off n k : Nat} {M : Nat → Lb} {x y : Int} {s t : ByteArray} (hk : k < n) (h : LimbsAt wr b off n M) (hf : LFree wr b off n) (q1 : b < wr.heap.size) (q2 : b < w1.heap.size)
    (B1 : Below wr.heap.size wr w1)
    (B2 : Below (w1.setCell ⟨b, off + k * 4, none⟩ (.string s)).heap.size (w1.setCell ⟨b, off + k * 4, none⟩ (.string s)) w2) :
    LimbsAt (((w2.setCell ⟨b, off + k * 4 + 1, none⟩ (.string t)).setCell ⟨b, off + k * 4 + 2, none⟩ (.int .i64 x)).setCell ⟨b, off + k * 4 + 3, none⟩ (.int .i64 y)) b off n (fun j => if j = k then ⟨s, t, x, y⟩ else M j) ∧
      LFree (((w2.setCell ⟨b, off + k * 4 + 1, none⟩ (.string t)).setCell ⟨b, off + k * 4 + 2, none⟩ (.int .i64 x)).setCell ⟨b, off + k * 4 + 3, none⟩ (.int .i64 y)) b off n ∧
      BelowBut wr.heap.size b wr (((w2.setCell ⟨b, off + k * 4 + 1, none⟩ (.string t)).setCell ⟨b, off + k * 4 + 2, none⟩ (.int .i64 x)).setCell ⟨b, off + k * 4 + 3, none⟩ (.int .i64 y)) := by
  obtain ⟨a0, a1, a2, a3⟩ := h k hk
  have p1 : ∀ o, w1.cell? ⟨b, o, none⟩ = wr.cell? ⟨b, o, none⟩ := fun o => B1.cell (p := ⟨b, o, none⟩) q1
  have p2 : ∀ o, w2.cell? ⟨b, o, none⟩ = if o = off + k * 4 then some (.string s) else wr.cell? ⟨b, o, none⟩ := fun o => by
    rw [B2.cell (p := ⟨b, o, none⟩) (by simpa using q2), cell_set (by rw [p1, a0]; rfl), p1]
  have p3 : ∀ o, (((w2.setCell ⟨b, off + k * 4 + 1, none⟩ (.string t)).setCell ⟨b, off + k * 4 + 2, none⟩ (.int .i64 x)).setCell ⟨b, off + k * 4 + 3, none⟩ (.int .i64 y)).cell? ⟨b, o, none⟩ =
      if o = off + k * 4 + 3 then some (.int .i64 y) else if o = off + k * 4 + 2 then some (.int .i64 x) else if o = off + k * 4 + 1 then some (.string t) else w2.cell? ⟨b, o, none⟩ := fun o => by
    have e1 : (w2.cell? ⟨b, off + k * 4 + 1, none⟩).isSome = true := by rw [p2, if_neg (by omega), a1]; rfl
    have e2 : ((w2.setCell ⟨b, off + k * 4 + 1, none⟩ (.string t)).cell? ⟨b, off + k * 4 + 2, none⟩).isSome = true := by rw [cell_set e1, if_neg (by omega), p2, if_neg (by omega), a2]; rfl
    have e3 : (((w2.setCell ⟨b, off + k * 4 + 1, none⟩ (.string t)).setCell ⟨b, off + k * 4 + 2, none⟩ (.int .i64 x)).cell? ⟨b, off + k * 4 + 3, none⟩).isSome = true := by rw [cell_set e2, if_neg (by omega), cell_set e1, if_neg (by omega), p2, if_neg (by omega), a3]; rfl
    rw [cell_set e3, cell_set e2, cell_set e1]
  refine ⟨fun j hj => ?_, fun o ho => ?_, ?_⟩
  · simp only [p3, p2]
    by_cases e : j = k
    · subst e
      simp
    · obtain ⟨c0, c1, c2, c3⟩ := h j hj
      simp only [if_neg e]
      refine ⟨?_, ?_, ?_, ?_⟩
      · rw [if_neg (by omega), if_neg (by omega), if_neg (by omega), if_neg (by omega), c0]
      · rw [if_neg (by omega), if_neg (by omega), if_neg (by omega), if_neg (by omega), c1]
      · rw [if_neg (by omega), if_neg (by omega), if_neg (by omega), if_neg (by omega), c2]
      · rw [if_neg (by omega), if_neg (by omega), if_neg (by omega), if_neg (by omega), c3]
  · rw [World.frozen?_setCell, World.frozen?_setCell, World.frozen?_setCell, B2.frozen (by simpa using q2), World.frozen?_setCell, B1.frozen q1]
    exact hf o ho
  · have s1 := B1.size
    have s2 := B2.size
    simp at s2
    exact (((BelowBut.of B1).trans ((BelowBut.setCell _ _ _).trans (BelowBut.of (B2.mono (by simp; omega))))).trans (BelowBut.setCell _ _ _)).trans ((BelowBut.setCell _ _ _).trans (BelowBut.setCell _ _ _))

set_option maxHeartbeats 400000 in
theorem markLimbS_some (b off c n : Nat) (N : Nat → Lb) (k0 : Int) (w : World) (hn : n ≤ 2 ^ 30) (hk0 : 0 < k0) (hk1 : k0 ≤ 2 ^ 30) (hb : b < w.heap.size)
    (h : LimbsAt w b off n N) (hf : LFree w b off n) :
    Calls Try.prog 20 #[.slice (some ⟨b, off, none⟩) n c, .int .i64 k0] w fun e w' => e = .returned (.int .i64 (k0 + 4 * n)) ∧ BelowBut w.heap.size b w w' ∧ LimbsAt w' b off n (fun i => mkL (k0 + 4 * i)) ∧ LFree w' b off n := by
  have H : Hid (LimbsAt w b off n N) := h
  have HF : Hid (LFree w b off n) := hf
  clear h hf
  go_enter Try.func20, Try.ntmps20
  go_wp2_with fail
  go_loopw [1, 5] (fun q i wr => ∃ k : Nat, k ≤ n ∧ i = .int .i64 k ∧ q = .int .i64 (k0 + 4 * k) ∧ BelowBut w.heap.size b w wr ∧ LimbsAt wr b off n (fun j => if j < k then mkL (k0 + 4 * j) else N j) ∧ LFree wr b off n) (fun _ i _ => n - (intOf i).toNat)
  case atStart => exact ⟨0, Nat.zero_le _, rfl, by simp, BelowBut.refl _ _ _, by simpa using H.out, HF.out⟩
  case round =>
    obtain ⟨k, hk, rfl, rfl, hnx, hat, hfr⟩ := hrel
    by_cases hlt : k < n
    · have hatk := hat k hlt
      simp only [Nat.lt_irrefl, if_false] at hatk
      obtain ⟨a0, a1, a2, a3⟩ := hatk
      have f0 := hfr (k * 4) (by omega)
      have f1 := hfr (k * 4 + 1) (by omega)
      have f2 := hfr (k * 4 + 2) (by omega)
      have f3 := hfr (k * 4 + 3) (by omega)
      simp only [← Nat.add_assoc] at f1 f2 f3
      have i0 : (0 : Int) ≤ (k : Int) := by omega
      have i1 : (k : Int) < (n : Int) := by omega
      have q1 : b < wr.heap.size := Nat.lt_of_lt_of_le hb hnx.size
      have HA : Hid (LimbsAt wr b off n (fun j => if j < k then mkL (k0 + 4 * j) else N j)) := hat
      have HR : Hid (LFree wr b off n) := hfr
      clear hat hfr
      go_wp2_with fail
      refine (markText_any _ _ (by omega) (by omega)).mono ?_
      rintro e w1 ⟨rfl, hb1⟩
      obtain ⟨hc1, hf1⟩ := bcell hb1
      have q2 : b < w1.heap.size := by have := hb1.size; omega
      have HB1 : Hid (Below _ _ w1) := hb1
      clear hb1
      go_wp2_with fail
      refine (markText_any _ _ (by omega) (by omega)).mono ?_
      rintro e w2 ⟨rfl, hb2⟩
      obtain ⟨hc2, hf2⟩ := bcell hb2
      have q3 : b < w2.heap.size := by have := hb2.size; simp at this; omega
      have HB2 : Hid (Below _ _ w2) := hb2
      clear hb2
      go_wp2_with fail
      obtain ⟨r1, r2, r3⟩ := markL_step (t := mtext (k0 + 4 * k + 1)) (x := k0 + 4 * k + 1 + 1) (y := k0 + 4 * k + 1 + 1 + 1) hlt HA.out HR.out q1 q2 HB1.out HB2.out
      go_roundw
      case rel =>
        refine ⟨k + 1, by omega, by go_num, by go_num, hnx.trans (r3.mono hnx.size), fun j hj => ?_, r2⟩
        have := r1 j hj
        by_cases e : j = k
        · subst e
          simp only [if_pos (Nat.lt_succ_self j)] at this ⊢
          simpa only [mkL, if_true] using this
        · simp only [if_neg e] at this
          by_cases e2 : j < k
          · simp only [if_pos e2, if_pos (Nat.lt_succ_of_lt e2)] at this ⊢
            exact this
          · simp only [if_neg e2, if_neg (show ¬ j < k + 1 by omega)] at this ⊢
            exact this
      case measure => simp [intOf]; omega
    · go_wp2
      go_ret
      obtain rfl : k = n := by omega
      refine ⟨rfl, hnx, fun i hi => ?_, hfr⟩
      have := hat i hi
      simp only [if_pos hi] at this
      exact this

set_option maxHeartbeats 400000 in
theorem markLimbS_none (a : Option Addr) (c : Nat) (k0 : Int) (w : World) :
    Calls Try.prog 20 #[.slice a 0 c, .int .i64 k0] w fun e w' => e = .returned (.int .i64 k0) ∧ w' = w := by
  go_enter Try.func20, Try.ntmps20
  go_wp2
  go_rounds 1
  go_ret
  exact ⟨rfl, rfl⟩

set_option maxHeartbeats 400000 in
theorem heldLimbS_none (a : Option Addr) (c : Nat) (k0 : Int) (w : World) :
    Calls Try.prog 21 #[.slice a 0 c, .int .i64 k0] w fun e w' => e = .returned (.int .i64 k0) ∧ w' = w := by
  go_enter Try.func21, Try.ntmps21
  go_wp2
  go_rounds 1
  go_ret
  exact ⟨rfl, rfl⟩

set_option maxHeartbeats 400000 in
theorem heldLimbS_some (b off c n : Nat) (k0 : Int) (w : World) (hn : n ≤ 2 ^ 30) (hk0 : 0 < k0) (hk1 : k0 ≤ 2 ^ 30) (hb : b < w.heap.size)
    (h : LimbsAt w b off n (fun i => mkL (k0 + 4 * i))) :
    Calls Try.prog 21 #[.slice (some ⟨b, off, none⟩) n c, .int .i64 k0] w fun e w' => e = .returned (.int .i64 (k0 + 4 * n)) ∧ Below w.heap.size w w' := by
  have H : Hid (LimbsAt w b off n (fun i => mkL (k0 + 4 * i))) := h
  clear h
  go_enter Try.func21, Try.ntmps21
  go_wp2_with fail
  go_loopw [1, 5] (fun q i wr => ∃ k : Nat, k ≤ n ∧ i = .int .i64 k ∧ q = .int .i64 (k0 + 4 * k) ∧ Below w.heap.size w wr) (fun _ i _ => n - (intOf i).toNat)
  case atStart => exact ⟨0, Nat.zero_le _, rfl, by simp, Below.refl _ _⟩
  case round =>
    obtain ⟨k, hk, rfl, rfl, hnx⟩ := hrel
    by_cases hlt : k < n
    · obtain ⟨a0, a1, a2, a3⟩ := H.out.below hnx hb k hlt
      simp only [mkL] at a0 a1 a2 a3
      have i0 : (0 : Int) ≤ (k : Int) := by omega
      have i1 : (k : Int) < (n : Int) := by omega
      have q1 : b < wr.heap.size := Nat.lt_of_lt_of_le hb hnx.size
      obtain ⟨z, hz⟩ : ∃ z : Int, z = k0 + 4 * k := ⟨_, rfl⟩
      rw [← hz] at a0 a1 a2 a3 ⊢
      have hz0 : 0 < z := by omega
      have hz1 : z ≤ 2 ^ 40 - 10 := by omega
      have HZ : Hid (z = k0 + 4 * k) := hz
      clear hz
      go_wp2_with fail
      go_region_held3 (fun w' => w'.cell? ⟨b, off + k * 4, none⟩ = some (.string (mtext z))) (first | exact a0 | exact (hc1 _ _ q1).trans a0)
        (first | (go_at_call 35; refine (markText_any _ _ (by omega) (by omega)).mono ?_; rintro e w1 ⟨rfl, hb1⟩; obtain ⟨hc1, hf1⟩ := bcell hb1))
      have q2 : b < w1.heap.size := by have := hb1.size; exact Nat.lt_of_lt_of_le q1 this
      have HB1 : Hid (Below _ _ w1) := hb1
      have d1 : w1.cell? ⟨b, off + k * 4 + 1, none⟩ = some (.string (mtext (z + 1))) := (hc1 _ _ q1).trans a1
      have d2 : w1.cell? ⟨b, off + k * 4 + 2, none⟩ = some (.int .i64 (z + 1 + 1)) := (hc1 _ _ q1).trans a2
      have d3 : w1.cell? ⟨b, off + k * 4 + 3, none⟩ = some (.int .i64 (z + 1 + 1 + 1)) := (hc1 _ _ q1).trans a3
      clear hb1 hc1 hf1
      go_wp2_with fail
      go_region_held3 (fun w' => w'.cell? ⟨b, off + k * 4 + 1, none⟩ = some (.string (mtext (z + 1)))) (first | exact d1 | exact (hc2 _ _ q2).trans d1)
        (first | (go_at_call 35; refine (markText_any _ _ (by omega) (by omega)).mono ?_; rintro e w2 ⟨rfl, hb2⟩; obtain ⟨hc2, hf2⟩ := bcell hb2))
      have e2 : w2.cell? ⟨b, off + k * 4 + 2, none⟩ = some (.int .i64 (z + 1 + 1)) := (hc2 _ _ q2).trans d2
      have e3 : w2.cell? ⟨b, off + k * 4 + 3, none⟩ = some (.int .i64 (z + 1 + 1 + 1)) := (hc2 _ _ q2).trans d3
      have HB2 : Hid (Below _ _ w2) := hb2
      clear hb2 hc2 hf2
      go_wp2_with fail
      go_roundw
      case rel => exact ⟨k + 1, by omega, by go_num, by rw [HZ.out]; go_num, (hnx.drew.trans ((HB1.out).mono hnx.size)).drew.trans (HB2.out.mono (Nat.le_trans hnx.size HB1.out.size))⟩
      case measure => simp [intOf]; omega
    · go_wp2
      go_ret
      obtain rfl : k = n := by omega
      exact ⟨rfl, hnx⟩

set_option maxHeartbeats 400000 in
theorem markTreap_any (v : Value) (b n : Nat) (N : Nat → Lb) (k0 : Int) (w : World) (hn : n ≤ 2 ^ 30) (hk0 : 0 < k0) (hk1 : k0 ≤ 2 ^ 30) (h : OwnR w b v n N) :
    Calls Try.prog 9 #[.agg #[v], .int .i64 k0] w fun e w' => e = .returned (.int .i64 (k0 + 4 * n)) ∧ BelowBut w.heap.size b w w' ∧ OwnR w' b v n (fun i => mkL (k0 + 4 * i)) := by
  obtain ⟨a, c, off, rfl, hn4, h⟩ := h
  have HH : Hid (n = 0 ∨ (a = some ⟨b, off, none⟩ ∧ b < w.heap.size ∧ LimbsAt w b off n N ∧ LFree w b off n)) := h
  clear h
  go_enter Try.func9, Try.ntmps9
  go_wp2_with fail
  rcases HH.out with h0 | ⟨rfl, hb, hat, hf⟩
  · obtain rfl := h0
    refine (markLimbS_none a c k0 _).mono ?_
    rintro e w1 ⟨rfl, rfl⟩
    go_wp2
    go_ret
    refine ⟨by simp, BelowBut.of (by go_grown), ⟨a, c, off, rfl, by omega, .inl rfl⟩⟩
  · have hbl : Below w.heap.size w (w.alloc (.cells #[.slice (some ⟨b, off, none⟩) n c] 28)) := by go_grown
    refine (markLimbS_some b off c n N k0 _ hn hk0 hk1 (by simp; omega) (hat.below hbl hb) (hf.below hbl hb)).mono ?_
    rintro e w1 ⟨rfl, hb1, hat1, hf1⟩
    have HB : Hid (BelowBut _ b _ w1) := hb1
    have HA : Hid (LimbsAt w1 b off n fun i => mkL (k0 + 4 * i)) := hat1
    have HF : Hid (LFree w1 b off n) := hf1
    clear hb1 hat1 hf1 hat hf hbl HH
    go_wp2
    go_ret
    have hsz := HB.out.size
    simp at hsz
    exact ⟨rfl, (BelowBut.of (by go_grown)).trans (HB.out.mono (by simp)), ⟨_, c, off, rfl, hn4, .inr ⟨rfl, by omega, HA.out, HF.out⟩⟩⟩

set_option maxHeartbeats 400000 in
theorem heldTreap_any (v : Value) (b n : Nat) (k0 : Int) (w : World) (hn : n ≤ 2 ^ 30) (hk0 : 0 < k0) (hk1 : k0 ≤ 2 ^ 30) (h : OwnR w b v n (fun i => mkL (k0 + 4 * i))) :
    Calls Try.prog 10 #[.agg #[v], .int .i64 k0] w fun e w' => e = .returned (.int .i64 (k0 + 4 * n)) ∧ Below w.heap.size w w' := by
  obtain ⟨a, c, off, rfl, hn4, h⟩ := h
  have HH : Hid (n = 0 ∨ (a = some ⟨b, off, none⟩ ∧ b < w.heap.size ∧ LimbsAt w b off n (fun i => mkL (k0 + 4 * i)) ∧ LFree w b off n)) := h
  clear h
  go_enter Try.func10, Try.ntmps10
  go_wp2_with fail
  rcases HH.out with h0 | ⟨rfl, hb, hat, hf⟩
  · obtain rfl := h0
    refine (heldLimbS_none a c k0 _).mono ?_
    rintro e w1 ⟨rfl, rfl⟩
    go_wp2
    go_ret
    exact ⟨by simp, by go_grown⟩
  · have hbl : Below w.heap.size w (w.alloc (.cells #[.slice (some ⟨b, off, none⟩) n c] 28)) := by go_grown
    refine (heldLimbS_some b off c n k0 _ hn hk0 hk1 (by simp; omega) (hat.below hbl hb)).mono ?_
    rintro e w1 ⟨rfl, hb1⟩
    have HB : Hid (Below _ _ w1) := hb1
    clear hb1 hat hf hbl HH
    go_wp2
    go_ret
    exact ⟨rfl, (show Below w.heap.size w _ by go_grown).trans (HB.out.mono (by simp))⟩

theorem OwnR.but2 {w w' : World} {b g : Nat} {v : Value} {n : Nat} {f : Nat → Lb} (h : OwnR w g v n f) (hb : BelowBut w.heap.size b w w') (hne : n ≠ 0 → g ≠ b) : OwnR w' g v n f := by
  by_cases h0 : n = 0
  · obtain ⟨a, c, off, rfl, hn, _⟩ := h
    exact ⟨a, c, off, rfl, hn, .inl h0⟩
  · exact h.but hb (hne h0)
theorem OwnR.lt {w : World} {b : Nat} {v : Value} {n : Nat} {N : Nat → Lb} (h : OwnR w b v n N) (hn : n ≠ 0) : b < w.heap.size := by
  obtain ⟨a, c, off, rfl, _, h0 | ⟨rfl, hlt, _⟩⟩ := h
  · exact absurd h0 hn
  · exact hlt
end Go.Proofs.Ytnmbnebofbdmfaa
