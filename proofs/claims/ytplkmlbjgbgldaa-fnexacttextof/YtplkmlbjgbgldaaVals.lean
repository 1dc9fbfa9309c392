/- What marking and holding do to a value of the call's own; numbers and texts as values. No condition. -/
import Derived.Test.YtplkmlbjgbgldaaBase
namespace Go.Proofs.Ytplkmlbjgbgldaa
open Go.RowKit

/-- The slice value v is n nodes N, in block b, which may be written. -/
def OwnAt (w : World) (b : Nat) (v : Value) (n : Nat) (N : Nat → Nd) : Prop :=
  ∃ a c off, v = .slice a n c ∧ n ≤ 2 ^ 30 ∧ (n = 0 ∨ (a = some ⟨b, off, none⟩ ∧ b < w.heap.size ∧ NodesAt w b off n N ∧ FreeAt w b off n))

theorem OwnAt.slice {w : World} {b : Nat} {v : Value} {n : Nat} {N : Nat → Nd} (h : OwnAt w b v n N) : SliceIs w w.heap.size v n N := by
  obtain ⟨a, c, off, rfl, hn, h0 | ⟨rfl, hb, hat, _⟩⟩ := h
  · exact ⟨a, c, rfl, by omega, .inl h0⟩
  · exact ⟨_, c, rfl, by omega, .inr ⟨b, off, rfl, hb, hat⟩⟩

theorem OwnAt.form {w : World} {b : Nat} {v : Value} {n : Nat} {N : Nat → Nd} (h : OwnAt w b v n N) : ∃ a c, v = .slice a n c := by
  obtain ⟨a, c, _, rfl, _⟩ := h
  exact ⟨a, c, rfl⟩
theorem OwnAt.lt {w : World} {b : Nat} {v : Value} {n : Nat} {N : Nat → Nd} (h : OwnAt w b v n N) (hn : n ≠ 0) : b < w.heap.size := by
  obtain ⟨_, _, _, _, _, h0 | ⟨_, h, _⟩⟩ := h
  · exact absurd h0 hn
  · exact h

theorem FreeAt.below {w w' : World} {B b off n : Nat} (h : FreeAt w b off n) (hb : Below B w w') (hB : b < B) : FreeAt w' b off n := fun o ho => (hb.frozen hB).trans (h o ho)

theorem OwnAt.below {w w' : World} {b : Nat} {v : Value} {n : Nat} {N : Nat → Nd} (h : OwnAt w b v n N) (hb : Below w.heap.size w w') : OwnAt w' b v n N := by
  obtain ⟨a, c, off, rfl, hn, h0 | ⟨rfl, hlt, hat, hf⟩⟩ := h
  · exact ⟨a, c, off, rfl, hn, .inl h0⟩
  · exact ⟨_, c, off, rfl, hn, .inr ⟨rfl, Nat.lt_of_lt_of_le hlt hb.size, hat.below hb hlt, hf.below hb hlt⟩⟩

theorem SliceIs.but {w w' : World} {B B' b : Nat} {v : Value} {n : Nat} {N : Nat → Nd} (h : SliceIs w B v n N) (hb : BelowBut B' b w w') (hB : B ≤ B') (hlt : B ≤ b) : SliceIs w' B v n N :=
  h.below (hb.below hB hlt) (Nat.le_refl _)

set_option maxHeartbeats 400000 in
theorem markValue_any (v : Value) (b n : Nat) (N : Nat → Nd) (k0 : Int) (w : World) (hk0 : 0 < k0) (hk1 : k0 ≤ 2 ^ 30) (h : OwnAt w b v n N) :
    Calls Try.prog 8 #[.agg #[v], .int .i64 k0] w fun e w' => e = .returned (.int .i64 (k0 + 5 * n)) ∧ BelowBut w.heap.size b w w' ∧ OwnAt w' b v n (fun i => mk (k0 + 5 * i)) := by
  obtain ⟨a, c, off, rfl, hn, h⟩ := h
  have HH : Hid (n = 0 ∨ (a = some ⟨b, off, none⟩ ∧ b < w.heap.size ∧ NodesAt w b off n N ∧ FreeAt w b off n)) := h
  clear h
  go_enter Try.func8, Try.ntmps8
  go_wp2_with fail
  rcases HH.out with h0 | ⟨rfl, hb, hat, hf⟩
  · obtain rfl := h0
    refine (markNodeS_none a c k0 _).mono ?_
    rintro e w1 ⟨rfl, rfl⟩
    go_wp2
    go_ret
    refine ⟨by simp, BelowBut.of (by go_grown), ⟨a, c, off, rfl, by omega, .inl rfl⟩⟩
  · have hbl : Below w.heap.size w (w.alloc (.cells #[.slice (some ⟨b, off, none⟩) n c] 24)) := by go_grown
    refine (markNodeS_some b off c n N k0 _ hn hk0 hk1 (by simp; omega) (hat.below hbl hb) (hf.below hbl hb)).mono ?_
    rintro e w1 ⟨rfl, hb1, hat1, hf1⟩
    have HB : Hid (BelowBut _ b _ w1) := hb1
    have HA : Hid (NodesAt w1 b off n fun i => mk (k0 + 5 * i)) := hat1
    have HF : Hid (FreeAt w1 b off n) := hf1
    clear hb1 hat1 hf1 hat hf hbl HH
    go_wp2
    go_ret
    have hsz := HB.out.size
    simp at hsz
    exact ⟨rfl, (BelowBut.of (by go_grown)).trans (HB.out.mono (by simp)), ⟨_, c, off, rfl, hn, .inr ⟨rfl, by omega, HA.out, HF.out⟩⟩⟩

set_option maxHeartbeats 400000 in
theorem heldValue_any (v : Value) (b n : Nat) (k0 : Int) (w : World) (hk0 : 0 < k0) (hk1 : k0 ≤ 2 ^ 30) (h : OwnAt w b v n (fun i => mk (k0 + 5 * i))) :
    Calls Try.prog 9 #[.agg #[v], .int .i64 k0] w fun e w' => e = .returned (.int .i64 (k0 + 5 * n)) ∧ Below w.heap.size w w' := by
  obtain ⟨a, c, off, rfl, hn, h⟩ := h
  have HH : Hid (n = 0 ∨ (a = some ⟨b, off, none⟩ ∧ b < w.heap.size ∧ NodesAt w b off n (fun i => mk (k0 + 5 * i)) ∧ FreeAt w b off n)) := h
  clear h
  go_enter Try.func9, Try.ntmps9
  go_wp2_with fail
  rcases HH.out with h0 | ⟨rfl, hb, hat, hf⟩
  · obtain rfl := h0
    refine (heldNodeS_none a c k0 _).mono ?_
    rintro e w1 ⟨rfl, rfl⟩
    go_wp2
    go_ret
    exact ⟨by simp, by go_grown⟩
  · have hbl : Below w.heap.size w (w.alloc (.cells #[.slice (some ⟨b, off, none⟩) n c] 24)) := by go_grown
    refine (heldNodeS_some b off c n k0 _ hn hk0 hk1 (by simp; omega) (hat.below hbl hb)).mono ?_
    rintro e w1 ⟨rfl, hb1⟩
    have HB : Hid (Below _ _ w1) := hb1
    clear hb1 hat hf hbl HH
    go_wp2
    go_ret
    exact ⟨rfl, (show Below w.heap.size w _ by go_grown).trans (HB.out.mono (by simp))⟩

/-- The node of a number. -/
def numNd (n : Int) : Nd := ⟨4, n, ⟨#[]⟩, ⟨#[]⟩, -1⟩

theorem own_new (w : World) (k n u : Int) (t m : ByteArray) (T : TypeId) (b : Nat) (hb : w.heap.size = b) : OwnAt (w.alloc (.cells #[.int .i64 k, .int .i64 n, .string t, .string m, .int .i64 u] T)) b (.slice (some ⟨b, 0, none⟩) 1 1) 1 (fun _ => ⟨k, n, t, m, u⟩) := by
  subst hb
  refine ⟨_, 1, 0, rfl, by omega, .inr ⟨rfl, by simp, fun i hi => ?_, fun o ho => ?_⟩⟩
  · obtain rfl : i = 0 := by omega
    simp [World.cell?_alloc_new]
  · exact World.frozen?_alloc_new _ _ _ _

/-- The number that NumberOf takes. -/
def numIn (n : Int) : Int := if -1000000000 ≤ n ∧ n ≤ 1000000000 then n else 0

set_option maxHeartbeats 400000 in
theorem specNumberOf_any (n : Int) (w : World) :
    Calls Try.prog 5 #[.int .i64 n] w fun e w' => ∃ b v, e = .returned (.agg #[v]) ∧ w.heap.size ≤ b ∧ OwnAt w' b v 1 (fun _ => numNd (numIn n)) ∧ Below w.heap.size w w' := by
  by_cases h0 : -1000000000 ≤ n
  · by_cases h1 : n ≤ 1000000000
    · have e : numIn n = n := if_pos ⟨h0, h1⟩
      rw [e]
      clear e
      go_enter Try.func5, Try.ntmps5
      go_wp2
      exact bodyPost_ret (v := .agg #[.slice (some ⟨w.heap.size + 1, 0, none⟩) 1 1]) (by simp [results, Try.results5, go_sem]) rfl ⟨w.heap.size + 1, _, rfl, by omega, own_new _ _ _ _ _ _ _ _ (by simp), by go_grown⟩
    · have e : numIn n = 0 := if_neg (by omega)
      rw [e]
      clear e
      go_enter Try.func5, Try.ntmps5
      go_wp2
      exact bodyPost_ret (v := .agg #[.slice (some ⟨w.heap.size + 1, 0, none⟩) 1 1]) (by simp [results, Try.results5, go_sem]) rfl ⟨w.heap.size + 1, _, rfl, by omega, own_new _ _ _ _ _ _ _ _ (by simp), by go_grown⟩
  · have e : numIn n = 0 := if_neg (by omega)
    rw [e]
    clear e
    go_enter Try.func5, Try.ntmps5
    go_wp2
    exact bodyPost_ret (v := .agg #[.slice (some ⟨w.heap.size + 1, 0, none⟩) 1 1]) (by simp [results, Try.results5, go_sem]) rfl ⟨w.heap.size + 1, _, rfl, by omega, own_new _ _ _ _ _ _ _ _ (by simp), by go_grown⟩

set_option maxHeartbeats 400000 in
theorem implNumberOf_any (n : Int) (w : World) :
    Calls Try.prog 6 #[.int .i64 n] w fun e w' => ∃ b v, e = .returned (.agg #[v]) ∧ w.heap.size ≤ b ∧ OwnAt w' b v 1 (fun _ => numNd (numIn n)) ∧ Below w.heap.size w w' := by
  by_cases h0 : -1000000000 ≤ n
  · by_cases h1 : n ≤ 1000000000
    · have e : numIn n = n := if_pos ⟨h0, h1⟩
      rw [e]
      clear e
      go_enter Try.func6, Try.ntmps6
      go_wp2
      exact bodyPost_ret (v := .agg #[.slice (some ⟨w.heap.size + 1 + 1, 0, none⟩) 1 1]) (by simp [results, Try.results6, go_sem]) rfl ⟨w.heap.size + 1 + 1, _, rfl, by omega, own_new _ _ _ _ _ _ _ _ (by simp), by go_grown⟩
    · have e : numIn n = 0 := if_neg (by omega)
      rw [e]
      clear e
      go_enter Try.func6, Try.ntmps6
      go_wp2
      exact bodyPost_ret (v := .agg #[.slice (some ⟨w.heap.size + 1 + 1, 0, none⟩) 1 1]) (by simp [results, Try.results6, go_sem]) rfl ⟨w.heap.size + 1 + 1, _, rfl, by omega, own_new _ _ _ _ _ _ _ _ (by simp), by go_grown⟩
  · have e : numIn n = 0 := if_neg (by omega)
    rw [e]
    clear e
    go_enter Try.func6, Try.ntmps6
    go_wp2
    exact bodyPost_ret (v := .agg #[.slice (some ⟨w.heap.size + 1 + 1, 0, none⟩) 1 1]) (by simp [results, Try.results6, go_sem]) rfl ⟨w.heap.size + 1 + 1, _, rfl, by omega, own_new _ _ _ _ _ _ _ _ (by simp), by go_grown⟩

end Go.Proofs.Ytplkmlbjgbgldaa
