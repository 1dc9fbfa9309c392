/- What marking and holding do to a value of the call's own; numbers and texts as values. No condition. -/
import Derived.Test.YtnmbnebofbdmfaaGreatDoorVals0
namespace Go.Proofs.YtnmbnebofbdmfaaGreatDoor
open Go.RowKit

set_option maxHeartbeats 400000 in
theorem markValue_any (v : Value) (b n : Nat) (N : Nat → Nd) (k0 : Int) (w : World) (hk0 : 0 < k0) (hk1 : k0 ≤ 2 ^ 30) (h : OwnAt w b v n N) :
    Calls Tryz.prog 9 #[.agg #[v], .int .i64 k0] w fun e w' => e = .returned (.int .i64 (k0 + 5 * n)) ∧ BelowBut w.heap.size b w w' ∧ OwnAt w' b v n (fun i => mk (k0 + 5 * i)) := by
  obtain ⟨a, c, off, rfl, hn, h⟩ := h
  have HH : Hid (n = 0 ∨ (a = some ⟨b, off, none⟩ ∧ b < w.heap.size ∧ NodesAt w b off n N ∧ FreeAt w b off n)) := h
  clear h
  go_enter Tryz.func9, Tryz.ntmps9
  go_wp2_with fail
  rcases HH.out with h0 | ⟨rfl, hb, hat, hf⟩
  · obtain rfl := h0
    refine (markNodeS_none a c k0 _).mono ?_
    rintro e w1 ⟨rfl, rfl⟩
    go_wp2
    go_ret
    refine ⟨by simp, BelowBut.of (by go_grown), ⟨a, c, off, rfl, by omega, .inl rfl⟩⟩
  · have hbl : Below w.heap.size w (w.alloc (.cells #[.slice (some ⟨b, off, none⟩) n c] 28)) := by go_grown
    refine (markNodeS_some b off c n N k0 _ hn hk0 hk1 (by simp; omega) (hat.below hbl hb) (hf.below hbl hb)).mono ?_
    rintro e w1 ⟨rfl, hb1, hat1, hf1⟩
    have HB : Hid (BelowBut _ b _ w1) := hb1
    have HA : Hid (NodesAt w1 b off n fun i => mk (k0 + 5 * i)) := hat1
    have HF : Hid (FreeAt w1 b off n) := hf1
    clear hb1 hat1 hf1 hat hf hbl HH
    go_wp2
    go_ret
    have hsz := HB.out.size
    simp at hsz
    exact ⟨rfl, (BelowBut.of (by go_grown)).trans (HB.out.mono (by simp)), ⟨_, c, off, rfl, hn, .inr ⟨rfl, by omega, HA.out, HF.out⟩⟩⟩

set_option maxHeartbeats 400000 in
theorem heldValue_any (v : Value) (b n : Nat) (k0 : Int) (w : World) (hk0 : 0 < k0) (hk1 : k0 ≤ 2 ^ 30) (h : OwnAt w b v n (fun i => mk (k0 + 5 * i))) :
    Calls Tryz.prog 10 #[.agg #[v], .int .i64 k0] w fun e w' => e = .returned (.int .i64 (k0 + 5 * n)) ∧ Below w.heap.size w w' := by
  obtain ⟨a, c, off, rfl, hn, h⟩ := h
  have HH : Hid (n = 0 ∨ (a = some ⟨b, off, none⟩ ∧ b < w.heap.size ∧ NodesAt w b off n (fun i => mk (k0 + 5 * i)) ∧ FreeAt w b off n)) := h
  clear h
  go_enter Tryz.func10, Tryz.ntmps10
  go_wp2_with fail
  rcases HH.out with h0 | ⟨rfl, hb, hat, hf⟩
  · obtain rfl := h0
    refine (heldNodeS_none a c k0 _).mono ?_
    rintro e w1 ⟨rfl, rfl⟩
    go_wp2
    go_ret
    exact ⟨by simp, by go_grown⟩
  · have hbl : Below w.heap.size w (w.alloc (.cells #[.slice (some ⟨b, off, none⟩) n c] 28)) := by go_grown
    refine (heldNodeS_some b off c n k0 _ hn hk0 hk1 (by simp; omega) (hat.below hbl hb)).mono ?_
    rintro e w1 ⟨rfl, hb1⟩
    have HB : Hid (Below _ _ w1) := hb1
    clear hb1 hat hf hbl HH
    go_wp2
    go_ret
    exact ⟨rfl, (show Below w.heap.size w _ by go_grown).trans (HB.out.mono (by simp))⟩

end Go.Proofs.YtnmbnebofbdmfaaGreatDoor
