/- Lists of postings: what the program asks of them. No condition. -/
import Derived.Test.YtikgcgfigcolmaaPoM
namespace Go.Proofs.Ytikgcgfigcolmaa
open Go.RowKit
set_option linter.unusedVariables false

theorem below_a1' (w : World) (o : Obj) : Below w.heap.size w (w.alloc o) := (Below.refl _ _).alloc (Nat.le_refl _) o

set_option maxRecDepth 100000 in
set_option maxHeartbeats 2000000 in
theorem arePostings_k (l : List DPosting) (a : Option Addr) (n c : Nat) (S : Nat → Prop) (texts : Int) (w : World) (h : (kRow kPosting).is false w S [.slice a n c] l) :
    Calls Try.prog 53 #[.slice a n c, .int .i64 texts] w fun e w' => e = .returned (.bool (postOk texts (-1) l)) ∧ Below w.heap.size w w' := by
  have hnl := row_len h
  have hmx : n ≤ 9223372036854775807 := by obtain ⟨_, _, _, h, _⟩ := row_form h; rw [hnl]; exact h
  have HNL : Hid (n = l.length) := hnl
  have H : Hid ((kRow kPosting).is false w S [.slice a n c] l) := h
  obtain ⟨q, hq⟩ : ∃ q, q = postOk texts (-1) l := ⟨_, rfl⟩
  have HQ : Hid (q = postOk texts (-1) l) := hq
  rw [← hq]
  clear h hnl hq
  go_enter Try.func53, Try.ntmps53
  go_wp2_with fail
  go_loopw [5, 10] (fun lv iv wr => ∃ (k : Nat) (last : Int), k ≤ n ∧ iv = .int .i64 k ∧ lv = .int .i64 last ∧ Hid (postOk texts last (l.drop k) = q) ∧ Below w.heap.size w wr) (fun _ iv _ => n - (intOf iv).toNat)
  case atStart => exact ⟨0, -1, Nat.zero_le _, rfl, rfl, HQ.out.symm, Below.refl _ _⟩
  case round =>
    obtain ⟨k, last, hk, rfl, rfl, HI, hnx⟩ := hrel
    by_cases hlt : k < n
    · obtain ⟨x, hx⟩ : ∃ x, l[k]? = some x := ⟨_, List.getElem?_eq_getElem (by rw [← HNL.out]; exact hlt)⟩
      obtain ⟨b, off, B, C, rfl, hb, _, hi, _, hc⟩ := row_at (Kd.below H.out hnx) hx
      obtain ⟨t, m⟩ := x
      obtain ⟨rfl, g0, g1⟩ := kPosting_open hi
      have A0 : wr.cell? ⟨b, off + k * 2, none⟩ = some (.int .i64 t) := (hc 0 _ rfl).1
      have A1 : wr.cell? ⟨b, off + k * 2 + 1, none⟩ = some (.int .i64 m) := (hc 1 _ rfl).1
      have i0 : (0 : Int) ≤ (k : Int) := by omega
      have i1 : (k : Int) < (n : Int) := by omega
      have hdr : l.drop k = (t, m) :: l.drop (k + 1) := by
        rw [List.drop_eq_getElem_cons (by rw [← HNL.out]; exact hlt)]
        congr 1
        exact (List.getElem?_eq_some_iff.1 hx).2
      have HI1 : Hid ((decide (last < t ∧ t < texts ∧ 1 ≤ m ∧ m ≤ 100) && postOk texts t (l.drop (k + 1))) = q) := by have := HI.out; rw [hdr, postOk] at this; exact this
      have zw := hnx.size
      clear hc hi hx hdr HI
      by_cases c1 : t ≤ last
      · have HF : Hid (q = false) := by have := HI1.out; rw [decide_eq_false (by omega)] at this; exact this.symm
        clear HI1
        go_wp2
        go_ret
        exact ⟨by rw [HF.out]; rfl, hnx.alloc zw _⟩
      · by_cases c2 : texts ≤ t
        · have HF : Hid (q = false) := by have := HI1.out; rw [decide_eq_false (by omega)] at this; exact this.symm
          clear HI1
          go_wp2
          go_ret
          exact ⟨by rw [HF.out]; rfl, hnx.alloc zw _⟩
        · by_cases c3 : m < 1
          · have HF : Hid (q = false) := by have := HI1.out; rw [decide_eq_false (by omega)] at this; exact this.symm
            clear HI1
            go_wp2
            go_ret
            exact ⟨by rw [HF.out]; rfl, hnx.alloc zw _⟩
          · by_cases c4 : 100 < m
            · have HF : Hid (q = false) := by have := HI1.out; rw [decide_eq_false (by omega)] at this; exact this.symm
              clear HI1
              go_wp2
              go_ret
              exact ⟨by rw [HF.out]; rfl, hnx.alloc zw _⟩
            · have HI2 : Hid (postOk texts t (l.drop (k + 1)) = q) := by have := HI1.out; rw [decide_eq_true (by omega)] at this; exact this
              clear HI1
              go_wp2
              go_roundw
              case rel => exact ⟨k + 1, t, by omega, by go_num, rfl, HI2, hnx.alloc zw _⟩
              case measure => simp [intOf]; omega
    · have HF : Hid (q = true) := by
        have := HI.out
        rw [show k = l.length by rw [← HNL.out]; omega, List.drop_length, postOk] at this
        exact this.symm
      go_wp2
      go_ret
      exact ⟨by rw [HF.out]; rfl, hnx⟩
end Go.Proofs.Ytikgcgfigcolmaa
