/- The specification's text of a list and of a map; and so of every value. -/
import Derived.Test.YtjbjgkkkkghcgaaGreatDoorSpecText
namespace Go.Proofs.YtjbjgkkkkghcgaaGreatDoor
open Go.RowKit
set_option linter.unusedVariables false

def TextSaid (N : Nat → Nd) (n k : Nat) : Prop := ∀ (a : Option Addr) (c : Nat) (w : World), ArgIs w a n N →
    Calls Tryz.prog 41 #[.agg #[.slice a n c], .int .i64 k] w fun e w' => e = .returned (.string (strL (T N n k))) ∧ Below w.heap.size w w'

theorem inner_step {m : Nat} (f : Nat → List UInt8) (ks : List Nat) (p : Nat) (hp : ks.getD m 0 = p) : innerTo f ks (m + 1) = innerTo f ks m ++ ((if m = 0 then [] else [44]) ++ f p) := by rw [innerTo, hp]

theorem headL_list {N : Nat → Nd} {k p : Nat} (h : (N k).kind = 6) : headL N k p = [] := by rw [headL, if_neg (by omega)]
theorem headL_map {N : Nat → Nd} {k p : Nat} (h : (N k).kind = 7) : headL N k p = quoteL (N p).name ++ [58] := by rw [headL, if_pos h]

set_option maxRecDepth 100000 in
set_option maxHeartbeats 4000000 in
theorem l1Text_list (a : Option Addr) (c n k : Nat) (N : Nat → Nd) (w : World) (hn : n ≤ 80) (hk : k < n) (h : ArgIs w a n N) (ht : TOK N n) (h6 : (N k).kind = 6) (ih : ∀ p, k < p → p < n → TextSaid N n p) :
    Calls Tryz.prog 41 #[.agg #[.slice a n c], .int .i64 k] w fun e w' => e = .returned (.string (strL (T N n k))) ∧ Below w.heap.size w w' := by
  have HR : Hid (T N n k = openL N k :: (innerTo (fun p => headL N k p ++ T N n p) (kidsTo N k n) (kidsTo N k n).length ++ [closeL N k])) := T_parts hk (.inl h6)
  have HL := fun m hm => inner_le ht.tb hk (.inl h6) m hm
  have HLL : Hid (∀ m, m ≤ (kidsTo N k n).length → (innerTo (fun p => headL N k p ++ T N n p) (kidsTo N k n) m).length ≤ 200 * n) := HL
  have HTL : Hid (∀ p, p < n → (T N n p).length ≤ 200 * n) := fun p hp => T_le ht.tb hp
  have HIH : Hid (∀ p, k < p → p < n → TextSaid N n p) := ih
  have H : Hid (ArgIs w a n N) := h
  have H6 : Hid ((N k).kind = 6) := h6
  clear HL ih
  rcases h with h0 | ⟨b, off, rfl, hb, hat⟩
  · omega
  obtain ⟨a0, a1, a2, a3, a4⟩ := hat k hk
  rw [h6] at a0
  have i0 : (0 : Int) ≤ (k : Int) := by omega
  have i1 : (k : Int) < (n : Int) := by omega
  clear h6 ht hat
  go_enter Tryz.func41, Tryz.ntmps41
  go_wp2_with fail
  refine (l1Kids_any _ c n k N _ (by omega) hk (H.out.below (by go_grown))).mono ?_
  rintro e w1 ⟨v, rfl, hown, hb1⟩
  obtain ⟨av, cap, rfl, hcs⟩ := own_ints hown
  have HC : Hid (kidsTo N k n = [] ∨ ∃ g, av = some ⟨g, 0, none⟩ ∧ _ ≤ g ∧ g < w1.heap.size ∧ ∀ j, j < (kidsTo N k n).length → w1.cell? ⟨g, j, none⟩ = some (.int .i64 ((kidsTo N k n).getD j 0 : Nat))) := hcs
  have x0 : w1.cell? ⟨w.heap.size, 0, none⟩ = some (.slice (some ⟨b, off, none⟩) n c) := by rw [hb1.cell (by simp; omega)]; simp [go_sem]
  have x1 : w1.cell? ⟨w.heap.size + 1, 0, none⟩ = some (.int .i64 6) := by rw [hb1.cell (by simp)]; simp [go_sem]
  have z1 := hb1.size
  simp at z1
  have HB1 : Hid (Below w.heap.size w w1) := (show Below w.heap.size w _ by go_grown).trans (hb1.mono (by simp; omega))
  have hkl := kids_len N k n
  obtain ⟨ks, hks⟩ : ∃ ks, ks = kidsTo N k n := ⟨_, rfl⟩
  rw [← hks] at hkl HC ⊢
  have HKS : Hid (ks = kidsTo N k n) := hks
  clear hown hcs hb1 hks
  go_wp2_with fail
  go_loopw [6, 36] (fun s i wr => ∃ m : Nat, m ≤ ks.length ∧ i = .int .i64 m ∧ s = .string (strL (innerTo (fun p => headL N k p ++ T N n p) ks m)) ∧ Below w1.heap.size w1 wr) (fun _ i _ => ks.length - (intOf i).toNat)
  case atStart => exact ⟨0, Nat.zero_le _, rfl, rfl, Below.refl _ _⟩
  case round =>
    obtain ⟨m, hm, rfl, rfl, hnx⟩ := hrel
    have hz := hnx.size
    have y0 : wr.cell? ⟨w.heap.size, 0, none⟩ = some (.slice (some ⟨b, off, none⟩) n c) := by rw [hnx.cell (by show w.heap.size < _; omega)]; exact x0
    have y1 : wr.cell? ⟨w.heap.size + 1, 0, none⟩ = some (.int .i64 6) := by rw [hnx.cell (by show w.heap.size + 1 < _; omega)]; exact x1
    have hlen : (strL (innerTo (fun p => headL N k p ++ T N n p) ks m)).size ≤ 16000 := by
      have := HLL.out m (by rw [← HKS.out]; exact hm)
      rw [strL_size, HKS.out]
      omega
    by_cases hlt : m < ks.length
    · rcases HC.out with h0 | ⟨g, rfl, hg0, hg, hcell⟩
      · rw [h0] at hlt; simp at hlt
      have hc := hcell m hlt
      obtain ⟨p, hp⟩ : ∃ p, p = ks.getD m 0 := ⟨_, rfl⟩
      rw [← hp] at hc
      have hpm : p ∈ kidsTo N k n := by rw [hp, ← HKS.out, List.getD_eq_getElem?_getD, List.getElem?_eq_getElem hlt]; exact List.getElem_mem _
      obtain ⟨p1, p2, _⟩ := kidsTo_mem hpm
      have hc2 : wr.cell? ⟨g, m, none⟩ = some (.int .i64 (p : Int)) := by rw [hnx.cell (by show g < _; omega)]; exact hc
      have HST : Hid (innerTo (fun p => headL N k p ++ T N n p) ks (m + 1) = innerTo (fun p => headL N k p ++ T N n p) ks m ++ ((if m = 0 then [] else [44]) ++ ([] ++ T N n p))) := by
        show _ = _
        rw [inner_step _ ks p hp.symm]
        simp only [headL_list H6.out]
      have HTP := HIH.out p p1 p2
      have htl : (strL (T N n p)).size ≤ 16000 := by have := HTL.out p p2; rw [strL_size]; omega
      have j0 : (0 : Int) ≤ (m : Int) := by omega
      have j1 : (m : Int) < (ks.length : Int) := by omega
      have HTS : Hid (TextSaid N n p) := HTP
      have hgw : g < wr.heap.size := by omega
      have hw1 : w.heap.size < wr.heap.size := by omega
      have hw2 : w.heap.size + 1 < wr.heap.size := by omega
      clear hcell hc hp hpm HTP
      by_cases hm0 : 0 < m
      · have hm0' : (0 : Int) < (m : Int) := by omega
        go_wp2_with (go_at_call 41; refine (HTS.out _ _ _ (H.out.below (HB1.out.trans (hnx.mono HB1.out.size)))).mono ?_; rintro e w2 ⟨rfl, hb2⟩)
        go_roundw
        case rel => exact ⟨m + 1, by omega, by go_num, by rw [HST.out, if_neg (by omega), inner_b], hnx.trans (hb2.mono hz)⟩
        case measure => simp [intOf]; omega
      · have hm0' : ¬ (0 : Int) < (m : Int) := by omega
        go_wp2_with (go_at_call 41; refine (HTS.out _ _ _ (H.out.below (HB1.out.trans (hnx.mono HB1.out.size)))).mono ?_; rintro e w2 ⟨rfl, hb2⟩)
        go_roundw
        case rel => exact ⟨m + 1, by omega, by go_num, by rw [HST.out, if_pos (by omega), inner_a], hnx.trans (hb2.mono hz)⟩
        case measure => simp [intOf]; omega
    · go_wp2
      go_ret
      obtain rfl : m = ks.length := by omega
      refine ⟨ret_str ?_, HB1.out.trans (hnx.mono HB1.out.size)⟩
      rw [HR.out, openL, closeL, if_neg (by rw [H6.out]; omega), if_neg (by rw [H6.out]; omega), ← HKS.out]
      exact whole_list

set_option maxRecDepth 100000 in
set_option maxHeartbeats 4000000 in
theorem l1Text_map (a : Option Addr) (c n k : Nat) (N : Nat → Nd) (w : World) (hn : n ≤ 80) (hk : k < n) (h : ArgIs w a n N) (ht : TOK N n) (h6 : (N k).kind = 7) (ih : ∀ p, k < p → p < n → TextSaid N n p) :
    Calls Tryz.prog 41 #[.agg #[.slice a n c], .int .i64 k] w fun e w' => e = .returned (.string (strL (T N n k))) ∧ Below w.heap.size w w' := by
  have HR : Hid (T N n k = openL N k :: (innerTo (fun p => headL N k p ++ T N n p) (kidsTo N k n) (kidsTo N k n).length ++ [closeL N k])) := T_parts hk (.inr h6)
  have HL := fun m hm => inner_le ht.tb hk (.inr h6) m hm
  have HLL : Hid (∀ m, m ≤ (kidsTo N k n).length → (innerTo (fun p => headL N k p ++ T N n p) (kidsTo N k n) m).length ≤ 200 * n) := HL
  have HTL : Hid (∀ p, p < n → (T N n p).length ≤ 200 * n) := fun p hp => T_le ht.tb hp
  have HIH : Hid (∀ p, k < p → p < n → TextSaid N n p) := ih
  have H : Hid (ArgIs w a n N) := h
  have H6 : Hid ((N k).kind = 7) := h6
  have HNM : Hid (∀ p, p < n → (N p).name.size ≤ 24) := fun p hp => ht.tb.name p hp
  clear HL ih
  rcases h with h0 | ⟨b, off, rfl, hb, hat⟩
  · omega
  obtain ⟨a0, a1, a2, a3, a4⟩ := hat k hk
  rw [h6] at a0
  have i0 : (0 : Int) ≤ (k : Int) := by omega
  have i1 : (k : Int) < (n : Int) := by omega
  clear h6 ht hat
  go_enter Tryz.func41, Tryz.ntmps41
  go_wp2_with fail
  refine (l1Kids_any _ c n k N _ (by omega) hk (H.out.below (by go_grown))).mono ?_
  rintro e w1 ⟨v, rfl, hown, hb1⟩
  obtain ⟨av, cap, rfl, hcs⟩ := own_ints hown
  have HC : Hid (kidsTo N k n = [] ∨ ∃ g, av = some ⟨g, 0, none⟩ ∧ _ ≤ g ∧ g < w1.heap.size ∧ ∀ j, j < (kidsTo N k n).length → w1.cell? ⟨g, j, none⟩ = some (.int .i64 ((kidsTo N k n).getD j 0 : Nat))) := hcs
  have x0 : w1.cell? ⟨w.heap.size, 0, none⟩ = some (.slice (some ⟨b, off, none⟩) n c) := by rw [hb1.cell (by simp; omega)]; simp [go_sem]
  have x1 : w1.cell? ⟨w.heap.size + 1, 0, none⟩ = some (.int .i64 7) := by rw [hb1.cell (by simp)]; simp [go_sem]
  have z1 := hb1.size
  simp at z1
  have HB1 : Hid (Below w.heap.size w w1) := (show Below w.heap.size w _ by go_grown).trans (hb1.mono (by simp; omega))
  have hkl := kids_len N k n
  obtain ⟨ks, hks⟩ : ∃ ks, ks = kidsTo N k n := ⟨_, rfl⟩
  rw [← hks] at hkl HC ⊢
  have HKS : Hid (ks = kidsTo N k n) := hks
  clear hown hcs hb1 hks
  go_wp2_with fail
  go_loopw [6, 36] (fun s i wr => ∃ m : Nat, m ≤ ks.length ∧ i = .int .i64 m ∧ s = .string (strL (innerTo (fun p => headL N k p ++ T N n p) ks m)) ∧ Below w1.heap.size w1 wr) (fun _ i _ => ks.length - (intOf i).toNat)
  case atStart => exact ⟨0, Nat.zero_le _, rfl, rfl, Below.refl _ _⟩
  case round =>
    obtain ⟨m, hm, rfl, rfl, hnx⟩ := hrel
    have hz := hnx.size
    have y0 : wr.cell? ⟨w.heap.size, 0, none⟩ = some (.slice (some ⟨b, off, none⟩) n c) := by rw [hnx.cell (by show w.heap.size < _; omega)]; exact x0
    have y1 : wr.cell? ⟨w.heap.size + 1, 0, none⟩ = some (.int .i64 7) := by rw [hnx.cell (by show w.heap.size + 1 < _; omega)]; exact x1
    have hlen : (strL (innerTo (fun p => headL N k p ++ T N n p) ks m)).size ≤ 16000 := by
      have := HLL.out m (by rw [← HKS.out]; exact hm)
      rw [strL_size, HKS.out]
      omega
    by_cases hlt : m < ks.length
    · rcases HC.out with h0 | ⟨g, rfl, hg0, hg, hcell⟩
      · rw [h0] at hlt; simp at hlt
      have hc := hcell m hlt
      obtain ⟨p, hp⟩ : ∃ p, p = ks.getD m 0 := ⟨_, rfl⟩
      rw [← hp] at hc
      have hpm : p ∈ kidsTo N k n := by rw [hp, ← HKS.out, List.getD_eq_getElem?_getD, List.getElem?_eq_getElem hlt]; exact List.getElem_mem _
      obtain ⟨p1, p2, _⟩ := kidsTo_mem hpm
      have hc2 : wr.cell? ⟨g, m, none⟩ = some (.int .i64 (p : Int)) := by rw [hnx.cell (by show g < _; omega)]; exact hc
      have HST : Hid (innerTo (fun p => headL N k p ++ T N n p) ks (m + 1) = innerTo (fun p => headL N k p ++ T N n p) ks m ++ ((if m = 0 then [] else [44]) ++ ((quoteL (N p).name ++ [58]) ++ T N n p))) := by
        show _ = _
        rw [inner_step _ ks p hp.symm]
        simp only [headL_map H6.out]
      have HTP := HIH.out p p1 p2
      have htl : (strL (T N n p)).size ≤ 16000 := by have := HTL.out p p2; rw [strL_size]; omega
      have j0 : (0 : Int) ≤ (m : Int) := by omega
      have j1 : (m : Int) < (ks.length : Int) := by omega
      have HTS : Hid (TextSaid N n p) := HTP
      have hns := HNM.out p p2
      have hqs : (strL (quoteL (N p).name)).size ≤ 50 := by have := quoteL_len (N p).name; rw [strL_size]; omega
      obtain ⟨g3, q0⟩ : ∃ u : Unit, wr.cell? ⟨b, off + p * 5 + 3, none⟩ = some (.string (N p).name) := by
        rcases H.out.below (HB1.out.trans (hnx.mono HB1.out.size)) with h0 | ⟨b', off', e, _, hat⟩
        · omega
        · simp only [Option.some.injEq, Addr.mk.injEq] at e
          obtain ⟨rfl, rfl, _⟩ := e
          exact ⟨(), (hat p p2).2.2.2.1⟩
      have q1 : (0 : Int) ≤ (p : Int) := by omega
      have q2 : (p : Int) < (n : Int) := by omega
      have hbw : b < wr.heap.size := by have := HB1.out.size; omega
      have hgw : g < wr.heap.size := by omega
      have hw1 : w.heap.size < wr.heap.size := by omega
      have hw2 : w.heap.size + 1 < wr.heap.size := by omega
      clear hcell hc hp hpm HTP
      by_cases hm0 : 0 < m
      · have hm0' : (0 : Int) < (m : Int) := by omega
        go_wp2_with (first | (go_at_call 58; refine (l1Quote_any _ _ (by omega)).mono ?_; rintro e w' ⟨rfl, rfl⟩) | (go_at_call 41; refine (HTS.out _ _ _ (H.out.below (HB1.out.trans (hnx.mono HB1.out.size)))).mono ?_; rintro e w2 ⟨rfl, hb2⟩))
        go_roundw
        case rel => exact ⟨m + 1, by omega, by go_num, by rw [HST.out, if_neg (by omega), inner_d], hnx.trans (hb2.mono hz)⟩
        case measure => simp [intOf]; omega
      · have hm0' : ¬ (0 : Int) < (m : Int) := by omega
        go_wp2_with (first | (go_at_call 58; refine (l1Quote_any _ _ (by omega)).mono ?_; rintro e w' ⟨rfl, rfl⟩) | (go_at_call 41; refine (HTS.out _ _ _ (H.out.below (HB1.out.trans (hnx.mono HB1.out.size)))).mono ?_; rintro e w2 ⟨rfl, hb2⟩))
        go_roundw
        case rel => exact ⟨m + 1, by omega, by go_num, by rw [HST.out, if_pos (by omega), inner_c], hnx.trans (hb2.mono hz)⟩
        case measure => simp [intOf]; omega
    · go_wp2
      go_ret
      obtain rfl : m = ks.length := by omega
      refine ⟨ret_str ?_, HB1.out.trans (hnx.mono HB1.out.size)⟩
      rw [HR.out, openL, closeL, if_pos H6.out, if_pos H6.out, ← HKS.out]
      exact whole_map

theorem l1Text_any (N : Nat → Nd) (n : Nat) (hn : n ≤ 80) (ht : TOK N n) : ∀ d k, n - k = d → k < n → TextSaid N n k := by
  intro d
  induction d using Nat.strongRecOn with
  | _ d ih =>
    intro k hd hk a c w h
    by_cases h6 : (N k).kind = 6
    · exact l1Text_list a c n k N w hn hk h ht h6 (fun p h1 h2 => ih (n - p) (by omega) p rfl h2)
    · by_cases h7 : (N k).kind = 7
      · exact l1Text_map a c n k N w hn hk h ht h7 (fun p h1 h2 => ih (n - p) (by omega) p rfl h2)
      · exact l1Text_leaf a c n k N w hn hk h ht (by rintro (h | h); exact h6 h; exact h7 h)

end Go.Proofs.YtjbjgkkkkghcgaaGreatDoor
