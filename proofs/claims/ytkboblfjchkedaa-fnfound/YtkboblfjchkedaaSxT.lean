/- All endings in order: the specification's SuffixesOf and IsSuffixes. No condition but that they fit in memory. -/
import Derived.Test.YtkboblfjchkedaaSxS
namespace Go.Proofs.Ytkboblfjchkedaa
open Go.RowKit
set_option linter.unusedVariables false

set_option maxRecDepth 100000 in
set_option maxHeartbeats 4000000 in
theorem l12Same_k (x y : List Int) (a1 a2 : Option Addr) (n1 c1 n2 c2 : Nat) (S1 S2 : Nat → Prop) (w : World) (h1 : (kRow kInt).is false w S1 [.slice a1 n1 c1] x) (h2 : (kRow kInt).is false w S2 [.slice a2 n2 c2] y) (hz1 : n1 ≤ 2 ^ 30) (hz2 : n2 ≤ 2 ^ 30) :
    Calls Try.prog 55 #[.slice a1 n1 c1, .slice a2 n2 c2] w fun e w' => e = .returned (.bool (decide (x = y))) ∧ Below w.heap.size w w' := by
  have HN1 : Hid (n1 = x.length) := row_len h1
  have HN2 : Hid (n2 = y.length) := row_len h2
  have H1 : Hid ((kRow kInt).is false w S1 [.slice a1 n1 c1] x) := h1
  have H2 : Hid ((kRow kInt).is false w S2 [.slice a2 n2 c2] y) := h2
  clear h1 h2
  by_cases hnn : n1 = n2
  · have e0 : ((n1 : Int) != (n2 : Int)) = false := by simp; omega
    have e1 : (n1 : Int) = (n2 : Int) := by omega
    have HNN : Hid (n1 = n2) := hnn
    subst hnn
    clear e0 e1
    go_enter Try.func55, Try.ntmps55
    go_wp2_with fail
    go_loopw [13] (fun kv wr => ∃ k : Nat, k ≤ n1 ∧ kv = .int .i64 k ∧ Hid (x.take k = y.take k) ∧ Below w.heap.size w wr) (fun kv _ => n1 - (intOf kv).toNat)
    case atStart => exact ⟨0, Nat.zero_le _, rfl, by show _ = _; simp, Below.refl _ _⟩
    case round =>
      obtain ⟨k, hk, rfl, HI, hnx⟩ := hrel
      have zw := hnx.size
      by_cases hlt : k < n1
      · obtain ⟨u, hu⟩ : ∃ u, x[k]? = some u := ⟨_, List.getElem?_eq_getElem (by rw [← HN1.out]; exact hlt)⟩
        obtain ⟨v, hv⟩ : ∃ v, y[k]? = some v := ⟨_, List.getElem?_eq_getElem (by rw [← HN2.out]; exact hlt)⟩
        obtain ⟨b1, o1, rfl, q1, _, A1⟩ := rowI_at (Kd.below H1.out hnx) hu
        obtain ⟨b2, o2, rfl, q2, _, A2⟩ := rowI_at (Kd.below H2.out hnx) hv
        have k0 : (0 : Int) ≤ (k : Int) := by omega
        have k1 : (k : Int) < (n1 : Int) := by omega
        have U1 := fun q => BelowOf.cell A1 q
        have U2 := fun q => BelowOf.cell A2 q
        have hne := belowOf_ne wr
        by_cases e : u = v
        · subst e
          have HJ : Hid (x.take (k + 1) = y.take (k + 1)) := by show _ = _; rw [List.take_add_one, List.take_add_one, hu, hv, HI.out]
          clear hu hv
          go_wp2_with fail
          refine region_below (by kernel_rfl) (by kernel_rfl) ?_
          repeat (go_big_quiet_step (first | fail))
          refine wpQuiet_nil (belowOf_all ?_)
          intro w2 hb2
          go_wp2
          go_roundw
          case rel => exact ⟨k + 1, by omega, by go_num, HJ, hnx.trans (hb2.mono zw)⟩
          case measure => simp [intOf]; omega
        · have HF : Hid (decide (x = y) = false) := decide_eq_false fun h => by rw [h, hv] at hu; injection hu with hu; exact e hu.symm
          have e2 : (u == v) = false := by simpa using e
          have e3 : (u != v) = true := by simpa using e
          clear hu hv
          go_wp2_with fail
          refine region_below (by kernel_rfl) (by kernel_rfl) ?_
          repeat (go_big_quiet_step (first | fail))
          refine wpQuiet_nil (belowOf_all ?_)
          intro w2 hb2
          go_wp2
          go_ret
          exact ⟨by rw [HF.out]; rfl, hnx.trans (hb2.mono zw)⟩
      · obtain rfl : k = n1 := by omega
        have k1 : ¬ (k : Int) < (k : Int) := by omega
        have HF : Hid (decide (x = y) = true) := decide_eq_true (by
          have := HI.out
          rwa [List.take_of_length_le (by rw [← HN1.out]; omega), List.take_of_length_le (by rw [← HN2.out]; omega)] at this)
        go_wp2
        go_ret
        exact ⟨by rw [HF.out]; rfl, hnx⟩
  · have e0 : ¬ (n1 : Int) = (n2 : Int) := by omega
    have e1 : ((n1 : Int) == (n2 : Int)) = false := by simpa using e0
    have HF : Hid (decide (x = y) = false) := decide_eq_false fun h => hnn (by rw [HN1.out, HN2.out, h])
    go_enter Try.func55, Try.ntmps55
    go_wp2
    go_ret
    exact ⟨by rw [HF.out]; rfl, Below.refl _ _⟩

/-- All endings in their order, where the text is short enough. -/
def isSx (s : ByteArray) (l : List Int) : Bool := decide (s.size ≤ 120) && decide (l = nts (sufL (tx s)))
theorem suf_len (s : ByteArray) : (nts (sufL (tx s))).length = s.size := by rw [nts_len, sufL_len, tx_len]
set_option maxRecDepth 100000 in
set_option maxHeartbeats 4000000 in
theorem l12Is_k (s : ByteArray) (l : List Int) (a : Option Addr) (n c : Nat) (S : Nat → Prop) (w : World) (h : (kRow kInt).is false w S [.slice a n c] l) (hz : n ≤ 2 ^ 30) :
    Calls Try.prog 44 #[.string s, .slice a n c] w fun e w' => e = .returned (.bool (isSx s l)) ∧ Below w.heap.size w w' := by
  have H : Hid ((kRow kInt).is false w S [.slice a n c] l) := h
  clear h
  by_cases h2 : s.size ≤ 120
  · have h3 : (s.size : Int) ≤ 120 := by omega
    have HF : Hid (isSx s l = decide (l = nts (sufL (tx s)))) := by show _ = _; unfold isSx; rw [decide_eq_true h2, Bool.true_and]
    go_enter Try.func44, Try.ntmps44
    go_wp2_with fail
    refine (l12Suffixes_k s _ h2).mono ?_
    rintro e w1 ⟨a1, n1, c1, rfl, hr, hb⟩
    have hn1 : n1 ≤ 2 ^ 30 := by have := row_len hr; rw [suf_len] at this; omega
    have HR : Hid ((kRow kInt).is true w1 (fun k => w.heap.size ≤ k) [.slice a1 n1 c1] (nts (sufL (tx s)))) := hr
    have HB : Hid (Below w.heap.size w w1) := hb
    clear hr hb
    go_wp2_with fail
    refine (l12Same_k l (nts (sufL (tx s))) a a1 n c n1 c1 _ _ w1 (Kd.below H.out HB.out) ((kRow kInt).read HR.out) hz hn1).mono ?_
    rintro e w2 ⟨rfl, hb2⟩
    have HB2 : Hid (Below w.heap.size w w2) := HB.out.trans (hb2.mono HB.out.size)
    clear hb2
    generalize decide (l = nts (sufL (tx s))) = q at *
    go_wp2
    go_ret
    exact ⟨by rw [HF.out]; rfl, HB2.out⟩
  · have h3 : ¬ (s.size : Int) ≤ 120 := by omega
    have HF : Hid (isSx s l = false) := by show _ = _; unfold isSx; rw [decide_eq_false h2, Bool.false_and]
    go_enter Try.func44, Try.ntmps44
    go_wp2
    go_ret
    exact ⟨by rw [HF.out]; rfl, Below.refl _ _⟩

/-- SuffixesOf. -/
def fSuffixesOf (s : ByteArray) : List Int × Bool := if s.size ≤ 120 then (nts (sufL (tx s)), true) else ([], false)
/-- What SuffixesOf answers. -/
def RSuffixesOf (x0 : ByteArray) (w : World) (e : Ending) (w' : World) : Prop := ∃ (a0 : Option Addr) (n0 c0 : Nat) (T0 : Nat → Prop), e = .returned (.tuple #[.slice a0 n0 c0, .bool (fSuffixesOf x0).2]) ∧ (kRow kInt).is true w' T0 [.slice a0 n0 c0] (fSuffixesOf x0).1 ∧ (∀ k, T0 k → w.heap.size ≤ k) ∧ sums kInt.cnt (fSuffixesOf x0).1 ≤ 2 ^ 26 ∧ Below w.heap.size w w'
set_option maxRecDepth 100000 in
set_option maxHeartbeats 1000000 in
theorem specSuffixesOf_k (x0 : ByteArray) (w : World) (h0 : x0.size ≤ 2 ^ 20) :
    Calls Try.prog 10 #[.string x0] w (RSuffixesOf x0 w) := by
  by_cases h2 : x0.size ≤ 120
  · have h3 : ¬ (120 : Int) < (x0.size : Int) := by omega
    have HF : Hid (fSuffixesOf x0 = (nts (sufL (tx x0)), true)) := by show _ = _; unfold fSuffixesOf; rw [if_pos h2]
    go_enter Try.func10, Try.ntmps10
    go_wp2_with fail
    refine (l12Suffixes_k x0 _ h2).mono ?_
    rintro e w1 ⟨a, n, c, rfl, hr, hb⟩
    have HR : Hid ((kRow kInt).is true w1 (fun k => w.heap.size ≤ k) [.slice a n c] (nts (sufL (tx x0)))) := hr
    have HB : Hid (Below w.heap.size w w1) := hb
    clear hr hb
    go_wp2
    refine bodyPost_ret (v := .tuple #[.slice a n c, .bool true]) (by simp [results, Try.results10, go_sem]) rfl ?_
    unfold RSuffixesOf
    rw [HF.out]
    exact ⟨a, n, c, _, rfl, HR.out, fun k hk => hk, by rw [cnt_ints]; show (nts (sufL (tx x0))).length ≤ _; rw [suf_len]; omega, HB.out⟩
  · have h3 : (120 : Int) < (x0.size : Int) := by omega
    have HF : Hid (fSuffixesOf x0 = ([], false)) := by show _ = _; unfold fSuffixesOf; rw [if_neg h2]
    go_enter Try.func10, Try.ntmps10
    go_wp2
    refine bodyPost_ret (v := .tuple #[.slice none 0 0, .bool false]) (by simp [results, Try.results10, go_sem]) rfl ?_
    unfold RSuffixesOf
    rw [HF.out]
    exact ⟨none, 0, 0, fun _ => False, rfl, row_nil _ _ _ _ _ _, fun k hk => hk.elim, by simp [sums], Below.refl _ _⟩

/-- IsSuffixes. -/
def fIsSuffixes (s : ByteArray) (l : List Int) : Bool × Bool := (isSx s l, decide (s.size ≤ 120))
/-- What IsSuffixes answers. -/
def RIsSuffixes (x0 : ByteArray) (x1 : List Int) (w : World) (e : Ending) (w' : World) : Prop := e = .returned (.tuple #[.bool (fIsSuffixes x0 x1).1, .bool (fIsSuffixes x0 x1).2]) ∧ Below w.heap.size w w'
end Go.Proofs.Ytkboblfjchkedaa
