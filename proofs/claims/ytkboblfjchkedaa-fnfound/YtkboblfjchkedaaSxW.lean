/- CommonOf: the program's and the specification's. No condition but that a text and a list fit in memory. -/
import Derived.Test.YtkboblfjchkedaaSxV
namespace Go.Proofs.Ytkboblfjchkedaa
open Go.RowKit Go.Sort
set_option linter.unusedVariables false

/-- CommonOf. -/
def fCommonOf (s : ByteArray) (l : List Int) : List Int × Bool := if isSx s l = true then (nts (comL (tx s) (sufL (tx s))), true) else ([], false)
/-- What CommonOf answers. -/
def RCommonOf (x0 : ByteArray) (x1 : List Int) (w : World) (e : Ending) (w' : World) : Prop := ∃ (a0 : Option Addr) (n0 c0 : Nat) (T0 : Nat → Prop), e = .returned (.tuple #[.slice a0 n0 c0, .bool (fCommonOf x0 x1).2]) ∧ (kRow kInt).is true w' T0 [.slice a0 n0 c0] (fCommonOf x0 x1).1 ∧ (∀ k, T0 k → w.heap.size ≤ k) ∧ sums kInt.cnt (fCommonOf x0 x1).1 ≤ 2 ^ 26 ∧ Below w.heap.size w w'
theorem isSx_of {s : ByteArray} {l : List Int} (h : isSx s l = true) : s.size ≤ 120 ∧ l = nts (sufL (tx s)) := by
  unfold isSx at h
  simpa using h
theorem suf_le (s : ByteArray) : ∀ x ∈ sufL (tx s), x ≤ s.size := fun x hx => by
  have := sufL_mem.1 hx
  rw [tx_len] at this
  omega
theorem com_cnt (s : ByteArray) (h : s.size ≤ 120) : sums kInt.cnt (nts (comL (tx s) (sufL (tx s)))) ≤ 2 ^ 26 := by
  rw [cnt_ints, nts_len, comL_len, sufL_len, tx_len]
  omega
set_option maxRecDepth 100000 in
set_option maxHeartbeats 1000000 in
theorem implCommonOf_k (x0 : ByteArray) (x1 : List Int) (a1 : Option Addr) (n1 c1 : Nat) (S1 : Nat → Prop) (w : World) (h0 : x0.size ≤ 2 ^ 20) (h1 : (kRow kInt).is false w S1 [.slice a1 n1 c1] x1) (z1 : (kRow kInt).sz x1 ≤ 2 ^ 20) :
    Calls Try.prog 15 #[.string x0, .slice a1 n1 c1] w (RCommonOf x0 x1 w) := by
  have H1 : Hid ((kRow kInt).is false w S1 [.slice a1 n1 c1] x1) := h1
  have hz : n1 ≤ 2 ^ 20 := by have := row_len h1; have : (kRow kInt).sz x1 = x1.length + sums kInt.sz x1 := rfl; omega
  have hcl := implIsSuffixes_k x0 x1 a1 n1 c1 S1 w h0 h1 z1
  clear h1 z1
  go_enter Try.func15, Try.ntmps15
  go_wp2_with fail
  refine hcl.mono ?_
  rintro e w1 ⟨rfl, hb⟩
  have HB : Hid (Below w.heap.size w w1) := hb
  have HI : Hid ((fIsSuffixes x0 x1).1 = isSx x0 x1) := rfl
  rw [HI.out]
  generalize (fIsSuffixes x0 x1).2 = q2 at *
  cases hq : isSx x0 x1 with
  | true =>
    obtain ⟨hs, hl⟩ := isSx_of hq
    have HF : Hid (fCommonOf x0 x1 = (nts (comL (tx x0) (sufL (tx x0))), true)) := by show _ = _; unfold fCommonOf; rw [if_pos hq]
    have HC : Hid (sums kInt.cnt (nts (comL (tx x0) (sufL (tx x0)))) ≤ 2 ^ 26) := com_cnt x0 hs
    have hr : (kRow kInt).is false w1 S1 [.slice a1 n1 c1] (nts (sufL (tx x0))) := by rw [← hl]; exact Kd.below H1.out hb
    have hc2 := commonWithAhead_k x0 (sufL (tx x0)) a1 n1 c1 S1 w1 hr hs (suf_le x0) hz
    clear hr hl hb hcl hq
    go_wp2_with fail
    refine hc2.mono ?_
    rintro e w2 ⟨a', n', c', rfl, hr2, hb2⟩
    have HR : Hid ((kRow kInt).is true w2 (fun k => w1.heap.size ≤ k) [.slice a' n' c'] (nts (comL (tx x0) (sufL (tx x0))))) := hr2
    have HB2 : Hid (Below w.heap.size w w2) := HB.out.trans (hb2.mono HB.out.size)
    clear hr2 hb2 hc2
    go_wp2
    refine bodyPost_ret (v := .tuple #[.slice a' n' c', .bool true]) (by simp [results, Try.results15, go_sem]) rfl ?_
    unfold RCommonOf
    rw [HF.out]
    exact ⟨_, _, _, _, rfl, HR.out, fun k hk => Nat.le_trans HB.out.size hk, HC.out, HB2.out⟩
  | false =>
    have HF : Hid (fCommonOf x0 x1 = ([], false)) := by show _ = _; unfold fCommonOf; rw [if_neg (by rw [hq]; decide)]
    clear hq hcl hb
    go_wp2
    refine bodyPost_ret (v := .tuple #[.slice none 0 0, .bool false]) (by simp [results, Try.results15, go_sem]) rfl ?_
    unfold RCommonOf
    rw [HF.out]
    exact ⟨none, 0, 0, fun _ => False, rfl, row_nil _ _ _ _ _ _, fun k hk => hk.elim, by simp [sums], HB.out⟩

theorem comL_take (t : List UInt8) (l : List Nat) (p : Nat) (h : p < l.length) : (comL t l).take (p + 1) = (comL t l).take p ++ [comAt t l p] := by
  rw [List.take_add_one]
  congr 1
  simp [comL, h]
end Go.Proofs.Ytkboblfjchkedaa
