/- The program's IsSuffixes. No condition but that a text and a list fit in memory. -/
import Derived.Test.YtkboblfjchkedaaSxI
namespace Go.Proofs.Ytkboblfjchkedaa
open Go.RowKit Go.Sort
set_option linter.unusedVariables false

theorem row_ints {w : World} {S : Nat → Prop} {o : Bool} {b off n c : Nat} {l : List Int} (h : (kRow kInt).is o w S [.slice (some ⟨b, off, none⟩) n c] l) : ∀ j, j < l.length → w.cell? ⟨b, off + j, none⟩ = some (.int .i64 (l.getD j 0)) := by
  intro j hj
  obtain ⟨x, hx⟩ : ∃ x, l[j]? = some x := ⟨_, List.getElem?_eq_getElem hj⟩
  obtain ⟨b', off', e, _, _, hc⟩ := rowI_at h hx
  obtain ⟨rfl, rfl⟩ : b = b' ∧ off = off' := by injection e with e; injection e with e1 e2; exact ⟨e1, e2⟩
  rw [hc, List.getD_eq_getElem?_getD, hx]
  rfl
theorem drewN_belowE (w : World) (n : Nat) : Below w.heap.size w (w.drewN n) := ⟨rfl, rfl, rfl, Nat.le_refl _, fun _ _ => rfl⟩
theorem eqInts_k (x y : List Int) (a1 a2 : Option Addr) (n1 c1 n2 c2 : Nat) (S1 S2 : Nat → Prop) (w : World) (h1 : (kRow kInt).is false w S1 [.slice a1 n1 c1] x) (h2 : (kRow kInt).is false w S2 [.slice a2 n2 c2] y) (hz1 : n1 ≤ 2 ^ 30) (hz2 : n2 ≤ 2 ^ 30) :
    Calls Try.prog 36 #[.slice a1 n1 c1, .slice a2 n2 c2] w fun e w' => e = .returned (.bool (decide (x = y))) ∧ Below w.heap.size w w' := by
  have hn1 := row_len h1
  have hn2 := row_len h2
  by_cases h0 : n1 = 0
  · subst h0
    refine (Any.slices_Equal_int_empty Try.lays111 a1 a2 c1 n2 c2 w (by omega)).mono ?_
    rintro e w' ⟨rfl, rfl⟩
    have hx : x = [] := List.eq_nil_of_length_eq_zero hn1.symm
    refine ⟨?_, Below.refl _ _⟩
    congr 3
    rw [hx, hn2]
    cases y <;> simp
  · obtain ⟨b1, o1, rfl⟩ : ∃ b o, a1 = some ⟨b, o, none⟩ := by
      obtain ⟨v, hv⟩ : ∃ v, x[0]? = some v := ⟨_, List.getElem?_eq_getElem (by omega)⟩
      obtain ⟨b, o, e, _⟩ := rowI_at h1 hv
      exact ⟨b, o, e⟩
    by_cases h20 : n2 = 0
    · have e0 : ¬ (n1 : Int) = (n2 : Int) := by omega
      have e1 : ((n1 : Int) == (n2 : Int)) = false := by simpa using e0
      have HF : Hid (decide (x = y) = false) := decide_eq_false fun h => by rw [h] at hn1; omega
      clear h1 h2
      go_enter Try.func36, Try.ntmps36
      go_wp2
      go_ret
      exact ⟨by rw [HF.out]; rfl, Below.refl _ _⟩
    · obtain ⟨b2, o2, rfl⟩ : ∃ b o, a2 = some ⟨b, o, none⟩ := by
        obtain ⟨v, hv⟩ : ∃ v, y[0]? = some v := ⟨_, List.getElem?_eq_getElem (by omega)⟩
        obtain ⟨b, o, e, _⟩ := rowI_at h2 hv
        exact ⟨b, o, e⟩
      refine (Any.slices_Equal_int Try.lays111 b1 o1 n1 c1 b2 o2 n2 c2 x y w (by omega) (by omega) (by omega) (by omega) (row_ints h1) (row_ints h2)).mono ?_
      rintro e w' ⟨rfl, q, rfl⟩
      rw [List.take_of_length_le (by omega), List.take_of_length_le (by omega)]
      refine ⟨?_, drewN_belowE _ _⟩
      rw [show (x == y) = decide (x = y) by by_cases e : x = y <;> simp [e]]
set_option maxRecDepth 100000 in
set_option maxHeartbeats 1000000 in
theorem implIsSuffixes_k (x0 : ByteArray) (x1 : List Int) (a1 : Option Addr) (n1 c1 : Nat) (S1 : Nat → Prop) (w : World) (h0 : x0.size ≤ 2 ^ 20) (h1 : (kRow kInt).is false w S1 [.slice a1 n1 c1] x1) (z1 : (kRow kInt).sz x1 ≤ 2 ^ 20) :
    Calls Try.prog 14 #[.string x0, .slice a1 n1 c1] w (RIsSuffixes x0 x1 w) := by
  have hz : n1 ≤ 2 ^ 30 := by have := row_len h1; have : (kRow kInt).sz x1 = x1.length + sums kInt.sz x1 := rfl; omega
  have H1 : Hid ((kRow kInt).is false w S1 [.slice a1 n1 c1] x1) := h1
  have hcl := implSuffixesOf_k x0 w h0
  clear h1 z1
  go_enter Try.func14, Try.ntmps14
  go_wp2_with fail
  refine hcl.mono ?_
  rintro e w1 ⟨a0, n0, c0, T0, rfl, hr, _, _, hb⟩
  have HB : Hid (Below w.heap.size w w1) := hb
  by_cases h2 : x0.size ≤ 120
  · have HF : Hid (fIsSuffixes x0 x1 = (decide (x1 = nts (sufL (tx x0))), true)) := by show _ = _; unfold fIsSuffixes isSx; rw [decide_eq_true h2]; rfl
    have hf : fSuffixesOf x0 = (nts (sufL (tx x0)), true) := by unfold fSuffixesOf; rw [if_pos h2]
    rw [hf] at hr ⊢
    have hn0 : n0 ≤ 2 ^ 30 := by have := row_len hr; rw [suf_len] at this; omega
    have hc2 := eqInts_k x1 _ a1 a0 n1 c1 n0 c0 S1 T0 w1 (Kd.below H1.out hb) ((kRow kInt).read hr) hz hn0
    clear hr hb hf
    go_wp2_with fail
    refine hc2.mono ?_
    rintro e w2 ⟨rfl, hb2⟩
    have HB2 : Hid (Below w.heap.size w w2) := HB.out.trans (hb2.mono HB.out.size)
    clear hb2 hc2
    generalize decide (x1 = nts (sufL (tx x0))) = q at *
    go_wp2
    refine bodyPost_ret (v := .tuple #[.bool q, .bool true]) (by simp [results, Try.results14, go_sem]) rfl ?_
    unfold RIsSuffixes
    rw [HF.out]
    exact ⟨rfl, HB2.out⟩
  · have HF : Hid (fIsSuffixes x0 x1 = (false, false)) := by show _ = _; unfold fIsSuffixes isSx; rw [decide_eq_false h2]; rfl
    have hf : fSuffixesOf x0 = ([], false) := by unfold fSuffixesOf; rw [if_neg h2]
    rw [hf]
    clear hr hb hf
    go_wp2
    refine bodyPost_ret (v := .tuple #[.bool false, .bool false]) (by simp [results, Try.results14, go_sem]) rfl ?_
    unfold RIsSuffixes
    rw [HF.out]
    exact ⟨rfl, HB.out⟩
end Go.Proofs.Ytkboblfjchkedaa
