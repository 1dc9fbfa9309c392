/- What chapter 14's laws reckon: small mathematics. No condition. -/
import Derived.Test.YtbkdkiodkcpbeaaQuQm
import Derived.Test.YtbkdkiodkcpbeaaQuZ
namespace Go.Proofs.Ytbkdkiodkcpbeaa
open Go.RowKit
set_option linter.unusedVariables false

theorem write_true {v V : DVoting} {s : List Int} {t : ByteArray} (h : fWriteText v s t = (V, true)) : (enoughB v s v.2.2 = true ∧ t.size ≤ 12 ∧ (nwc v.1 s).2.1 + 1 ≤ 1000000) ∧ V = (held v.1 s ((nwc v.1 s).2.1 + 1) t, v.2.1, v.2.2) := by
  unfold fWriteText at h
  split at h
  · next hg =>
    refine ⟨hg, ?_⟩
    simp only [Prod.mk.injEq, and_true] at h
    rw [← h]
  · simp at h
theorem getD_snoc {s : List Int} {m : Nat} {k : Int} (h : m < s.length) : (s ++ [k]).getD m 0 = s.getD m 0 := by
  rw [List.getD_eq_getElem?_getD, List.getD_eq_getElem?_getD, List.getElem?_append_left h]
theorem getD_last {s : List Int} {k : Int} : (s ++ [k]).getD s.length 0 = k := by
  rw [List.getD_eq_getElem?_getD, List.getElem?_append_right (Nat.le_refl _), Nat.sub_self]
  rfl
theorem lastS_snoc {s : List Int} {k : Int} : ∀ {m : Nat}, m ≤ s.length → lastS (s ++ [k]) m = lastS s m
  | 0, _ => rfl
  | m + 1, h => getD_snoc (show m < s.length by omega)
/-- One more, behind all. -/
theorem some_snoc {s : List Int} {m : Nat} (h : someOk s m = true) : someOk (s ++ [(m : Int)]) (m + 1) = true := by
  unfold someOk
  rw [List.length_append]
  refine someTil_of fun j hj => ?_
  simp only [List.length_cons, List.length_nil] at hj
  rw [lastS_snoc (by omega)]
  by_cases e : j < s.length
  · rw [getD_snoc e]
    obtain ⟨h1, h2⟩ := someTil_at h e
    exact ⟨h1, by omega⟩
  · obtain rfl : j = s.length := by omega
    rw [getD_last]
    refine ⟨?_, by omega⟩
    cases hs : s.length with
    | zero => show (-1 : Int) < _; omega
    | succ q =>
      show s.getD q 0 < _
      exact (someTil_at h (show q < s.length by omega)).2
theorem some_up {s : List Int} {m m' : Nat} (h : someOk s m = true) (hm : m ≤ m') : someOk s m' = true := someTil_of fun j hj => by
  obtain ⟨h1, h2⟩ := someTil_at h hj
  exact ⟨h1, by omega⟩
theorem some_nil (m : Nat) : someOk [] m = true := rfl
/-- What is told of what was written. -/
structure Wrote (L L' : List DCopy) (r t : Int) (s : List Int) (y : ByteArray) (o : Int) : Prop where
  gv : fGoodVoting (L, r, t) = true
  gx : fGoodVoting (L', r, t) = true
  old : fNewestOf (L, r, t) = (o, newW L, true)
  now : fNewestOf (L', r, t) = (o + 1, newW L', true)
  wt : t ≤ newW L'
  ob : 0 ≤ o ∧ o + 1 ≤ 1000000
  some : someOk s L.length = true
  len : L'.length = L.length
  wr : ∀ p : List Int, someOk p L.length = true → fWeightIn (L', r, t) p = (wIn (L', r, t) p, true) ∧ (0 ≤ wIn (L', r, t) p ∧ wIn (L', r, t) p ≤ 70) ∧ (r ≤ wIn (L', r, t) p → fReadText (L', r, t) p = (y, o + 1, true) ∧ (s.any fun k => p.contains k) = true) ∧ (¬ r ≤ wIn (L', r, t) p → fReadText (L', r, t) p = (⟨#[]⟩, 0, false))
theorem wrote {L L' : List DCopy} {r t r' t' : Int} {s : List Int} {y : ByteArray} (h : fWriteText (L, r, t) s y = ((L', r', t'), true)) : r' = r ∧ t' = t ∧ ∃ o, Wrote L L' r t s y o := by
  obtain ⟨⟨he, hy, hm⟩, hV⟩ := write_true h
  simp only [Prod.mk.injEq] at hV
  obtain ⟨rfl, rfl, rfl⟩ := hV
  refine ⟨rfl, rfl, (nwc L s).2.1, ?_⟩
  simp only at he hm
  have hg : fGoodVoting (L, r', t') = true := by
    cases hg : fGoodVoting (L, r', t') with
    | true => rfl
    | false => rw [enough_no1 hg] at he; cases he
  have g := (vg_iff _).1 hg
  have hmm := g.meet
  unfold MeetOk at hmm
  simp only at hmm
  obtain ⟨_, hs, hw, h0⟩ := enough_pos he hmm.2.2.1
  simp only at hs hw
  have hbt := best_top g hs h0 hw (by show allW L < t' + t'; omega)
  simp only at hbt
  have htn := tp_nn (l := L) L.length
  have gx := write_good g hs h0 hy hw (y := (nwc L s).2.1 + 1) (by show tp L L.length < _; omega) hm
  simp only at gx
  have hlen := held_len L s ((nwc L s).2.1 + 1) y
  have hgx : fGoodVoting (held L s ((nwc L s).2.1 + 1) y, r', t') = true := (vg_iff _).2 gx
  refine ⟨hg, hgx, ?_, ?_, gx.new, ⟨by omega, hm⟩, hs, hlen, fun p hp => ?_⟩
  · rw [newest_yes hg]
    simp only [hbt]
  · rw [newest_yes hgx]
    show (tp (held L s ((nwc L s).2.1 + 1) y) (held L s ((nwc L s).2.1 + 1) y).length, _, _) = _
    rw [hlen, write_tp hs h0 (by omega) (by omega)]
  · have hp' : someOk p (held L s ((nwc L s).2.1 + 1) y).length = true := by rw [hlen]; exact hp
    have hwi := fWeight_yes hgx hp'
    refine ⟨hwi, wIn_bd hgx hp', fun hr => ?_, fun hr => ?_⟩
    · have hen : enoughB (held L s ((nwc L s).2.1 + 1) y, r', t') p r' = true := by rw [enough_eq hgx hp']; exact decide_eq_true hr
      obtain ⟨_, _, _, hp0⟩ := enough_pos hen hmm.1
      obtain ⟨e1, e2⟩ := read_written g hs h0 hy hw (y := (nwc L s).2.1 + 1) (by show tp L L.length < _; omega) hm hp hp0 hr
      refine ⟨?_, some_meet g hs hp hw ?_⟩
      · rw [read_yes hen]
        simp only at e1 e2
        rw [e1, e2]
      · rw [wIn_held (v := (L, r', t')) hs hp] at hr
        exact hr
    · exact read_no (by rw [enough_eq hgx hp']; exact decide_eq_false hr)
/-- What is read of a drawn voting. -/
theorem read_said (L : List DCopy) (r t : Int) (s : List Int) : (fReadText (L, r, t) s = (⟨#[]⟩, 0, false)) ∨ ∃ (x : ByteArray) (o : Int), fReadText (L, r, t) s = (x, o, true) ∧ fNewestOf (L, r, t) = (o, newW L, true) := by
  cases he : enoughB (L, r, t) s r with
  | false => exact .inl (read_no he)
  | true =>
    right
    have hg : fGoodVoting (L, r, t) = true := by
      cases hg : fGoodVoting (L, r, t) with
      | true => rfl
      | false => rw [enough_no1 hg] at he; cases he
    have g := (vg_iff _).1 hg
    have hmm := g.meet
    unfold MeetOk at hmm
    simp only at hmm
    obtain ⟨_, hs, hw, h0⟩ := enough_pos he hmm.1
    have hbt := best_top g hs h0 hw (by show allW L < r + t; omega)
    refine ⟨(nwc L s).2.2, (nwc L s).2.1, read_yes he, ?_⟩
    rw [newest_yes hg]
    simp only at hbt
    simp only [hbt]
end Go.Proofs.Ytbkdkiodkcpbeaa
