/- What any enough read is what was written last (Gifford); what is repaired is read alike: mathematics. No condition. -/
import Derived.Test.YtbkdkiodkcpbeaaQuB
namespace Go.Proofs.Ytbkdkiodkcpbeaa
open Go.RowKit
set_option linter.unusedVariables false

theorem write_tp {l : List DCopy} {s : List Int} (hs : someOk s l.length = true) (h0 : 0 < s.length) {t : ByteArray} {y : Int} (hy : tp l l.length ≤ y) (h : 0 ≤ y) : tp (held l s y t) l.length = y := by
  have hcp : ∀ i, i < l.length → cp (held l s y t) i = if s.contains (i : Int) = true then ((cp l i).1, y, t) else cp l i := fun i hi => held_cp hs hi
  have h1 : tp (held l s y t) l.length ≤ y := tp_le h fun i hi => by
    rw [hcp i hi]
    split
    · exact Int.le_refl _
    · have := tp_ge (l := l) hi
      omega
  have hk := some_nat hs h0
  have h2 := tp_ge (l := held l s y t) hk.2
  rw [hcp _ hk.2, if_pos (has_of hs h0)] at h2
  simp only at h2
  omega
/-- What is read of those that were written, by any that are enough. -/
theorem read_written {v : DVoting} (g : VG v) {s : List Int} (hs : someOk s v.1.length = true) (h0 : 0 < s.length) {t : ByteArray} (ht : t.size ≤ 12) (hw : v.2.2 ≤ wIn v s) {y : Int} (hy : tp v.1 v.1.length < y) (hm : y ≤ 1000000)
    {o : List Int} (ho : someOk o v.1.length = true) (ho0 : 0 < o.length) (hr : v.2.1 ≤ wIn (held v.1 s y t, v.2.1, v.2.2) o) :
    (nwc (held v.1 s y t) o).2.1 = y ∧ (nwc (held v.1 s y t) o).2.2 = t := by
  have gx := write_good g hs h0 ht hw hy hm
  have hlen := held_len v.1 s y t
  have hmm := g.meet
  unfold MeetOk at hmm
  have hbt := best_top gx (s := o) (by show someOk o (held v.1 s y t).length = true; rw [hlen]; exact ho) ho0 hr (by show allW (held v.1 s y t) < v.2.1 + v.2.2; rw [held_all hs]; exact hmm.2.2.2.2.1)
  have hty := tp_nn (l := v.1) v.1.length
  have htp := write_tp (t := t) hs h0 (Int.le_of_lt hy) (by omega)
  have e1 : (nwc (held v.1 s y t) o).2.1 = y := by
    rw [hbt]
    show tp (held v.1 s y t) (held v.1 s y t).length = y
    rw [hlen, htp]
  refine ⟨e1, ?_⟩
  have hk : bst (held v.1 s y t) o o.length < v.1.length := bst_lt ho ho0 (Nat.le_refl _)
  unfold nwc at e1 ⊢
  rw [held_cp hs hk] at e1 ⊢
  split
  · rfl
  · next hn =>
    rw [if_neg hn] at e1
    have := tp_ge (l := v.1) hk
    omega
theorem ws_held {l : List DCopy} {s : List Int} {y : Int} {t : ByteArray} (hs : someOk s l.length = true) (p : Nat → Bool) : ws p (held l s y t) l.length = ws p l l.length := ws_ext (fun _ _ => rfl) (fun i hi => held_w hs hi)
theorem wIn_held {v : DVoting} {s : List Int} {y : Int} {t : ByteArray} (hs : someOk s v.1.length = true) {o : List Int} (ho : someOk o v.1.length = true) : wIn (held v.1 s y t, v.2.1, v.2.2) o = wIn v o := by
  rw [wIn_ws (v := (held v.1 s y t, v.2.1, v.2.2)) (by show someOk o (held v.1 s y t).length = true; rw [held_len]; exact ho), wIn_ws ho]
  show ws _ (held v.1 s y t) (held v.1 s y t).length = _
  rw [held_len, ws_held hs]
/-- Those that are enough to write and those that are enough to read meet. -/
theorem some_meet {v : DVoting} (g : VG v) {s o : List Int} (hs : someOk s v.1.length = true) (ho : someOk o v.1.length = true) (hw : v.2.2 ≤ wIn v s) (hr : v.2.1 ≤ wIn v o) : (s.any fun k => o.contains k) = true := by
  rw [wIn_ws hs] at hw
  rw [wIn_ws ho] at hr
  have hmm := g.meet
  unfold MeetOk allW at hmm
  obtain ⟨k, hk, h1, h2⟩ := ws_meet g.ok (p := fun k => s.contains (k : Int)) (q := fun k => o.contains (k : Int)) (by omega)
  exact List.any_eq_true.2 ⟨(k : Int), List.contains_iff_mem.1 h1, h2⟩
theorem ws_mono {p q : Nat → Bool} {l : List DCopy} : ∀ {n : Nat}, okTil l n = true → (∀ i, i < n → p i = true → q i = true) → ws p l n ≤ ws q l n
  | 0, _, _ => Int.le_refl _
  | n + 1, h, g => by
    have h1 := ws_mono (okTil_le h (show n ≤ n + 1 by omega)) (fun i hi => g i (by omega))
    obtain ⟨a, _⟩ := cpAt_ok (okTil_at h (show n < n + 1 by omega))
    unfold ws
    split
    · next e => rw [if_pos (g n (by omega) e)]; omega
    · split <;> omega
/-- What is repaired by enough is good, and its newest are of the same Version. -/
theorem repair_good {v : DVoting} (g : VG v) {s : List Int} (hs : someOk s v.1.length = true) (h0 : 0 < s.length) (hr : v.2.1 ≤ wIn v s) :
    (nwc v.1 s).2.1 = tp v.1 v.1.length ∧ VG (held v.1 s (nwc v.1 s).2.1 (nwc v.1 s).2.2, v.2.1, v.2.2) ∧ tp (held v.1 s (nwc v.1 s).2.1 (nwc v.1 s).2.2) v.1.length = tp v.1 v.1.length := by
  have hmm := g.meet
  unfold MeetOk at hmm
  have hbt := best_top g hs h0 hr hmm.2.2.2.2.1
  have hb := bst_lt (l := v.1) hs h0 (Nat.le_refl _)
  have hx := cpAt_ok (okTil_at g.ok hb)
  have hnn := tp_nn (l := v.1) v.1.length
  have htp := write_tp (l := v.1) (t := (nwc v.1 s).2.2) hs h0 (y := (nwc v.1 s).2.1) (by rw [hbt]; exact Int.le_refl _) (by rw [hbt]; exact hnn)
  refine ⟨hbt, ?_, by rw [htp, hbt]⟩
  have hnw : nwc v.1 s = cp v.1 (bst v.1 s s.length) := rfl
  obtain ⟨m, hm⟩ : ∃ m, m = bst v.1 s s.length := ⟨_, rfl⟩
  rw [← hm] at hb hx hnw
  rw [hnw] at htp hbt ⊢
  have hlen := held_len v.1 s (cp v.1 m).2.1 (cp v.1 m).2.2
  have hcp : ∀ i, i < v.1.length → cp (held v.1 s (cp v.1 m).2.1 (cp v.1 m).2.2) i = if s.contains (i : Int) = true then ((cp v.1 i).1, (cp v.1 m).2.1, (cp v.1 m).2.2) else cp v.1 i := fun i hi => held_cp hs hi
  have hok : okTil (held v.1 s (cp v.1 m).2.1 (cp v.1 m).2.2) v.1.length = true := okTil_of fun i hi => by
    have hci := cpAt_ok (okTil_at g.ok hi)
    refine cpAt_of (by rw [hlen]; exact hi) ?_ ?_
    · rw [hcp i hi]
      split
      · exact ⟨hci.1, hci.2.1, hx.2.2.1, hx.2.2.2.1, hx.2.2.2.2⟩
      · exact hci
    · intro j hj e
      rw [hcp i hi, hcp j (by omega)] at e ⊢
      split at e
      · next e1 =>
        rw [if_pos e1]
        split at e
        · next e2 => rw [if_pos e2]
        · next e2 => rw [if_neg e2]; exact okTil_one g.ok (Nat.le_refl _) hb (by omega) e
      · next e1 =>
        rw [if_neg e1]
        split at e
        · next e2 => rw [if_pos e2]; exact okTil_one g.ok (Nat.le_refl _) hi hb e
        · next e2 => rw [if_neg e2]; exact okTil_one g.ok (Nat.le_refl _) hi (by omega) e
  refine ⟨by show 1 ≤ (held v.1 s _ _).length; rw [hlen]; exact g.lo, by show (held v.1 s _ _).length ≤ 7; rw [hlen]; exact g.hi, by show okTil (held v.1 s _ _) (held v.1 s _ _).length = true; rw [hlen]; exact hok, by show MeetOk (allW (held v.1 s _ _)) _ _; rw [held_all hs]; exact g.meet, ?_⟩
  show v.2.2 ≤ newW (held v.1 s _ _)
  refine Int.le_trans g.new ?_
  unfold newW
  rw [hlen, htp, ws_held hs]
  refine ws_mono g.ok fun i hi e => ?_
  have e := of_decide_eq_true e
  refine decide_eq_true ?_
  rw [hcp i hi]
  split
  · rfl
  · rw [e, hbt]
/-- What is repaired again stays. -/
theorem repair_again {l : List DCopy} {s : List Int} {n : Nat} (hn : n = l.length) (hs : someOk s n = true) (h0 : 0 < s.length) {y : Int} {t : ByteArray} :
    (nwc (held l s y t) s).2.1 = y ∧ (nwc (held l s y t) s).2.2 = t ∧ held (held l s y t) s y t = held l s y t ∧ ∀ {j : Nat}, j ≤ s.length → ∀ x : DCopy, x.2.1 = y → rpc (held l s y t) s x j = 0 := by
  subst hn
  have hb := bst_in (l := held l s y t) h0 (Nat.le_refl s.length)
  obtain ⟨i, hi, e⟩ := hb
  have hk := some_nat hs hi
  have hc : nwc (held l s y t) s = ((cp l (nat s i)).1, y, t) := by
    unfold nwc
    rw [e, held_cp hs hk.2, if_pos (has_of hs hi)]
  refine ⟨by rw [hc], by rw [hc], ?_, ?_⟩
  · refine List.ext_getElem? fun q => ?_
    by_cases hq : q < l.length
    · rw [cp_at (by rw [held_len, held_len]; exact hq), cp_at (by rw [held_len]; exact hq), held_cp (n := l.length) hs (by rw [held_len]; exact hq), held_cp hs hq]
      split <;> rfl
    · rw [List.getElem?_eq_none (by rw [held_len, held_len]; omega), List.getElem?_eq_none (by rw [held_len]; omega)]
  · intro j
    induction j with
    | zero => intro _ x _; rfl
    | succ j ih =>
      intro hj x hx
      unfold rpc
      have hkj := some_nat hs (show j < s.length by omega)
      rw [held_cp hs hkj.2, if_pos (has_of hs (by omega)), if_pos hx.symm, ih (by omega) x hx]
end Go.Proofs.Ytbkdkiodkcpbeaa
