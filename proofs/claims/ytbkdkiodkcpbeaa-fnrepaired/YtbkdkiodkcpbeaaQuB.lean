/- What is written into some of the copies: mathematics. No condition. -/
import Derived.Test.YtbkdkiodkcpbeaaQuE
namespace Go.Proofs.Ytbkdkiodkcpbeaa
open Go.RowKit
set_option linter.unusedVariables false

/-- The first j of some hold a version and a text. -/
def hol (l : List DCopy) (s : List Int) (v : Int) (t : ByteArray) : Nat → List DCopy
  | 0 => l
  | j + 1 => (hol l s v t j).set (nat s j) ((cp l (nat s j)).1, v, t)
theorem hol_len (l : List DCopy) (s : List Int) (v : Int) (t : ByteArray) : ∀ j : Nat, (hol l s v t j).length = l.length
  | 0 => rfl
  | j + 1 => by unfold hol; rw [List.length_set, hol_len l s v t j]
theorem cp_set {l : List DCopy} {i k : Nat} {x : DCopy} (hk : k < l.length) : cp (l.set i x) k = if k = i then x else cp l k := by
  unfold cp
  rw [List.getD_eq_getElem?_getD, List.getD_eq_getElem?_getD]
  by_cases e : k = i
  · subst e
    rw [if_pos rfl, List.getElem?_set_self hk]
    rfl
  · rw [if_neg e, List.getElem?_set_ne (fun h => e h.symm)]
theorem hol_cp {l : List DCopy} {s : List Int} {v : Int} {t : ByteArray} {n : Nat} (hs : someTil s n s.length = true) {k : Nat} (hk : k < l.length) : ∀ {j : Nat}, j ≤ s.length → cp (hol l s v t j) k = if has s j k = true then ((cp l k).1, v, t) else cp l k
  | 0, _ => by rw [has_zero]; rfl
  | j + 1, hj => by
    unfold hol
    rw [cp_set (by rw [hol_len]; exact hk), has_next hs (by omega) k, hol_cp hs hk (by omega)]
    by_cases e : k = nat s j
    · rw [if_pos e, decide_eq_true e, Bool.or_true, if_pos rfl, e]
    · rw [if_neg e, decide_eq_false e, Bool.or_false]
/-- All of some hold them. -/
def held (l : List DCopy) (s : List Int) (v : Int) (t : ByteArray) : List DCopy := hol l s v t s.length
theorem held_len (l : List DCopy) (s : List Int) (v : Int) (t : ByteArray) : (held l s v t).length = l.length := hol_len l s v t _
theorem held_cp {l : List DCopy} {s : List Int} {v : Int} {t : ByteArray} {n : Nat} (hs : someOk s n = true) {k : Nat} (hk : k < l.length) : cp (held l s v t) k = if s.contains (k : Int) = true then ((cp l k).1, v, t) else cp l k := by
  unfold held
  rw [hol_cp hs hk (Nat.le_refl _), has_all]
theorem held_w {l : List DCopy} {s : List Int} {v : Int} {t : ByteArray} {n : Nat} (hs : someOk s n = true) {k : Nat} (hk : k < l.length) : (cp (held l s v t) k).1 = (cp l k).1 := by
  rw [held_cp hs hk]
  split <;> rfl
theorem held_all {l : List DCopy} {s : List Int} {v : Int} {t : ByteArray} {n : Nat} (hs : someOk s n = true) : allW (held l s v t) = allW l := by
  unfold allW
  rw [held_len]
  exact ws_ext (fun _ _ => rfl) (fun i hi => held_w hs hi)
theorem has_of {s : List Int} {n i : Nat} (hs : someOk s n = true) (hi : i < s.length) : s.contains (nat s i : Int) = true := by
  rw [← has_all, has_iff]
  exact ⟨i, hi, hi, (some_nat hs hi).1⟩
theorem of_has {s : List Int} {k : Nat} (h : s.contains (k : Int) = true) : ∃ i, i < s.length ∧ nat s i = k := by
  rw [← has_all, has_iff] at h
  obtain ⟨i, _, hi, e⟩ := h
  refine ⟨i, hi, ?_⟩
  unfold nat
  rw [e]
  omega
/-- Any that weigh what a write needs have one of the newest among them. -/
theorem best_top {v : DVoting} (g : VG v) {s : List Int} (hs : someOk s v.1.length = true) (h0 : 0 < s.length) {least : Int} (hw : least ≤ wIn v s) (hl : allW v.1 < least + v.2.2) : (nwc v.1 s).2.1 = tp v.1 v.1.length := by
  rw [wIn_ws hs] at hw
  have hn := g.new
  unfold newW at hn
  obtain ⟨k, hk, h1, h2⟩ := ws_meet g.ok (p := fun k => s.contains (k : Int)) (q := fun k => decide ((cp v.1 k).2.1 = tp v.1 v.1.length)) (by unfold allW at hl; omega)
  have h2 := of_decide_eq_true h2
  obtain ⟨i, hi, e⟩ := of_has h1
  have h3 := bst_ge (l := v.1) (s := s) hi
  rw [e, h2] at h3
  have h4 := tp_ge (l := v.1) (bst_lt (l := v.1) hs h0 (Nat.le_refl _))
  unfold nwc
  omega
/-- A write leaves a good voting, where the version is one. -/
theorem write_good {v : DVoting} (g : VG v) {s : List Int} (hs : someOk s v.1.length = true) (h0 : 0 < s.length) {t : ByteArray} (ht : t.size ≤ 12) (hw : v.2.2 ≤ wIn v s) {y : Int} (hy : tp v.1 v.1.length < y) (hm : y ≤ 1000000) :
    VG (held v.1 s y t, v.2.1, v.2.2) := by
  have hlen := held_len v.1 s y t
  have hcp : ∀ i, i < v.1.length → cp (held v.1 s y t) i = if s.contains (i : Int) = true then ((cp v.1 i).1, y, t) else cp v.1 i := fun i hi => held_cp hs hi
  have hty : 0 ≤ tp v.1 v.1.length := tp_nn _
  have hok : okTil (held v.1 s y t) v.1.length = true := okTil_of fun i hi => by
    have hci := cpAt_ok (okTil_at g.ok hi)
    refine cpAt_of (by rw [hlen]; exact hi) ?_ ?_
    · rw [hcp i hi]
      split
      · exact ⟨hci.1, hci.2.1, by simp only; omega, hm, ht⟩
      · exact hci
    · intro j hj e
      rw [hcp i hi, hcp j (by omega)] at e ⊢
      have a1 := tp_ge (l := v.1) hi
      have a2 := tp_ge (l := v.1) (show j < v.1.length by omega)
      split at e
      · split at e
        · next e1 e2 => rw [if_pos e1, if_pos e2]
        · simp only at e; omega
      · split at e
        · simp only at e; omega
        · next e1 e2 => rw [if_neg e1, if_neg e2]; exact okTil_one g.ok (Nat.le_refl _) hi (by omega) e
  have htp : tp (held v.1 s y t) v.1.length = y := by
    have h1 : tp (held v.1 s y t) v.1.length ≤ y := tp_le (by omega) fun i hi => by
      rw [hcp i hi]
      split
      · exact Int.le_refl _
      · have := tp_ge (l := v.1) hi
        omega
    have hk := some_nat hs h0
    have h2 := tp_ge (l := held v.1 s y t) hk.2
    rw [hcp _ hk.2, if_pos (has_of hs h0)] at h2
    simp only at h2
    omega
  refine ⟨by show 1 ≤ (held v.1 s y t).length; rw [hlen]; exact g.lo, by show (held v.1 s y t).length ≤ 7; rw [hlen]; exact g.hi, by show okTil (held v.1 s y t) (held v.1 s y t).length = true; rw [hlen]; exact hok, by show MeetOk (allW (held v.1 s y t)) _ _; rw [held_all hs]; exact g.meet, ?_⟩
  show v.2.2 ≤ newW (held v.1 s y t)
  unfold newW
  rw [hlen, htp]
  refine Int.le_trans hw ?_
  rw [wIn_ws hs]
  refine Int.le_of_eq (ws_ext (fun i hi => ?_) (fun i hi => (held_w hs hi).symm))
  have a1 := tp_ge (l := v.1) hi
  rw [hcp i hi]
  cases e : s.contains (i : Int) with
  | true => rw [if_pos rfl]; simp
  | false =>
    rw [if_neg (by simp)]
    exact (decide_eq_false (by omega)).symm
/-- Where the version is none, nothing good is left. -/
theorem write_bad {v : DVoting} {s : List Int} (hs : someOk s v.1.length = true) (h0 : 0 < s.length) {t : ByteArray} {y : Int} (hm : ¬ y ≤ 1000000) : fGoodVoting (held v.1 s y t, v.2.1, v.2.2) = false := by
  refine vg_not fun g => ?_
  have hk := some_nat hs h0
  have := cpAt_ok (okTil_at g.ok (show nat s 0 < (held v.1 s y t).length by rw [held_len]; exact hk.2))
  rw [show cp (held v.1 s y t, v.2.1, v.2.2).1 (nat s 0) = ((cp v.1 (nat s 0)).1, y, t) by
    show cp (held v.1 s y t) (nat s 0) = _
    rw [held_cp hs hk.2, if_pos (has_of hs h0)]] at this
  exact hm this.2.2.2.1
/-- The specification's way of repairing: only what differs. -/
def rep (l : List DCopy) (s : List Int) (c : DCopy) : Nat → List DCopy
  | 0 => l
  | j + 1 => if (cp l (nat s j)).2.1 = c.2.1 then rep l s c j else (rep l s c j).set (nat s j) ((cp l (nat s j)).1, c.2.1, c.2.2)
def rpc (l : List DCopy) (s : List Int) (c : DCopy) : Nat → Int
  | 0 => 0
  | j + 1 => if (cp l (nat s j)).2.1 = c.2.1 then rpc l s c j else rpc l s c j + 1
theorem rpc_bd (l : List DCopy) (s : List Int) (c : DCopy) : ∀ j : Nat, 0 ≤ rpc l s c j ∧ rpc l s c j ≤ j
  | 0 => by simp [rpc]
  | j + 1 => by
    have := rpc_bd l s c j
    unfold rpc
    split <;> omega
theorem rep_hol {l : List DCopy} {s : List Int} {n : Nat} (hn : n = l.length) (hok : okTil l n = true) (hs : someOk s n = true) {m : Nat} (hm : m < n) : ∀ {j : Nat}, j ≤ s.length → rep l s (cp l m) j = hol l s (cp l m).2.1 (cp l m).2.2 j
  | 0, _ => rfl
  | j + 1, hj => by
    have hk := some_nat hs (show j < s.length by omega)
    unfold rep hol
    rw [rep_hol hn hok hs hm (by omega)]
    split
    · next e =>
      have e2 := okTil_one hok (by omega) hk.2 hm e
      have e3 : ((cp l (nat s j)).1, (cp l m).2.1, (cp l m).2.2) = cp (hol l s (cp l m).2.1 (cp l m).2.2 j) (nat s j) := by
        rw [hol_cp hs (by omega) (by omega), if_neg (by rw [has_not hs (by omega)]; simp), ← e, ← e2]
      rw [e3]
      refine List.ext_getElem? fun i => ?_
      by_cases ei : i = nat s j
      · subst ei
        rw [List.getElem?_set_self (by rw [hol_len]; omega), cp_at (by rw [hol_len]; omega)]
      · rw [List.getElem?_set_ne (fun h => ei h.symm)]
    · rfl
end Go.Proofs.Ytbkdkiodkcpbeaa
