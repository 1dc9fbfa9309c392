/- How long the text of a node's own is at most. -/
import Derived.Test.YtjbjgkkkkghcgaaGreatDoorTell
namespace Go.Proofs.YtjbjgkkkkghcgaaGreatDoor

/-- What bounds a text's length. -/
structure TB (N : Nat → Nd) (n : Nat) : Prop where
  pre : Pre N n
  hold : ∀ i, 0 < i → i < n → (N (par N i)).kind = 6 ∨ (N (par N i)).kind = 7
  num : ∀ i, i < n → (Lib.itoa (N i).num).length ≤ 40
  text : ∀ i, i < n → (N i).text.size ≤ 24
  name : ∀ i, i < n → (N i).name.size ≤ 24

theorem escL_len (l : List UInt8) : (escL l).length ≤ 2 * l.length := by
  unfold escL
  induction l with
  | nil => simp
  | cons c l ih =>
    rw [List.flatMap_cons, List.length_append, List.length_cons]
    have : (esc c).length ≤ 2 := by unfold esc; split <;> simp
    omega
theorem quoteL_len (s : ByteArray) : (quoteL s).length ≤ 2 * s.size + 2 := by
  unfold quoteL
  have h1 := escL_len s.data.toList
  have h2 : s.data.toList.length = s.size := Array.length_toList
  rw [h2] at h1
  rw [List.length_cons, List.length_append, List.length_singleton]
  omega
theorem wordL_len (k : Int) : (wordL k).length ≤ 5 := by
  unfold wordL
  split
  · simp
  · split
    · simp
    · split <;> simp
theorem headL_len {N : Nat → Nd} {n k p : Nat} (h : TB N n) (hp : p < n) : (headL N k p).length ≤ 51 := by
  unfold headL
  split
  · have := quoteL_len (N p).name
    have := h.name p hp
    simp
    omega
  · simp

theorem kidsTo_prefix (N : Nat → Nd) (k a : Nat) : ∀ d, ∃ t, kidsTo N k (a + d) = kidsTo N k a ++ t := by
  intro d
  induction d with
  | zero => exact ⟨[], by simp⟩
  | succ d ih =>
    obtain ⟨t, ht⟩ := ih
    rw [show a + (d + 1) = (a + d) + 1 by omega, kidsTo]
    split
    · exact ⟨t ++ [a + d], by rw [ht]; simp⟩
    · exact ⟨t, ht⟩

/-- The part at a boundary is the next in the list. -/
theorem kids_at {N : Nat → Nd} {n k q e : Nat} (he : e ≤ n) (hk : kidsTo N k e = kidsTo N k q ++ [q]) : (kidsTo N k n).getD (kidsTo N k q).length 0 = q ∧ (kidsTo N k q).length < (kidsTo N k n).length := by
  obtain ⟨t, ht⟩ := kidsTo_prefix N k e (n - e)
  rw [show e + (n - e) = n by omega, hk] at ht
  rw [ht]
  refine ⟨?_, by simp⟩
  rw [List.getD_eq_getElem?_getD, List.append_assoc, List.getElem?_append_right (Nat.le_refl _)]
  simp

theorem leaf_end {N : Nat → Nd} {n k : Nat} (h : TB N n) (hk : k < n) (hl : ¬ ((N k).kind = 6 ∨ (N k).kind = 7)) : IsEnd N n k (k + 1) := by
  refine (bnd_stop h.pre (bnd_start h.pre hk) fun hq e => ?_).1
  have := h.hold (k + 1) (by omega) hq
  rw [show par N (k + 1) = k by unfold par; omega] at this
  exact hl this

theorem inner_len {N : Nat → Nd} {n k : Nat} (h : TB N n) (ih : ∀ p, k < p → p < n → ∃ e, IsEnd N n p e ∧ (T N n p).length + 100 ≤ 200 * (e - p)) :
    ∀ d q, n - q = d → Bnd N n k q → (innerTo (fun p => headL N k p ++ T N n p) (kidsTo N k n) (kidsTo N k q).length).length ≤ 200 * (q - (k + 1)) →
      ∃ e, IsEnd N n k e ∧ (innerTo (fun p => headL N k p ++ T N n p) (kidsTo N k n) (kidsTo N k n).length).length ≤ 200 * (e - (k + 1)) := by
  intro d
  induction d using Nat.strongRecOn with
  | _ d ihd =>
    intro q hd hb hl
    by_cases hs : q < n ∧ (N q).up = k
    · obtain ⟨e, he, hle⟩ := ih q hb.1 hs.1
      obtain ⟨hb2, hk2⟩ := bnd_next h.pre hb hs.1 hs.2 he
      obtain ⟨ha, _⟩ := kids_at he.2.1 hk2
      have h1 := he.1
      have h2 := hb.1
      refine ihd (n - e) (by omega) e rfl hb2 ?_
      rw [hk2, List.length_append, List.length_singleton, innerTo, ha, List.length_append, List.length_append, List.length_append]
      have h3 := headL_len (k := k) h hs.1
      have h4 : (if (kidsTo N k q).length = 0 then ([] : List UInt8) else [44]).length ≤ 1 := by split <;> simp
      omega
    · obtain ⟨he, hke⟩ := bnd_stop h.pre hb (fun hq e => hs ⟨hq, e⟩)
      exact ⟨q, he, by rw [hke]; rw [hke] at hl; exact hl⟩

theorem T_len {N : Nat → Nd} {n : Nat} (h : TB N n) : ∀ d k, n - k = d → k < n → ∃ e, IsEnd N n k e ∧ (T N n k).length + 100 ≤ 200 * (e - k) := by
  intro d
  induction d using Nat.strongRecOn with
  | _ d ih =>
    intro k hd hk
    by_cases h67 : (N k).kind = 6 ∨ (N k).kind = 7
    · have hb := bnd_start h.pre hk
      have h0 : kidsTo N k (k + 1) = [] := by
        have := kidsTo_skip (N := N) (k := k) (a := 0) (k + 1) (fun i h1 h2 ⟨h3, _⟩ => by omega)
        rw [Nat.zero_add] at this
        exact this
      obtain ⟨e, he, hle⟩ := inner_len h (fun p h1 h2 => ih (n - p) (by omega) p rfl h2) (n - (k + 1)) (k + 1) rfl hb (by rw [h0]; simp [innerTo])
      refine ⟨e, he, ?_⟩
      rw [T_parts hk h67]
      have := he.1
      simp
      omega
    · refine ⟨k + 1, leaf_end h hk h67, ?_⟩
      by_cases h4 : (N k).kind = 4
      · rw [T_num hk h4]; have := h.num k hk; omega
      · by_cases h5 : (N k).kind = 5
        · rw [T_text hk h5]; have := quoteL_len (N k).text; have := h.text k hk; omega
        · rw [T_word hk h4 h5 h67]; have := wordL_len (N k).kind; omega

theorem T_le {N : Nat → Nd} {n k : Nat} (h : TB N n) (hk : k < n) : (T N n k).length ≤ 200 * n := by
  obtain ⟨e, he, hl⟩ := T_len h (n - k) k rfl hk
  have := he.2.1
  omega

theorem innerTo_mono (f : Nat → List UInt8) (ks : List Nat) (a : Nat) : ∀ d, (innerTo f ks a).length ≤ (innerTo f ks (a + d)).length := by
  intro d
  induction d with
  | zero => exact Nat.le_refl _
  | succ d ih =>
    rw [show a + (d + 1) = (a + d) + 1 by omega, innerTo, List.length_append]
    omega
theorem inner_le {N : Nat → Nd} {n k : Nat} (h : TB N n) (hk : k < n) (h67 : (N k).kind = 6 ∨ (N k).kind = 7) (m : Nat) (hm : m ≤ (kidsTo N k n).length) : (innerTo (fun p => headL N k p ++ T N n p) (kidsTo N k n) m).length ≤ 200 * n := by
  have h1 := T_le h hk
  rw [T_parts hk h67] at h1
  have h2 := innerTo_mono (fun p => headL N k p ++ T N n p) (kidsTo N k n) m ((kidsTo N k n).length - m)
  rw [show m + ((kidsTo N k n).length - m) = (kidsTo N k n).length by omega] at h2
  simp at h1
  omega

end Go.Proofs.YtjbjgkkkkghcgaaGreatDoor
