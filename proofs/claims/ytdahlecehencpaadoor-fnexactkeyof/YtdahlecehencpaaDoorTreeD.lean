/- How deep a tree is, by the specification. -/
import Derived.Test.YtdahlecehencpaaDoorTrMem
import Derived.Test.YtdahlecehencpaaDoorDeepest
namespace Go.Proofs.YtdahlecehencpaaDoor
open Go.RowKit
set_option linter.unusedVariables false

theorem Tr.cnt_pos (t : Tr) : 0 < t.cnt := by cases t; rw [Tr.cnt]; omega
theorem Tr.cnt_mem {l : List Tr} {t : Tr} (h : t ∈ l) : t.cnt ≤ Tr.cnts l := by
  induction l with
  | nil => simp at h
  | cons a l ih =>
    rw [Tr.cnts]
    rcases List.mem_cons.1 h with rfl | h
    · omega
    · have := ih h; omega
theorem Tr.len_cnts (l : List Tr) : l.length ≤ Tr.cnts l := by
  induction l with
  | nil => simp
  | cons a l ih => rw [Tr.cnts, List.length_cons]; have := a.cnt_pos; omega
theorem Tr.deep_cnt (t : Tr) : t.deep ≤ t.cnt := by
  refine Tr.ind (P := fun t => t.deep ≤ t.cnt) (fun k n t nm ks ih => ?_) t
  rw [Tr.deep, Tr.cnt]
  have h1 : Tr.deeps ks ≤ Tr.cnts ks := by
    by_cases h : ks = []
    · subst h; simp [Tr.deeps]
    · obtain ⟨x, hx, e⟩ := Tr.deeps_some h
      rw [e]
      exact Nat.le_trans (ih x hx) (Tr.cnt_mem hx)
  have h2 : (if holdsB k = true then 1 else 0) ≤ 1 := by split <;> omega
  omega

def DeepSaid (t : Tr) : Prop := ∀ (v : Value) (w : World), Tree w t v → t.cnt ≤ 2 ^ 20 →
    Calls Tryd.prog 65 #[v] w fun e w' => e = .returned (.int .i64 (t.deep : Nat)) ∧ Below w.heap.size w w'

theorem deeps_take {ks : List Tr} {m : Nat} {x : Tr} (h : ks[m]? = some x) : Tr.deeps (ks.take (m + 1)) = max (Tr.deeps (ks.take m)) x.deep := by
  rw [List.take_add_one, h]
  exact Tr.deeps_snoc _ _
theorem deeps_take_le (ks : List Tr) (m : Nat) : Tr.deeps (ks.take m) ≤ Tr.deeps ks := by
  by_cases h : ks.take m = []
  · rw [h]; simp [Tr.deeps]
  · obtain ⟨t, ht, e⟩ := Tr.deeps_some h
    rw [e]
    exact Tr.le_deeps (List.mem_of_mem_take ht)

set_option maxRecDepth 100000 in
set_option maxHeartbeats 2000000 in
theorem l1Deep_step (k n : Int) (t : ByteArray) (nm : List ByteArray) (ks : List Tr) (ih : ∀ x ∈ ks, DeepSaid x) : DeepSaid (.mk k n t nm ks) := by
  intro v w h hd
  obtain ⟨an, cn, ak, ck, rfl, _, hk⟩ := h.open
  have hcn : Tr.cnts ks ≤ 2 ^ 20 := by rw [Tr.cnt] at hd; omega
  have hdd : Tr.deeps ks ≤ 2 ^ 20 := by have := Tr.deep_cnt (.mk k n t nm ks); rw [Tr.deep] at this; omega
  have hkl := Tr.len_cnts ks
  have HIH : Hid (∀ x ∈ ks, DeepSaid x) := ih
  have HT : Hid (Tree w (.mk k n t nm ks) _) := h
  have HK : Hid (ks = [] ∨ ∃ g, ak = some ⟨g, 0, none⟩ ∧ g < w.heap.size ∧ ∀ i x, ks[i]? = some x → KidAt w (fun _ => True) x g i) := hk
  clear ih h hk
  go_enter Tryd.func65, Tryd.ntmps65
  go_wp2_with fail
  go_loopw [3, 10] (fun q i wr => ∃ m : Nat, m ≤ ks.length ∧ i = .int .i64 m ∧ q = .int .i64 (Tr.deeps (ks.take m) : Nat) ∧ Below (w.heap.size + 1) (w.alloc (.cells #[.int .i64 k, .int .i64 n, .string t, .slice an nm.length cn, .slice ak ks.length ck] 75)) wr) (fun _ i _ => ks.length - (intOf i).toNat)
  case atStart => exact ⟨0, Nat.zero_le _, rfl, rfl, Below.refl _ _⟩
  case round =>
    obtain ⟨m, hm, rfl, rfl, hnx⟩ := hrel
    have hz := hnx.size
    simp at hz
    have hwb : Below w.heap.size w wr := (show Below w.heap.size w _ by go_grown).trans (hnx.mono (by omega))
    have x0 : wr.cell? ⟨w.heap.size, 0, none⟩ = some (.int .i64 k) := by rw [hnx.cell (by show w.heap.size < _; omega)]; simp [go_sem]
    have HW : Hid (Below w.heap.size w wr) := hwb
    by_cases hlt : m < ks.length
    · obtain ⟨x, hx⟩ : ∃ x, ks[m]? = some x := ⟨ks[m], List.getElem?_eq_getElem hlt⟩
      rcases HK.out with h0 | ⟨g, rfl, hg, hkid⟩
      · rw [h0] at hlt; simp at hlt
      obtain ⟨an', cn', ak', ck', c0, c1, c2, c3, c4, htr⟩ := ((hkid m x hx).keep (fun b' _ hl' => hwb.block b' hl') (fun _ _ _ => trivial) hwb.size (hwb.block g hg)).cells
      have HS : Hid (DeepSaid x) := HIH.out x (List.mem_of_getElem? hx)
      have hcx : x.cnt ≤ 2 ^ 20 := Nat.le_trans (Tr.cnt_mem (List.mem_of_getElem? hx)) hcn
      have hdx : x.deep ≤ Tr.deeps ks := Tr.le_deeps (List.mem_of_getElem? hx)
      have HTR : Hid (Tree wr x (.agg #[.int .i64 x.kind, .int .i64 x.num, .string x.text, .slice an' x.names.length cn', .slice ak' x.kids.length ck'])) := htr
      have hst := deeps_take hx
      have hle := deeps_take_le ks m
      have HST : Hid (Tr.deeps (ks.take (m + 1)) = max (Tr.deeps (ks.take m)) x.deep) := hst
      have j0 : (0 : Int) ≤ (m : Int) := by omega
      have j1 : (m : Int) < (ks.length : Int) := by omega
      have hgw : g < wr.heap.size := by omega
      obtain ⟨D, hD⟩ : ∃ D, D = Tr.deeps (ks.take m) := ⟨_, rfl⟩
      rw [← hD] at hle ⊢
      have HD : Hid (D = Tr.deeps (ks.take m)) := hD
      clear hkid htr hwb hst hD hx
      go_wp2_with fail
      refine (HS.out _ _ (HTR.out.below ((Below.refl _ _).alloc (Nat.le_refl _) _)) (by omega)).mono ?_
      rintro e w2 ⟨rfl, hb2⟩
      have HB2 : Hid (Below (w.heap.size + 1) (w.alloc (.cells #[.int .i64 k, .int .i64 n, .string t, .slice an nm.length cn, .slice (some ⟨g, 0, none⟩) ks.length ck] 75)) w2) := hnx.trans (((Below.refl _ _).alloc (Nat.le_refl _) _).mono (by omega) |>.trans (hb2.mono (by simp; omega)))
      clear hb2 hnx c0 c1 c2 c3 c4
      by_cases hgt : (D : Int) < (x.deep : Nat)
      · go_wp2_with fail
        go_roundw
        case rel => exact ⟨m + 1, by omega, by go_num, by rw [HST.out, ← HD.out, Nat.max_eq_right (by omega)], HB2.out⟩
        case measure => simp [intOf]; omega
      · go_wp2_with fail
        go_roundw
        case rel => exact ⟨m + 1, by omega, by go_num, by rw [HST.out, ← HD.out, Nat.max_eq_left (by omega)], HB2.out⟩
        case measure => simp [intOf]; omega
    · obtain rfl : m = ks.length := by omega
      rw [List.take_length]
      have HR : Hid (Tr.deep (.mk k n t nm ks) = Tr.deeps ks + (if holdsB k then 1 else 0)) := by show _ = _; rw [Tr.deep]
      clear hnx
      cases hh : holdsB k with
      | true =>
        have HH : Hid (holdsB k = true) := hh
        clear hh
        go_wp2_with fail
        refine (l1Holds_is k true _ HH.out).mono ?_
        rintro e w2 ⟨rfl, rfl⟩
        go_wp2
        go_ret
        exact ⟨by rw [HR.out, HH.out]; simp, HW.out⟩
      | false =>
        have HH : Hid (holdsB k = false) := hh
        clear hh
        go_wp2_with fail
        refine (l1Holds_is k false _ HH.out).mono ?_
        rintro e w2 ⟨rfl, rfl⟩
        go_wp2
        go_ret
        exact ⟨by rw [HR.out, HH.out]; simp, HW.out⟩

theorem l1Deep_any (t : Tr) : DeepSaid t := Tr.ind (P := DeepSaid) (fun k n t nm ks ih => l1Deep_step k n t nm ks ih) t

end Go.Proofs.YtdahlecehencpaaDoor
