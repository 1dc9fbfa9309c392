/- Texts: cloned, sorted, compacted by the library, and looked for by halving. No condition but that they fit in memory. -/
import Derived.Test.YtkboblfjchkedaaSxC
import Derived.Test.YtkboblfjchkedaaSxK
import Derived.Test.YtkboblfjchkedaaLib
import Derived.Test.YtkboblfjchkedaaQb
namespace Go.Proofs.Ytkboblfjchkedaa
open Go.RowKit Go.Sort
set_option linter.unusedVariables false

theorem tx_flat (l : List (List UInt8)) : l.flatMap txC = l.map encStr := by
  induction l with
  | nil => rfl
  | cons x r ih => rw [List.flatMap_cons, ih]; rfl
theorem cloneTx_k (l : List (List UInt8)) (a : Option Addr) (n c : Nat) (S : Nat → Prop) (w : World) (h : (kRow kTx).is false w S [.slice a n c] l) (hl : l.length ≤ 2 ^ 20) :
    Calls Try.prog 72 #[.slice a n c] w fun e w' => ∃ a' c', e = .returned (.slice a' n c') ∧ (kRow kTx).is true w' (fun k => w.heap.size ≤ k) [.slice a' n c'] l ∧ Below w.heap.size w w' := by
  have hn := row_len h
  have hok := kTx_plain.oks h
  cases a with
  | none =>
    have hl0 := row_none h
    subst hl0
    have hn0 : n = 0 := hn
    subst hn0
    refine (Any.slices_Clone_string_nil Try.laysTwo16 0 c w).mono ?_
    rintro e w' ⟨rfl, rfl⟩
    exact ⟨none, 0, rfl, row_nil _ _ _ _ _ _, Below.refl _ _⟩
  | some ad =>
    have fin : ∀ e w', (∃ v', e = Ending.returned v' ∧ w'.ownsRow w.heap.size 9 1 v' n (l.map encStr) ∧ v' ≠ .slice none 0 0 ∧ Below w.heap.size w w') → ∃ a' c', e = Ending.returned (.slice a' n c') ∧ (kRow kTx).is true w' (fun k => w.heap.size ≤ k) [.slice a' n c'] l ∧ Below w.heap.size w w' := by
      rintro e w' ⟨v', rfl, ho, _, hb⟩
      have ho' : OwnL txC 9 1 w' w.heap.size v' l := by
        unfold OwnL
        rw [tx_flat, ← hn]
        exact ho
      obtain ⟨a', c', rfl, _⟩ := ho'.form
      rw [← hn]
      rw [← hn] at ho'
      exact ⟨a', c', rfl, kTx_plain.own ho' (by omega) hok, hb⟩
    by_cases h0 : l = []
    · subst h0
      have hn0 : n = 0 := hn
      subst hn0
      exact (Any.slices_Clone_string_zero Try.laysTwo16 ad c w).mono fin
    · obtain ⟨x, hx⟩ : ∃ x, l[0]? = some x := ⟨_, List.getElem?_eq_getElem (List.length_pos_iff.2 h0)⟩
      obtain ⟨b, off, B, C, e, hb, hSb, _⟩ := row_at h hx
      injection e with e
      subst e
      have hcon := Any.slices_Clone_string Try.laysTwo16 b off n c (l.map fun x => ⟨x.toArray⟩) w (by simp; omega) (by omega) (fun j hj => by
        have hj' : j < l.length := by simpa using hj
        have hq : l[j]? = some l[j] := List.getElem?_eq_getElem hj'
        have h2 := kTx_plain.cell h hq (j := 0) rfl
        rw [show off + j * kTx.wd + 0 = off + j by show off + j * 1 + 0 = _; omega] at h2
        rw [h2]
        simp [List.getD_eq_getElem?_getD, hq, encStr])
      refine hcon.mono fun e w' hh => fin e w' ?_
      obtain ⟨v', he, ho, hv, hb⟩ := hh
      refine ⟨v', he, ?_, hv, hb⟩
      have e : ((l.map fun x => (⟨x.toArray⟩ : ByteArray)).take n).map Value.string = l.map encStr := by
        rw [List.take_of_length_le (by simp; omega), List.map_map]
        rfl
      rw [← e]
      exact ho

theorem cmpLays_tx (blk off size : Nat) (w : World) : CmpLays1 Try.prog 58 #[] encStr Lib.compareBytes blk off size w := by
  intro m os dk hs x y
  refine (Try.strings_Compare ⟨x.toArray⟩ ⟨y.toArray⟩ _).mono ?_
  rintro e w' ⟨rfl, rfl⟩
  exact ⟨rfl, 0, #[], by rw [grow_empty]; rfl⟩

/-- Sorted. -/
def srtT (l : List (List UInt8)) : List (List UInt8) := l.mergeSort fun x y => !(ltOf Lib.compareBytes) y x
set_option maxHeartbeats 1000000 in
theorem sortTx_k (l : List (List UInt8)) (a : Option Addr) (n c : Nat) (S : Nat → Prop) (w : World) (h : (kRow kTx).is true w S [.slice a n c] l) (hl : l.length ≤ 2 ^ 20) :
    Calls Try.prog 73 #[.slice a n c, .func (.func 58) #[] #[]] w fun e w' => e = .returned (.tuple #[]) ∧ (kRow kTx).is true w' S [.slice a n c] (srtT l) ∧ KeptO S w w' := by
  have hn := row_len h
  have hok := kTx_plain.oks h
  by_cases h0 : l = []
  · subst h0
    have hn0 : n = 0 := hn
    subst hn0
    refine (AnyF.slices_SortFunc_none { Try.lsoS with } a c (.func (.func 58) #[] #[]) w).mono ?_
    rintro e w' ⟨rfl, rfl⟩
    exact ⟨rfl, by unfold srtT; simpa using h, KeptO.refl _ _⟩
  · obtain ⟨x, hx⟩ : ∃ x, l[0]? = some x := ⟨_, List.getElem?_eq_getElem (List.length_pos_iff.2 h0)⟩
    obtain ⟨b, off, B, C, e, hb, hSb, _⟩ := row_at h hx
    subst e
    have hnc := row_cap h
    have eg : ∀ args w, (callFunc 58 args).run Try.prog w = .ok (.enter 58 args) w := enters_of Try.func58 (by kernel_rfl) rfl
    have hsz : l.toArray.size = n := by rw [hn]; simp
    have hH := kTx_plain.holds (enc := encStr) (fun _ => rfl) rfl h
    have hcon := Any.slices_SortFunc_total Try.lsoS encStr (fun _ => rfl) Lib.compareBytes (sto_swo bl_sto cmpT_lt) 58 #[] b off c l.toArray w eg (cmpLays_tx b off _ w) hH hb (by rw [hsz]; omega) (fun x y h1 h2 => by rw [cmpT_lt] at h1 h2; exact bl_total h1 h2)
    rw [hsz] at hcon
    refine Calls.mono hcon ?_
    rintro e w' ⟨rfl, m, os, rfl⟩
    have hp : (srtT l).Perm l := List.mergeSort_perm l _
    have hs : ((l.toArray.toList.mergeSort fun x y => !(ltOf Lib.compareBytes) y x).toArray) = (srtT l).toArray := rfl
    rw [hs]
    have hH2 := holds_sortWorld encStr w b off m l.toArray (srtT l).toArray os hb hH (by simp [hp.length_eq])
    have hz := lt_sortWorld encStr w b off m (srtT l).toArray os hb
    exact ⟨rfl, kTx_plain.ofHolds (m := []) (fun _ => rfl) rfl (by rw [List.append_nil]; exact hH2) hz hSb (by rw [hn, hp.length_eq]) hnc (by rw [hp.length_eq]; omega) (fun x hx => hok x (hp.mem_iff.1 hx)), (putRow_kept encStr w b off m _ os).mono fun k hk => hk ▸ hSb⟩
theorem compact_len {α : Type} [Inhabited α] [DecidableEq α] (l : List α) : (Lib.compact l).length ≤ l.length := by
  unfold Lib.compact Lib.compactUpTo
  rw [List.length_map]
  exact Nat.le_trans (List.length_filter_le _ _) (by simp)
set_option maxHeartbeats 1000000 in
theorem compactTx_k (l : List (List UInt8)) (a : Option Addr) (n c : Nat) (S : Nat → Prop) (w : World) (h : (kRow kTx).is true w S [.slice a n c] l) (hl : l.length ≤ 2 ^ 20) :
    Calls Try.prog 74 #[.slice a n c] w fun e w' => ∃ m, e = .returned (.slice a m c) ∧ (kRow kTx).is true w' S [.slice a m c] (Lib.compact l) ∧ KeptO S w w' := by
  have hn := row_len h
  have hok := kTx_plain.oks h
  by_cases h0 : l = []
  · subst h0
    have hn0 : n = 0 := hn
    subst hn0
    refine (Any.slices_Compact_string_empty Try.lays194 a c w).mono ?_
    rintro e w' ⟨rfl, rfl⟩
    exact ⟨0, rfl, by simpa [Lib.compact, Lib.compactUpTo] using h, KeptO.refl _ _⟩
  · obtain ⟨x, hx⟩ : ∃ x, l[0]? = some x := ⟨_, List.getElem?_eq_getElem (List.length_pos_iff.2 h0)⟩
    obtain ⟨b, off, B, C, e, hb, hSb, _⟩ := row_at h hx
    subst e
    have hnc := row_cap h
    have hH := kTx_plain.holds (enc := encStr) (fun _ => rfl) rfl h
    have hcl := compact_len l
    have hcon := Any.slices_Compact_string Try.lays194 b off c l w hH (by omega) (by omega)
    rw [← hn] at hcon
    refine Calls.mono hcon ?_
    rintro e w' ⟨rfl, q, rfl⟩
    obtain ⟨R, hR⟩ : ∃ R, R = Lib.compact l ++ List.replicate (n - (Lib.compact l).length) [] := ⟨_, rfl⟩
    have hRl : R.length = l.length := by rw [hR, List.length_append, List.length_replicate]; omega
    rw [← hR]
    have hH2 : Holds encStr (putRow encStr (Sort.ahead w q) b off R.toArray) b off R.toArray := holds_putRow encStr _ b off l.toArray R.toArray (holds_ahead encStr w q b off l.toArray hH) (by simp [hRl])
    have hk := putRow_kept encStr w b off q R.toArray #[]
    rw [grow_empty] at hk
    refine ⟨_, rfl, kTx_plain.ofHolds (m := List.replicate (n - (Lib.compact l).length) []) (fun _ => rfl) rfl (by rw [← hR]; exact hH2) (by have := hk.size; omega) hSb rfl (by omega) (by omega) (fun x hx => ?_), hk.mono fun k hk => hk ▸ hSb⟩
    refine hok x ?_
    unfold Lib.compact Lib.compactUpTo at hx
    obtain ⟨j, hj, rfl⟩ := List.mem_map.1 hx
    have hj2 : j < l.length := by simpa using (List.mem_filter.1 hj).1
    exact List.mem_of_getElem? (toA hj2)
end Go.Proofs.Ytkboblfjchkedaa
