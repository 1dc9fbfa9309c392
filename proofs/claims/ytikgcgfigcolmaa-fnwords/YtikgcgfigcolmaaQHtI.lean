/- int: how it lies in memory, and what the laws' helpers do with it. No condition. string: how it lies in memory, and what the laws' helpers do with it. No condition. How many of the words each text has: the mathematics, and the marks in memory. No condition. How many of the words each text has: the specification's l10Marks. No condition but that they fit in memory. Texts that are meant, by how many of the words they have: the mathematics. No condition. Texts that have all, any or none of the words: the program's. No condition but that they fit in memory. -/
import Derived.Test.YtikgcgfigcolmaaKd
import Derived.Test.YtikgcgfigcolmaaQLoS
import Derived.Test.YtikgcgfigcolmaaAp2
namespace Go.Proofs.Ytikgcgfigcolmaa
open Go.RowKit
set_option linter.unusedVariables false
theorem infoIntS : (Try.prog.info? 3).map (fun i => (i.zero, i.size, i.bytes)) = some (some (.int .i64 0), 1, 8) := by kernel_rfl
theorem makeIntS (n : Nat) (hn : n ≤ 2 ^ 30) (W : World) : (Instr.makeSlice 33 (.int .i64 (n : Int)) (.int .i64 (n : Int))).run Try.prog W = .ok (.slice (some ⟨W.heap.size, 0, none⟩) n n) (W.alloc (.cells (madeCells #[.int .i64 0] (n)) 3)) := by
  obtain ⟨i0, hi, hz0, hz1, hz2⟩ := info_parts infoIntS
  have h := run_make (P := Try.prog) W 33 3 i0 _ Try.underlying33 hi hz0 .i64 .i64 n n (by omega) (by omega) (by rw [hz2]; omega) (by omega)
  rw [hz1] at h
  simpa [Value.cells] using h
theorem cntle_int (x : Int) : kInt.cnt x ≤ 10 * (1 + kInt.sz x) := by show 1 ≤ _; omega
theorem cnt_IntS {l : List Int} (h : (kRow kInt).sz l ≤ 2 ^ 20) : sums kInt.cnt l ≤ 2 ^ 26 := by
  have h1 := sums_le_of kInt.cnt kInt.sz 10 cntle_int l
  have h2 : l.length + sums kInt.sz l ≤ 2 ^ 20 := h
  omega

end Go.Proofs.Ytikgcgfigcolmaa
namespace Go.Proofs.Ytikgcgfigcolmaa
open Go.RowKit
set_option linter.unusedVariables false
theorem infoStringS : (Try.prog.info? 9).map (fun i => (i.zero, i.size, i.bytes)) = some (some (.string ⟨#[]⟩), 1, 16) := by kernel_rfl
theorem makeStringS (n : Nat) (hn : n ≤ 2 ^ 30) (W : World) : (Instr.makeSlice 23 (.int .i64 (n : Int)) (.int .i64 (n : Int))).run Try.prog W = .ok (.slice (some ⟨W.heap.size, 0, none⟩) n n) (W.alloc (.cells (madeCells #[.string ⟨#[]⟩] (n)) 9)) := by
  obtain ⟨i0, hi, hz0, hz1, hz2⟩ := info_parts infoStringS
  have h := run_make (P := Try.prog) W 23 9 i0 _ Try.underlying23 hi hz0 .i64 .i64 n n (by omega) (by omega) (by rw [hz2]; omega) (by omega)
  rw [hz1] at h
  simpa [Value.cells] using h
theorem cntle_string (x : ByteArray) : kStr.cnt x ≤ 10 * (1 + kStr.sz x) := by show 1 ≤ _; omega
theorem cnt_StringS {l : List ByteArray} (h : (kRow kStr).sz l ≤ 2 ^ 20) : sums kStr.cnt l ≤ 2 ^ 26 := by
  have h1 := sums_le_of kStr.cnt kStr.sz 10 cntle_string l
  have h2 : l.length + sums kStr.sz l ≤ 2 ^ 20 := h
  omega

end Go.Proofs.Ytikgcgfigcolmaa
namespace Go.Proofs.Ytikgcgfigcolmaa
open Go.RowKit
set_option linter.unusedVariables false

/-- One more at each text of a list. -/
def addL : List Int → List DPosting → List Int
  | M, [] => M
  | M, p :: r => addL (M.modify p.1.toNat (· + 1)) r
/-- The marks of all words, where they are words. -/
def markL (es : List DEntry) : List Int → List ByteArray → Option (List Int)
  | M, [] => some M
  | M, s :: r => if isWordB s = true then markL es (addL M (findL s es)) r else none
/-- How many of the words each text has. -/
def fMarks (x : DWords) (ws : List ByteArray) : Option (List Int) := if (fGoodWords x && decide (ws.length ≤ 20)) = true then markL x.2 (List.replicate x.1.toNat 0) ws else none

def BndM (M : List Int) (b : Int) : Prop := ∀ x ∈ M, 0 ≤ x ∧ x ≤ b
theorem BndM.mono {M : List Int} {b c : Int} (h : BndM M b) (hb : b ≤ c) : BndM M c := fun x hx => ⟨(h x hx).1, Int.le_trans (h x hx).2 hb⟩
theorem BndM.at {M : List Int} {b : Int} (h : BndM M b) {i : Nat} {x : Int} (hx : M[i]? = some x) : 0 ≤ x ∧ x ≤ b := h x (List.mem_of_getElem? hx)
theorem BndM.step {M : List Int} {b : Int} (h : BndM M b) (i : Nat) : BndM (M.modify i (· + 1)) (b + 1) := by
  intro x hx
  obtain ⟨j, hj⟩ := List.getElem?_of_mem hx
  rw [List.getElem?_modify] at hj
  cases e : M[j]? with
  | none => rw [e] at hj; simp at hj
  | some y =>
    rw [e] at hj
    have hy := h.at e
    simp at hj
    split at hj <;> omega
theorem BndM.zero (n : Nat) : BndM (List.replicate n 0) 0 := fun x hx => by
  obtain ⟨_, rfl⟩ := List.mem_replicate.1 hx
  omega
/-- Texts of a list are texts. -/
def InT (t : Int) (l : List DPosting) : Prop := ∀ p ∈ l, 0 ≤ p.1 ∧ p.1 < t

/-- Marks in memory. -/
def MkAt (w : World) (g : Nat) (M : List Int) : Prop := g < w.heap.size ∧ ∀ i x, M[i]? = some x → w.cell? ⟨g, i, none⟩ = some (.int .i64 x) ∧ w.frozen? ⟨g, i, none⟩ = false
theorem MkAt.below {w w' : World} {g : Nat} {M : List Int} (h : MkAt w g M) (hb : Below w.heap.size w w') : MkAt w' g M :=
  ⟨Nat.lt_of_lt_of_le h.1 hb.size, fun i x hx => by
    rw [World.cell?_of_block (w := w) (hb.block g h.1), World.frozen?_of_block (w := w) (hb.block g h.1)]
    exact h.2 i x hx⟩
theorem MkAt.put {w : World} {g i : Nat} {M : List Int} {x : Int} (h : MkAt w g M) (hx : M[i]? = some x) : MkAt (w.setCell ⟨g, i, none⟩ (.int .i64 (x + 1))) g (M.modify i (· + 1)) := by
  refine ⟨by simpa using h.1, fun j y hy => ?_⟩
  rw [List.getElem?_modify] at hy
  by_cases e : i = j
  · subst e
    rw [hx] at hy
    simp at hy
    rw [← hy]
    exact ⟨set_same (h.2 i x hx).1, frozen_set (h.2 i x hx).2⟩
  · cases e2 : M[j]? with
    | none => rw [e2] at hy; simp at hy
    | some z =>
      rw [e2] at hy
      simp [e] at hy
      rw [← hy]
      exact ⟨set_other (h.2 j z e2).1 e, frozen_set (h.2 j z e2).2⟩
theorem kept_set (w : World) (g o : Nat) (v : Value) : KeptO (fun k => k = g) w (w.setCell ⟨g, o, none⟩ v) := ⟨rfl, rfl, rfl, by simp, fun k hk hn => heap_set_ne hn⟩
theorem MkAt.row {w : World} {g n : Nat} {M : List Int} (h : MkAt w g M) (hn : n = M.length) {b : Int} (hb : BndM M b) (hb2 : b ≤ 2 ^ 40) (hm : M.length ≤ 2 ^ 30) {S : Nat → Prop} (hS : S g) : (kRow kInt).is true w S [.slice (some ⟨g, 0, none⟩) n n] M := by
  subst hn
  refine ⟨_, _, rfl, by unfold maxLen; omega, fun _ => Nat.le_refl _, .inr ⟨g, 0, fun _ _ => False, fun i => [.int .i64 ((M[i]?).getD 0)], rfl, h.1, hS, fun i x hx => ?_, fun _ _ _ h => h.elim, fun _ => ⟨fun _ _ h => h, fun _ _ _ _ _ _ h => h.elim⟩⟩⟩
  have hx' := hb.at hx
  simp only [hx, Option.getD_some]
  refine ⟨⟨rfl, by unfold IntOk; omega⟩, fun j v hj => ?_⟩
  match j, hj with
  | 0, hj =>
    obtain rfl : Value.int .i64 x = v := by simpa using hj
    rw [show 0 + i * kInt.wd + 0 = i by show 0 + i * 1 + 0 = i; omega]
    exact ⟨(h.2 i x hx).1, fun _ => (h.2 i x hx).2⟩
theorem addL_len : ∀ (l : List DPosting) (M : List Int), (addL M l).length = M.length
  | [], M => rfl
  | p :: r, M => by rw [addL, addL_len r]; simp
theorem postOk_in (t : Int) : ∀ (l : List DPosting) (last : Int), -1 ≤ last → postOk t last l = true → InT t l
  | [], last, _, _ => fun p hp => by simp at hp
  | (a, b) :: r, last, h0, h => by
    rw [postOk] at h
    simp only [Bool.and_eq_true, decide_eq_true_eq] at h
    intro p hp
    rcases List.mem_cons.1 hp with rfl | hp
    · refine ⟨?_, ?_⟩ <;> (show _; omega)
    · exact postOk_in t r a (by omega) (by first | exact h.2 | omega) p hp
theorem ent_in (t : Int) : ∀ (es : List DEntry) (last : ByteArray), entOk t last es = true → ∀ s, InT t (findL s es)
  | [], last, _, s => fun p hp => by simp [findL] at hp
  | (y, m) :: r, last, hk, s => by
    rw [entOk] at hk
    simp only [Bool.and_eq_true] at hk
    rw [findL]
    split
    · exact postOk_in t m (-1) (by omega) hk.1.2
    · exact ent_in t r y hk.2 s
theorem good_in {t : Int} {es : List DEntry} (h : fGoodWords (t, es) = true) (s : ByteArray) : InT t (findL s es) := by
  unfold fGoodWords at h
  simp only [Bool.and_eq_true] at h
  exact ent_in t es _ h.2 s
theorem good_texts {t : Int} {es : List DEntry} (h : fGoodWords (t, es) = true) : 0 ≤ t ∧ t ≤ 40 := by
  unfold fGoodWords at h
  simp only [Bool.and_eq_true, decide_eq_true_eq] at h
  exact h.1.1
theorem addL_bnd : ∀ (l : List DPosting) (M : List Int) (b : Int), BndM M b → BndM (addL M l) (b + l.length)
  | [], M, b, h => by simpa [addL] using h
  | p :: r, M, b, h => by
    have := addL_bnd r _ (b + 1) (h.step p.1.toNat)
    rw [addL]
    refine this.mono ?_
    simp only [List.length_cons]
    omega
theorem addL_drop {l : List DPosting} {j : Nat} {p : DPosting} (h : l[j]? = some p) (M : List Int) : addL M (l.drop j) = addL (M.modify p.1.toNat (· + 1)) (l.drop (j + 1)) := by
  have hk := (List.getElem?_eq_some_iff.1 h)
  rw [List.drop_eq_getElem_cons hk.1, hk.2, addL]
theorem mark_drop {es : List DEntry} {ws : List ByteArray} {j : Nat} {s : ByteArray} (h : ws[j]? = some s) (M : List Int) : markL es M (ws.drop j) = if isWordB s = true then markL es (addL M (findL s es)) (ws.drop (j + 1)) else none := by
  have hk := (List.getElem?_eq_some_iff.1 h)
  rw [List.drop_eq_getElem_cons hk.1, hk.2, markL]
theorem MkAt.start (w : World) (n : Nat) (T : TypeId) : MkAt (w.alloc (.cells (madeCells #[.int .i64 0] n) T)) w.heap.size (List.replicate n 0) := by
  refine ⟨by simp, fun i x hx => ?_⟩
  obtain ⟨hi, rfl⟩ : i < n ∧ x = 0 := by
    have := List.getElem?_eq_some_iff.1 hx
    simp at this
    omega
  refine ⟨?_, World.frozen?_alloc_new _ _ _ _⟩
  rw [World.cell?_alloc_new]
  simp [madeCells, hi]
  rw [Nat.mod_one]
  rfl
end Go.Proofs.Ytikgcgfigcolmaa
namespace Go.Proofs.Ytikgcgfigcolmaa
open Go.RowKit
set_option linter.unusedVariables false

theorem sz_str {ws : List ByteArray} {i : Nat} {x : ByteArray} (h : ws[i]? = some x) : x.size ≤ (kRow kStr).sz ws := by
  have h1 := sums_ge kStr.sz ws i x h
  have h2 : kStr.sz x = x.size := rfl
  have h3 : (kRow kStr).sz ws = ws.length + sums kStr.sz ws := rfl
  omega
/-- What the marks are. -/
def RMarks (x : DWords) (ws : List ByteArray) (w : World) (e : Ending) (w' : World) : Prop :=
  (fMarks x ws = none ∧ e = .returned (.tuple #[.slice none 0 0, .bool false]) ∧ Below w.heap.size w w') ∨
  ∃ g M, fMarks x ws = some M ∧ e = .returned (.tuple #[.slice (some ⟨g, 0, none⟩) M.length M.length, .bool true]) ∧ w.heap.size ≤ g ∧ MkAt w' g M ∧ BndM M (2 ^ 30) ∧ M.length ≤ 40 ∧ Below w.heap.size w w'

set_option maxRecDepth 100000 in
set_option maxHeartbeats 4000000 in
theorem l10Marks_k (x0 : DWords) (C0 : List Value) (S0 S1 : Nat → Prop) (ws : List ByteArray) (a1 : Option Addr) (n1 c1 : Nat) (w : World) (h0 : kWords.is false w S0 C0 x0) (z0 : kWords.sz x0 ≤ 2 ^ 20) (h1 : (kRow kStr).is false w S1 [.slice a1 n1 c1] ws) (z1 : (kRow kStr).sz ws ≤ 2 ^ 20) :
    Calls Try.prog 51 #[.agg C0.toArray, .slice a1 n1 c1] w (RMarks x0 ws w) := by
  obtain ⟨tx, es⟩ := x0
  have HK : Hid (kWords.is false w S0 C0 (tx, es)) := h0
  obtain ⟨a, c, T, rfl, g0, hmx, hr, _⟩ := kWords_open h0
  have HZ0 : Hid (kWords.sz (tx, es) ≤ 2 ^ 20) := z0
  have HZ : Hid ((kRow kEntry).sz es ≤ 2 ^ 20) := by have : kWords.sz (tx, es) = 0 + (kRow kEntry).sz es := rfl; show _ ≤ _; omega
  have HZ1 : Hid ((kRow kStr).sz ws ≤ 2 ^ 20) := z1
  have HRW : Hid ((kRow kEntry).is false w T [.slice a es.length c] es) := hr
  have HW : Hid ((kRow kStr).is false w S1 [.slice a1 n1 c1] ws) := h1
  have hn1 : n1 = ws.length := row_len h1
  have HN1 : Hid (n1 = ws.length) := hn1
  have hn20 : n1 ≤ 2 ^ 20 := by have h3 : (kRow kStr).sz ws = ws.length + sums kStr.sz ws := rfl; omega
  obtain ⟨G, hG⟩ : ∃ G, G = fMarks (tx, es) ws := ⟨_, rfl⟩
  have HF : Hid (G = if (fGoodWords (tx, es) && decide (ws.length ≤ 20)) = true then markL es (List.replicate tx.toNat 0) ws else none) := hG
  have HG : Hid (G = fMarks (tx, es) ws) := hG
  clear h0 z0 hr h1 z1 hn1 hG
  show Calls Try.prog 51 #[.agg #[.int .i64 tx, .slice a es.length c], .slice a1 n1 c1] w _
  go_enter Try.func51, Try.ntmps51
  go_wp2_with fail
  refine (specGoodWords_k (tx, es) [.int .i64 tx, .slice a es.length c] S0 _ (Kd.below HK.out (below_a1 _ _)) HZ0.out).mono ?_
  rintro e w1 ⟨rfl, hb1⟩
  have X0 : w1.cell? ⟨w.heap.size, 0, none⟩ = some (.int .i64 tx) := by rw [hb1.cell (by simp)]; simp [go_sem]
  have X1 : w1.cell? ⟨w.heap.size, 1, none⟩ = some (.slice a es.length c) := by rw [hb1.cell (by simp)]; simp [go_sem]
  have HB1 : Hid (Below w.heap.size w w1) := (below_a1 _ _).trans (hb1.mono (by simp))
  have zw1 : w.heap.size < w1.heap.size := by have := hb1.size; simp at this; omega
  clear hb1
  cases hg : fGoodWords (tx, es) with
  | false =>
    have HNO : Hid (G = none) := by have := HF.out; rw [hg] at this; exact this
    clear hg
    go_wp2
    refine bodyPost_ret (v := .tuple #[.slice none 0 0, .bool false]) (by simp [results, Try.results51, go_sem]) rfl ?_
    exact .inl ⟨by rw [← HG.out, HNO.out], rfl, HB1.out⟩
  | true =>
    obtain ⟨t0, t40⟩ := good_texts hg
    have HFU : Hid (Full es) := good_full hg
    have HIN : Hid (∀ s, InT tx (findL s es)) := good_in hg
    by_cases h20 : (20 : Int) < (n1 : Int)
    · have HNO : Hid (G = none) := by have := HF.out; rw [hg, decide_eq_false (by rw [← HN1.out]; omega)] at this; exact this
      clear hg
      go_wp2
      refine bodyPost_ret (v := .tuple #[.slice none 0 0, .bool false]) (by simp [results, Try.results51, go_sem]) rfl ?_
      exact .inl ⟨by rw [← HG.out, HNO.out], rfl, HB1.out⟩
    · have HF1 : Hid (markL es (List.replicate tx.toNat 0) ws = G) := by have := HF.out; rw [hg, decide_eq_true (by rw [← HN1.out]; omega)] at this; exact this.symm
      clear hg HF
      obtain ⟨t, rfl⟩ : ∃ t : Nat, tx = t := ⟨tx.toNat, by omega⟩
      have hmw := makeIntS t (by omega) w1
      obtain ⟨W, hW⟩ : ∃ W, W = w1.alloc (.cells (madeCells #[.int .i64 0] t) 3) := ⟨_, rfl⟩
      have HM0 : Hid (MkAt W w1.heap.size (List.replicate t 0)) := by rw [hW]; exact MkAt.start _ _ _
      have BW : Below w1.heap.size w1 W := by rw [hW]; exact below_a1 _ _
      have zW : w1.heap.size < W.heap.size := by rw [hW]; simp
      have Y0 := cell_later BW X0
      have Y1 := cell_later BW X1
      have HBW : Hid (Below w.heap.size w W) := HB1.out.trans (BW.mono HB1.out.size)
      rw [← hW] at hmw
      obtain ⟨g, hg⟩ : ∃ g, g = w1.heap.size := ⟨_, rfl⟩
      rw [← hg] at hmw HM0 zW
      have hgw : w.heap.size < g := by omega
      clear hW BW hg
      go_wp2_with fail
      go_loopw [24] (fun iv wr => ∃ (k : Nat) (M : List Int), k ≤ n1 ∧ iv = .int .i64 k ∧ M.length = t ∧ Hid (markL es M (ws.drop k) = G) ∧ Hid (MkAt wr g M) ∧ BndM M (2 ^ 20 * k) ∧ KeptO (fun q => q = g) W wr) (fun iv _ => n1 - (intOf iv).toNat)
      case atStart => exact ⟨0, List.replicate t 0, Nat.zero_le _, rfl, by simp, HF1, HM0, (BndM.zero t).mono (by omega), KeptO.refl _ _⟩
      case round =>
        obtain ⟨k, M, hk, rfl, hMt, HI, HM, hbn, hkp⟩ := hrel
        have hkb : Below w.heap.size w wr := HBW.out.trans (hkp.below (by omega) (fun q hq e => by omega))
        have Z0 := cell_keptO hkp Y0 (by omega)
        have Z1 := cell_keptO hkp Y1 (by omega)
        have zr := hkp.size
        by_cases hlt : k < n1
        · obtain ⟨s, hs⟩ : ∃ s, ws[k]? = some s := ⟨_, List.getElem?_eq_getElem (by rw [← HN1.out]; exact hlt)⟩
          obtain ⟨b, off, B, C, rfl, hb, _, hi, _, hc⟩ := row_at (Kd.below HW.out hkb) hs
          obtain ⟨rfl, _⟩ := hi
          have A0 : wr.cell? ⟨b, off + k, none⟩ = some (.string s) := by have := (hc 0 _ rfl).1; simpa [kInt, kStr, kBool] using this
          have i0 : (0 : Int) ≤ (k : Int) := by omega
          have i1 : (k : Int) < (n1 : Int) := by omega
          have HI1 : Hid ((if isWordB s = true then markL es (addL M (findL s es)) (ws.drop (k + 1)) else none) = G) := by have := HI.out; rw [mark_drop hs] at this; exact this
          have HS : Hid (s.size ≤ 2 ^ 20) := Nat.le_trans (sz_str hs) HZ1.out
          have HKP : Hid (KeptO (fun q => q = g) W wr) := hkp
          have HBR : Hid (Below w.heap.size w wr) := hkb
          have HBN : Hid (BndM M (2 ^ 20 * k)) := hbn
          clear HI hc hs hkp hkb hbn
          go_wp2_with fail
          refine (l10Word_k s _ HS.out).mono ?_
          rintro e w2 ⟨rfl, hb2⟩
          have V0 := cell_later hb2 Z0
          have V1 := cell_later hb2 Z1
          have HM2 : Hid (MkAt w2 g M) := HM.out.below hb2
          have HB2 : Hid (Below w.heap.size w w2) := HBR.out.trans (hb2.mono HBR.out.size)
          have HKP2 : Hid (KeptO (fun q => q = g) W w2) := HKP.out.trans (KeptO.of hb2)
          have z2 : wr.heap.size ≤ w2.heap.size := hb2.size
          clear hb2 HM HKP HBR Z0 Z1
          cases hw : isWordB s with
          | false =>
            have HNO : Hid (G = none) := by have := HI1.out; rw [hw] at this; exact this.symm
            clear hw HI1
            go_wp2
            refine bodyPost_ret (v := .tuple #[.slice none 0 0, .bool false]) (by simp [results, Try.results51, go_sem]) rfl ?_
            exact .inl ⟨by rw [← HG.out, HNO.out], rfl, HB2.out⟩
          | true =>
            have HI2 : Hid (markL es (addL M (findL s es)) (ws.drop (k + 1)) = G) := by have := HI1.out; rw [hw] at this; exact this
            clear hw HI1
            go_wp2_with fail
            refine (l10Postings_k t es s a es.length c T _ (Kd.below HRW.out HB2.out) HZ.out HFU.out).mono ?_
            rintro e w3 ⟨la, ln, lc, rfl, hl3, hb3⟩
            obtain ⟨l, hl⟩ : ∃ l, l = findL s es := ⟨_, rfl⟩
            have hll : l.length ≤ 2 ^ 20 := by have := findL_len s es; have h3 : (kRow kEntry).sz es = es.length + sums kEntry.sz es := rfl; have := HZ.out; rw [hl]; omega
            have HIT : Hid (InT (t : Int) l) := by rw [hl]; exact HIN.out s
            rw [← hl] at hl3 HI2
            have hln : ln = l.length := row_len hl3
            have HL3 : Hid ((kRow kPosting).is false w3 (fun q => w2.heap.size ≤ q) [.slice la ln lc] l) := Kd.read _ hl3
            have HLN : Hid (ln = l.length) := hln
            have U0 := cell_later hb3 V0
            have U1 := cell_later hb3 V1
            have HM3 : Hid (MkAt w3 g M) := HM2.out.below hb3
            have HKP3 : Hid (KeptO (fun q => q = g) W w3) := HKP2.out.trans (KeptO.of hb3)
            have z3 : w2.heap.size ≤ w3.heap.size := hb3.size
            have hln20 : ln ≤ 2 ^ 20 := by omega
            clear hl hl3 hln hb3 HM2 HKP2 V0 V1
            go_wp2_with fail
            go_loopw [35] (fun iv wq => ∃ (j : Nat) (N : List Int), j ≤ ln ∧ iv = .int .i64 j ∧ N.length = t ∧ Hid (addL N (l.drop j) = addL M l) ∧ Hid (MkAt wq g N) ∧ BndM N (2 ^ 20 * k + j) ∧ KeptO (fun q => q = g) w3 wq) (fun iv _ => ln - (intOf iv).toNat)
            case atStart => exact ⟨0, M, Nat.zero_le _, rfl, hMt, rfl, HM3, HBN.out.mono (by omega), KeptO.refl _ _⟩
            case round =>
              obtain ⟨j, N, hj, rfl, hNt, HJ, HN, hbj, hkj⟩ := hrel
              have zq := hkj.size
              by_cases hjl : j < ln
              · obtain ⟨⟨p0, p1⟩, hp⟩ : ∃ p, l[j]? = some p := ⟨_, List.getElem?_eq_getElem (by rw [← HLN.out]; exact hjl)⟩
                obtain ⟨q0, q1⟩ := HIT.out _ (List.mem_of_getElem? hp)
                simp only at q0 q1
                obtain ⟨p, rfl⟩ : ∃ p : Nat, p0 = p := ⟨p0.toNat, by omega⟩
                have hrow := Kd.kept HL3.out hkj (fun q hq h2 h3 => by have h4 : w2.heap.size ≤ q := h2; have h5 : q = g := h3; omega)
                obtain ⟨b', off', B', C', rfl, hb', _, hi', _, hc'⟩ := row_at hrow hp
                obtain ⟨rfl, _, _⟩ := kPosting_open hi'
                have D0 : wr.cell? ⟨b', off' + j * 2, none⟩ = some (.int .i64 p) := (hc' 0 _ rfl).1
                have D1 : wr.cell? ⟨b', off' + j * 2 + 1, none⟩ = some (.int .i64 p1) := (hc' 1 _ rfl).1
                obtain ⟨y, hy⟩ : ∃ y, N[p]? = some y := ⟨_, List.getElem?_eq_getElem (by omega)⟩
                obtain ⟨y0, y1⟩ := hbj.at hy
                have E0 := (HN.out.2 p y hy).1
                have E1 := (HN.out.2 p y hy).2
                have hb1 : Below wr.heap.size wr (wr.alloc (.cells #[.int .i64 p, .int .i64 p1] 43)) := below_a1 _ _
                have HMX : Hid (MkAt ((wr.setCell ⟨g, p, none⟩ (.int .i64 (y + 1))).alloc (.cells #[.int .i64 p, .int .i64 p1] 43)) g (N.modify p (· + 1))) := (HN.out.put hy).below (below_a1 _ _)
                have HKX : Hid (KeptO (fun q => q = g) w3 ((wr.setCell ⟨g, p, none⟩ (.int .i64 (y + 1))).alloc (.cells #[.int .i64 p, .int .i64 p1] 43))) := (hkj.trans (kept_set _ _ _ _)).trans (KeptO.of (below_a1 _ _))
                have HJX : Hid (addL (N.modify p (· + 1)) (l.drop (j + 1)) = addL M l) := by have := HJ.out; rw [addL_drop hp] at this; exact this
                have HBX : Hid (BndM (N.modify p (· + 1)) (2 ^ 20 * k + j + 1)) := hbj.step p
                have F0 := cell_later hb1 E0
                have F1 : (wr.alloc (.cells #[.int .i64 p, .int .i64 p1] 43)).frozen? ⟨g, p, none⟩ = false := frozen_later hb1 E0 E1
                have j0 : (0 : Int) ≤ (j : Int) := by omega
                have j1 : (j : Int) < (ln : Int) := by omega
                have p0' : (0 : Int) ≤ (p : Int) := by omega
                have hgr : g < wr.heap.size := HN.out.1
                clear hrow hi' hc' hp hy hb1 HJ HN hbj hkj
                go_wp2
                go_roundw
                case rel => exact ⟨j + 1, N.modify p (· + 1), by omega, by rfl, by simpa using hNt, HJX, HMX, HBX.out.mono (by omega), HKX.out⟩
                case measure => simp only [intOf]; omega
              · have HE : Hid (N = addL M l) := by have := HJ.out; rw [List.drop_eq_nil_of_le (by rw [← HLN.out]; omega)] at this; exact this
                have HKO : Hid (KeptO (fun q => q = g) W wr) := HKP3.out.trans hkj
                have hjn : j = ln := by omega
                have HBO : Hid (BndM N (2 ^ 20 * (k + 1 : Nat))) := hbj.mono (by omega)
                have HIO : Hid (markL es N (ws.drop (k + 1)) = G) := by rw [HE.out]; exact HI2.out
                have j1 : ¬ (j : Int) < (ln : Int) := by omega
                clear HJ hbj hkj HE
                go_wp2
                go_roundw
                case rel => exact ⟨k + 1, N, by omega, by rfl, hNt, HIO, HN, HBO.out, HKO.out⟩
                case measure => simp only [intOf]; omega
        · have HE : Hid (G = some M) := by have := HI.out; rw [List.drop_eq_nil_of_le (by rw [← HN1.out]; omega)] at this; exact this.symm
          have i1 : ¬ (k : Int) < (n1 : Int) := by omega
          have HBO : Hid (BndM M (2 ^ 30)) := hbn.mono (by omega)
          have HBR : Hid (Below w.heap.size w wr) := hkb
          clear HI hkb hbn hkp
          go_wp2
          refine bodyPost_ret (v := .tuple #[.slice (some ⟨g, 0, none⟩) t t, .bool true]) (by simp [results, Try.results51, go_sem]) rfl ?_
          exact .inr ⟨g, M, by rw [← HG.out, HE.out], by rw [hMt], by omega, HM.out, HBO.out, by omega, HBR.out⟩
end Go.Proofs.Ytikgcgfigcolmaa
namespace Go.Proofs.Ytikgcgfigcolmaa
open Go.RowKit
set_option linter.unusedVariables false

/-- The places at which f holds. -/
def pickL (f : Int → Bool) : Nat → List Int → List Int
  | _, [] => []
  | k, n :: r => if f n = true then (k : Int) :: pickL f (k + 1) r else pickL f (k + 1) r
theorem pick_drop (f : Int → Bool) {M : List Int} {k : Nat} {n : Int} (h : M[k]? = some n) : pickL f k (M.drop k) = if f n = true then (k : Int) :: pickL f (k + 1) (M.drop (k + 1)) else pickL f (k + 1) (M.drop (k + 1)) := by
  have hk := (List.getElem?_eq_some_iff.1 h)
  rw [List.drop_eq_getElem_cons hk.1, hk.2, pickL]
theorem pick_len (f : Int → Bool) : ∀ (M : List Int) (k : Nat), (pickL f k M).length ≤ M.length
  | [], k => Nat.le_refl _
  | n :: r, k => by
    have := pick_len f r (k + 1)
    rw [pickL]
    split <;> simp <;> omega
theorem pick_bnd (f : Int → Bool) : ∀ (M : List Int) (k : Nat), ∀ x ∈ pickL f k M, 0 ≤ x ∧ x < k + M.length
  | [], k => fun x hx => by simp [pickL] at hx
  | n :: r, k => by
    have ih := pick_bnd f r (k + 1)
    rw [pickL]
    intro x hx
    split at hx
    · rcases List.mem_cons.1 hx with rfl | hx
      · simp; omega
      · have := ih x hx; simp; omega
    · have := ih x hx; simp; omega
/-- The texts that are meant. -/
def fWith (f : Int → Bool) (x : DWords) (ws : List ByteArray) : List Int × Bool := match fMarks x ws with | none => ([], false) | some M => (pickL f 0 M, true)
def RWith (f : Int → Bool) (x0 : DWords) (x1 : List ByteArray) (w : World) (e : Ending) (w' : World) : Prop := ∃ (a0 : Option Addr) (n0 c0 : Nat) (T0 : Nat → Prop), e = .returned (.tuple #[.slice a0 n0 c0, .bool (fWith f x0 x1).2]) ∧ (kRow kInt).is true w' T0 [.slice a0 n0 c0] (fWith f x0 x1).1 ∧ (∀ k, T0 k → w.heap.size ≤ k) ∧ sums kInt.cnt (fWith f x0 x1).1 ≤ 2 ^ 26 ∧ Below w.heap.size w w'
theorem RWith.no {f : Int → Bool} {x : DWords} {ws : List ByteArray} {w w' : World} (h : fMarks x ws = none) (hb : Below w.heap.size w w') : RWith f x ws w (.returned (.tuple #[.slice none 0 0, .bool false])) w' := by
  unfold RWith fWith
  rw [h]
  exact ⟨none, 0, 0, fun _ => False, rfl, row_nil _ _ _ _ _ _, fun k hk => hk.elim, by simp [sums], hb⟩
theorem cnt_ints (l : List Int) : sums kInt.cnt l = l.length := by
  have := sums_const 1 l
  simpa [kInt] using this
theorem RWith.yes {f : Int → Bool} {x : DWords} {ws : List ByteArray} {w w' : World} {M L : List Int} {B : Nat} {a : Option Addr} {n c : Nat} (h : fMarks x ws = some M) (hm : M.length ≤ 40) (hL : L = pickL f 0 M) (hB : w.heap.size ≤ B) (ho : OwnL (fun y => [.int .i64 y]) 3 1 w' B (.slice a n c) L) (hb : Below w.heap.size w w') : RWith f x ws w (.returned (.tuple #[.slice a n c, .bool true])) w' := by
  unfold RWith fWith
  rw [h]
  subst hL
  have h1 := pick_len f M 0
  have h2 := pick_bnd f M 0
  refine ⟨a, n, c, fun k => B ≤ k, rfl, own_kRow (K := kInt) (fun _ => rfl) ho (by show (pickL f 0 M).length ≤ maxLen; unfold maxLen; omega) (fun x hx _ _ => ⟨rfl, by have := h2 x hx; unfold IntOk; omega⟩), fun k hk => Nat.le_trans hB hk, ?_, hb⟩
  rw [cnt_ints]
  show (pickL f 0 M).length ≤ _
  omega
theorem MkAt.belowB {w w' : World} {g B : Nat} {M : List Int} (h : MkAt w g M) (hg : g < B) (hb : Below B w w') : MkAt w' g M :=
  ⟨Nat.lt_of_lt_of_le h.1 hb.size, fun i x hx => by
    rw [World.cell?_of_block (w := w) (hb.block g hg), World.frozen?_of_block (w := w) (hb.block g hg)]
    exact h.2 i x hx⟩
end Go.Proofs.Ytikgcgfigcolmaa
namespace Go.Proofs.Ytikgcgfigcolmaa
open Go.RowKit
set_option linter.unusedVariables false

set_option maxHeartbeats 1000000 in
theorem cAll_k (y : Int) (n1 m : Nat) (a1 : Option Addr) (c1 pb : Nat) (w : World) (hn : n1 = m) (hc : w.cell? ⟨pb, 0, none⟩ = some (.slice a1 n1 c1)) : Calls Try.prog 48 #[.int .i64 y, .pointer (some ⟨pb, 0, none⟩)] w fun e w' => e = .returned (.bool ((fun n => decide (n = (m : Int))) y)) ∧ Below w.heap.size w w' := by
  subst hn
  by_cases h : y = (n1 : Int)
  · have HF : Hid (decide (y = (n1 : Int)) = true) := decide_eq_true h
    have h' : (y == (n1 : Int)) = true := by simpa using h
    clear h
    go_enter Try.func48, Try.ntmps48
    go_wp2
    go_ret
    exact ⟨by rw [HF.out]; rfl, Below.refl _ _⟩
  · have HF : Hid (decide (y = (n1 : Int)) = false) := decide_eq_false h
    have h' : (y == (n1 : Int)) = false := by simpa using h
    clear h
    go_enter Try.func48, Try.ntmps48
    go_wp2
    go_ret
    exact ⟨by rw [HF.out]; rfl, Below.refl _ _⟩
set_option maxHeartbeats 1000000 in
theorem cAny_k (y : Int) (w : World) : Calls Try.prog 49 #[.int .i64 y] w fun e w' => e = .returned (.bool ((fun n => decide ((0 : Int) < n)) y)) ∧ Below w.heap.size w w' := by
  by_cases h : (0 : Int) < y
  · have HF : Hid (decide ((0 : Int) < y) = true) := decide_eq_true h
    go_enter Try.func49, Try.ntmps49
    go_wp2
    go_ret
    exact ⟨by rw [HF.out]; rfl, Below.refl _ _⟩
  · have HF : Hid (decide ((0 : Int) < y) = false) := decide_eq_false h
    go_enter Try.func49, Try.ntmps49
    go_wp2
    go_ret
    exact ⟨by rw [HF.out]; rfl, Below.refl _ _⟩
set_option maxHeartbeats 1000000 in
theorem cNone_k (y : Int) (w : World) : Calls Try.prog 50 #[.int .i64 y] w fun e w' => e = .returned (.bool ((fun n => decide (n = 0)) y)) ∧ Below w.heap.size w w' := by
  by_cases h : y = 0
  · subst h
    go_enter Try.func50, Try.ntmps50
    go_wp2
    go_ret
    exact ⟨rfl, Below.refl _ _⟩
  · have HF : Hid (decide (y = 0) = false) := decide_eq_false h
    have h' : (y == 0) = false := by simpa using h
    clear h
    go_enter Try.func50, Try.ntmps50
    go_wp2
    go_ret
    exact ⟨by rw [HF.out]; rfl, Below.refl _ _⟩

set_option maxRecDepth 100000 in
set_option maxHeartbeats 4000000 in
theorem textsByHits_all (x0 : DWords) (C0 : List Value) (S0 S1 : Nat → Prop) (ws : List ByteArray) (a1 : Option Addr) (n1 c1 : Nat) (pb : Nat) (w : World) (h0 : kWords.is false w S0 C0 x0) (z0 : kWords.sz x0 ≤ 2 ^ 20) (h1 : (kRow kStr).is false w S1 [.slice a1 n1 c1] ws) (z1 : (kRow kStr).sz ws ≤ 2 ^ 20) (hpb : w.cell? ⟨pb, 0, none⟩ = some (.slice a1 n1 c1)) :
    Calls Try.prog 47 #[.agg C0.toArray, .slice a1 n1 c1, .func (.func 48) #[] #[.pointer (some ⟨pb, 0, none⟩)]] w (RWith (fun n => decide (n = (ws.length : Int))) x0 ws w) := by
  obtain ⟨tx, es⟩ := x0
  have HK : Hid (kWords.is false w S0 C0 (tx, es)) := h0
  obtain ⟨a, c, T, rfl, g0, hmx, hr, _⟩ := kWords_open h0
  have HZ0 : Hid (kWords.sz (tx, es) ≤ 2 ^ 20) := z0
  have HZ : Hid ((kRow kEntry).sz es ≤ 2 ^ 20) := by have : kWords.sz (tx, es) = 0 + (kRow kEntry).sz es := rfl; show _ ≤ _; omega
  have HZ1 : Hid ((kRow kStr).sz ws ≤ 2 ^ 20) := z1
  have HRW : Hid ((kRow kEntry).is false w (fun k => k < w.heap.size) [.slice a es.length c] es) := Kd.tight _ hr (fun k hk _ => hk)
  have HW : Hid ((kRow kStr).is false w S1 [.slice a1 n1 c1] ws) := h1
  have hn1 : n1 = ws.length := row_len h1
  have HN1 : Hid (n1 = ws.length) := hn1
  have hn20 : n1 ≤ 2 ^ 20 := by have h3 : (kRow kStr).sz ws = ws.length + sums kStr.sz ws := rfl; omega
  obtain ⟨G, hG⟩ : ∃ G, G = fMarks (tx, es) ws := ⟨_, rfl⟩
  have HF : Hid (G = if (fGoodWords (tx, es) && decide (ws.length ≤ 20)) = true then markL es (List.replicate tx.toNat 0) ws else none) := hG
  have HG : Hid (G = fMarks (tx, es) ws) := hG
  have HPB : Hid (w.cell? ⟨pb, 0, none⟩ = some (.slice a1 n1 c1)) := hpb
  clear h0 z0 hr h1 z1 hn1 hG hpb
  show Calls Try.prog 47 #[.agg #[.int .i64 tx, .slice a es.length c], .slice a1 n1 c1, .func (.func 48) #[] #[.pointer (some ⟨pb, 0, none⟩)]] w _
  go_enter Try.func47, Try.ntmps47
  go_wp2_with fail
  refine (implGoodWords_k (tx, es) [.int .i64 tx, .slice a es.length c] S0 _ (Kd.below HK.out (below_a1 _ _)) HZ0.out).mono ?_
  rintro e w1 ⟨rfl, hb1⟩
  have X0 : w1.cell? ⟨w.heap.size, 0, none⟩ = some (.int .i64 tx) := by rw [hb1.cell (by simp)]; simp [go_sem]
  have X1 : w1.cell? ⟨w.heap.size, 1, none⟩ = some (.slice a es.length c) := by rw [hb1.cell (by simp)]; simp [go_sem]
  have HB1 : Hid (Below w.heap.size w w1) := (below_a1 _ _).trans (hb1.mono (by simp))
  have zw1 : w.heap.size < w1.heap.size := by have := hb1.size; simp at this; omega
  clear hb1
  cases hg : fGoodWords (tx, es) with
  | false =>
    have HNO : Hid (G = none) := by have := HF.out; rw [hg] at this; exact this
    clear hg
    go_wp2
    refine bodyPost_ret (v := .tuple #[.slice none 0 0, .bool false]) (by simp [results, Try.results47, go_sem]) rfl ?_
    exact RWith.no (by rw [← HG.out, HNO.out]) HB1.out
  | true =>
    obtain ⟨t0, t40⟩ := good_texts hg
    have HRI : Hid (Rises es) := good_rises hg
    have HIN : Hid (∀ s, InT tx (findL s es)) := good_in hg
    by_cases h20 : (20 : Int) < (n1 : Int)
    · have HNO : Hid (G = none) := by have := HF.out; rw [hg, decide_eq_false (by rw [← HN1.out]; omega)] at this; exact this
      clear hg
      go_wp2
      refine bodyPost_ret (v := .tuple #[.slice none 0 0, .bool false]) (by simp [results, Try.results47, go_sem]) rfl ?_
      exact RWith.no (by rw [← HG.out, HNO.out]) HB1.out
    · have HF1 : Hid (markL es (List.replicate tx.toNat 0) ws = G) := by have := HF.out; rw [hg, decide_eq_true (by rw [← HN1.out]; omega)] at this; exact this.symm
      clear hg HF
      obtain ⟨t, rfl⟩ : ∃ t : Nat, tx = t := ⟨tx.toNat, by omega⟩
      have hmw := makeIntS t (by omega) w1
      obtain ⟨W, hW⟩ : ∃ W, W = w1.alloc (.cells (madeCells #[.int .i64 0] t) 3) := ⟨_, rfl⟩
      have HM0 : Hid (MkAt W w1.heap.size (List.replicate t 0)) := by rw [hW]; exact MkAt.start _ _ _
      have BW : Below w1.heap.size w1 W := by rw [hW]; exact below_a1 _ _
      have zW : w1.heap.size < W.heap.size := by rw [hW]; simp
      have Y0 := cell_later BW X0
      have Y1 := cell_later BW X1
      have HBW : Hid (Below w.heap.size w W) := HB1.out.trans (BW.mono HB1.out.size)
      rw [← hW] at hmw
      obtain ⟨g, hg⟩ : ∃ g, g = w1.heap.size := ⟨_, rfl⟩
      rw [← hg] at hmw HM0 zW
      have hgw : w.heap.size < g := by omega
      clear hW BW hg
      go_wp2_with fail
      go_loopw [29] (fun iv wr => ∃ (k : Nat) (M : List Int), k ≤ n1 ∧ iv = .int .i64 k ∧ M.length = t ∧ Hid (markL es M (ws.drop k) = G) ∧ Hid (MkAt wr g M) ∧ BndM M (2 ^ 20 * k) ∧ KeptO (fun q => q = g) W wr) (fun iv _ => n1 - (intOf iv).toNat)
      case atStart => exact ⟨0, List.replicate t 0, Nat.zero_le _, rfl, by simp, HF1, HM0, (BndM.zero t).mono (by omega), KeptO.refl _ _⟩
      case round =>
        obtain ⟨k, M, hk, rfl, hMt, HI, HM, hbn, hkp⟩ := hrel
        have hkb : Below w.heap.size w wr := HBW.out.trans (hkp.below (by omega) (fun q hq e => by omega))
        have Z0 := cell_keptO hkp Y0 (by omega)
        have Z1 := cell_keptO hkp Y1 (by omega)
        have zr := hkp.size
        by_cases hlt : k < n1
        · obtain ⟨s, hs⟩ : ∃ s, ws[k]? = some s := ⟨_, List.getElem?_eq_getElem (by rw [← HN1.out]; exact hlt)⟩
          obtain ⟨b, off, B, C, rfl, hb, _, hi, _, hc⟩ := row_at (Kd.below HW.out hkb) hs
          obtain ⟨rfl, _⟩ := hi
          have A0 : wr.cell? ⟨b, off + k, none⟩ = some (.string s) := by have := (hc 0 _ rfl).1; simpa [kInt, kStr, kBool] using this
          have i0 : (0 : Int) ≤ (k : Int) := by omega
          have i1 : (k : Int) < (n1 : Int) := by omega
          have HI1 : Hid ((if isWordB s = true then markL es (addL M (findL s es)) (ws.drop (k + 1)) else none) = G) := by have := HI.out; rw [mark_drop hs] at this; exact this
          have HS : Hid (s.size ≤ 2 ^ 20) := Nat.le_trans (sz_str hs) HZ1.out
          have HKP : Hid (KeptO (fun q => q = g) W wr) := hkp
          have HBR : Hid (Below w.heap.size w wr) := hkb
          have HBN : Hid (BndM M (2 ^ 20 * k)) := hbn
          clear HI hc hs hkp hkb hbn
          go_wp2_with fail
          refine (isWord_k s _ HS.out).mono ?_
          rintro e w2 ⟨rfl, hb2⟩
          have V0 := cell_later hb2 Z0
          have V1 := cell_later hb2 Z1
          have HM2 : Hid (MkAt w2 g M) := HM.out.below hb2
          have HB2 : Hid (Below w.heap.size w w2) := HBR.out.trans (hb2.mono HBR.out.size)
          have HKP2 : Hid (KeptO (fun q => q = g) W w2) := HKP.out.trans (KeptO.of hb2)
          have z2 : wr.heap.size ≤ w2.heap.size := hb2.size
          clear hb2 HM HKP HBR Z0 Z1
          cases hw : isWordB s with
          | false =>
            have HNO : Hid (G = none) := by have := HI1.out; rw [hw] at this; exact this.symm
            clear hw HI1
            go_wp2
            refine bodyPost_ret (v := .tuple #[.slice none 0 0, .bool false]) (by simp [results, Try.results47, go_sem]) rfl ?_
            exact RWith.no (by rw [← HG.out, HNO.out]) HB2.out
          | true =>
            have HI2 : Hid (markL es (addL M (findL s es)) (ws.drop (k + 1)) = G) := by have := HI1.out; rw [hw] at this; exact this
            clear hw HI1
            go_wp2_with fail
            refine (listOf_k t es s a es.length c (fun k => k < w.heap.size) _ (Kd.below HRW.out HB2.out) HRI.out (by have := HZ.out; have h3 : (kRow kEntry).sz es = es.length + sums kEntry.sz es := rfl; omega)).mono ?_
            rintro e w3 ⟨la, ln, lc, TL, rfl, hl3, hTL, hb3⟩
            have hTL2 : ∀ k, TL k → k < w.heap.size := hTL
            clear hTL
            obtain ⟨l, hl⟩ : ∃ l, l = findL s es := ⟨_, rfl⟩
            have hll : l.length ≤ 2 ^ 20 := by have := findL_len s es; have h3 : (kRow kEntry).sz es = es.length + sums kEntry.sz es := rfl; have := HZ.out; rw [hl]; omega
            have HIT : Hid (InT (t : Int) l) := by rw [hl]; exact HIN.out s
            rw [← hl] at hl3 HI2
            have hln : ln = l.length := row_len hl3
            have HL3 : Hid ((kRow kPosting).is false w3 (fun k => k < w.heap.size) [.slice la ln lc] l) := Kd.mono hl3 hTL2
            have HLN : Hid (ln = l.length) := hln
            have U0 := cell_later hb3 V0
            have U1 := cell_later hb3 V1
            have HM3 : Hid (MkAt w3 g M) := HM2.out.below hb3
            have HKP3 : Hid (KeptO (fun q => q = g) W w3) := HKP2.out.trans (KeptO.of hb3)
            have z3 : w2.heap.size ≤ w3.heap.size := hb3.size
            have hln20 : ln ≤ 2 ^ 20 := by omega
            clear hl hl3 hln hb3 HM2 HKP2 V0 V1 hTL2
            go_wp2_with fail
            go_loopw [40] (fun iv wq => ∃ (j : Nat) (N : List Int), j ≤ ln ∧ iv = .int .i64 j ∧ N.length = t ∧ Hid (addL N (l.drop j) = addL M l) ∧ Hid (MkAt wq g N) ∧ BndM N (2 ^ 20 * k + j) ∧ KeptO (fun q => q = g) w3 wq) (fun iv _ => ln - (intOf iv).toNat)
            case atStart => exact ⟨0, M, Nat.zero_le _, rfl, hMt, rfl, HM3, HBN.out.mono (by omega), KeptO.refl _ _⟩
            case round =>
              obtain ⟨j, N, hj, rfl, hNt, HJ, HN, hbj, hkj⟩ := hrel
              have zq := hkj.size
              by_cases hjl : j < ln
              · obtain ⟨⟨p0, p1⟩, hp⟩ : ∃ p, l[j]? = some p := ⟨_, List.getElem?_eq_getElem (by rw [← HLN.out]; exact hjl)⟩
                obtain ⟨q0, q1⟩ := HIT.out _ (List.mem_of_getElem? hp)
                simp only at q0 q1
                obtain ⟨p, rfl⟩ : ∃ p : Nat, p0 = p := ⟨p0.toNat, by omega⟩
                have hrow := Kd.kept HL3.out hkj (fun q hq h2 h3 => by have h4 : q < w.heap.size := h2; have h5 : q = g := h3; omega)
                obtain ⟨b', off', B', C', rfl, hb', _, hi', _, hc'⟩ := row_at hrow hp
                obtain ⟨rfl, _, _⟩ := kPosting_open hi'
                have D0 : wr.cell? ⟨b', off' + j * 2, none⟩ = some (.int .i64 p) := (hc' 0 _ rfl).1
                have D1 : wr.cell? ⟨b', off' + j * 2 + 1, none⟩ = some (.int .i64 p1) := (hc' 1 _ rfl).1
                obtain ⟨y, hy⟩ : ∃ y, N[p]? = some y := ⟨_, List.getElem?_eq_getElem (by omega)⟩
                obtain ⟨y0, y1⟩ := hbj.at hy
                have E0 := (HN.out.2 p y hy).1
                have E1 := (HN.out.2 p y hy).2
                have hb1 : Below wr.heap.size wr (wr.alloc (.cells #[.int .i64 p, .int .i64 p1] 43)) := below_a1 _ _
                have HMX : Hid (MkAt ((wr.setCell ⟨g, p, none⟩ (.int .i64 (y + 1))).alloc (.cells #[.int .i64 p, .int .i64 p1] 43)) g (N.modify p (· + 1))) := (HN.out.put hy).below (below_a1 _ _)
                have HKX : Hid (KeptO (fun q => q = g) w3 ((wr.setCell ⟨g, p, none⟩ (.int .i64 (y + 1))).alloc (.cells #[.int .i64 p, .int .i64 p1] 43))) := (hkj.trans (kept_set _ _ _ _)).trans (KeptO.of (below_a1 _ _))
                have HJX : Hid (addL (N.modify p (· + 1)) (l.drop (j + 1)) = addL M l) := by have := HJ.out; rw [addL_drop hp] at this; exact this
                have HBX : Hid (BndM (N.modify p (· + 1)) (2 ^ 20 * k + j + 1)) := hbj.step p
                have F0 := cell_later hb1 E0
                have F1 : (wr.alloc (.cells #[.int .i64 p, .int .i64 p1] 43)).frozen? ⟨g, p, none⟩ = false := frozen_later hb1 E0 E1
                have j0 : (0 : Int) ≤ (j : Int) := by omega
                have j1 : (j : Int) < (ln : Int) := by omega
                have p0' : (0 : Int) ≤ (p : Int) := by omega
                have hgr : g < wr.heap.size := HN.out.1
                clear hrow hi' hc' hp hy hb1 HJ HN hbj hkj
                go_wp2
                go_roundw
                case rel => exact ⟨j + 1, N.modify p (· + 1), by omega, by rfl, by simpa using hNt, HJX, HMX, HBX.out.mono (by omega), HKX.out⟩
                case measure => simp only [intOf]; omega
              · have HE : Hid (N = addL M l) := by have := HJ.out; rw [List.drop_eq_nil_of_le (by rw [← HLN.out]; omega)] at this; exact this
                have HKO : Hid (KeptO (fun q => q = g) W wr) := HKP3.out.trans hkj
                have hjn : j = ln := by omega
                have HBO : Hid (BndM N (2 ^ 20 * (k + 1 : Nat))) := hbj.mono (by omega)
                have HIO : Hid (markL es N (ws.drop (k + 1)) = G) := by rw [HE.out]; exact HI2.out
                have j1 : ¬ (j : Int) < (ln : Int) := by omega
                clear HJ hbj hkj HE
                go_wp2
                go_roundw
                case rel => exact ⟨k + 1, N, by omega, by rfl, hNt, HIO, HN, HBO.out, HKO.out⟩
                case measure => simp only [intOf]; omega
        · have HE : Hid (G = some M) := by have := HI.out; rw [List.drop_eq_nil_of_le (by rw [← HN1.out]; omega)] at this; exact this.symm
          have i1 : ¬ (k : Int) < (n1 : Int) := by omega
          have HBO : Hid (BndM M (2 ^ 30)) := hbn.mono (by omega)
          have HBR : Hid (Below w.heap.size w wr) := hkb
          have hgr : g < wr.heap.size := HM.out.1
          clear HI hkb hbn hkp Z0 Z1 Y0 Y1 X0 X1
          obtain ⟨Wz, hWz⟩ : ∃ Wz, Wz = wr := ⟨_, rfl⟩
          rw [← hWz] at HM HBR hgr
          have HWZ : Hid (Wz = wr) := hWz
          have zwz : w.heap.size ≤ Wz.heap.size := HBR.out.size
          clear hWz
          obtain ⟨GL, hGL⟩ : ∃ GL, GL = pickL (fun n => decide (n = (ws.length : Int))) 0 M := ⟨_, rfl⟩
          have HGL : Hid (GL = pickL (fun n => decide (n = (ws.length : Int))) 0 M) := hGL
          clear hGL
          go_wp2_with fail
          rw [← HWZ.out]
          clear HWZ
          go_loopw [13, 55] (fun ov kv wq => ∃ (p : Nat) (L : List Int), p ≤ t ∧ kv = .int .i64 p ∧ L.length ≤ p ∧ Hid (L ++ pickL (fun n => decide (n = (ws.length : Int))) p (M.drop p) = GL) ∧ Hid (OwnL (fun y => [.int .i64 y]) 3 1 wq Wz.heap.size ov L) ∧ Below Wz.heap.size Wz wq) (fun _ kv _ => t - (intOf kv).toNat)
          case atStart => exact ⟨0, [], Nat.zero_le _, rfl, Nat.le_refl _, by show _ = _; rw [HGL.out]; simp, OwnL.nil _ _ _ _ _, Below.refl _ _⟩
          case round =>
            obtain ⟨p, L, hp, rfl, hLp, HI, HO, hnx⟩ := hrel
            obtain ⟨oa, oc, hov, _⟩ := HO.out.form
            subst hov
            obtain ⟨ml, hml⟩ : ∃ ml, ml = L.length := ⟨_, rfl⟩
            have HML : Hid (ml = L.length) := hml
            rw [← hml] at HO hLp ⊢
            clear hml
            have zq := hnx.size
            by_cases hpt : p < t
            · obtain ⟨y, hy⟩ : ∃ y, M[p]? = some y := ⟨_, List.getElem?_eq_getElem (by omega)⟩
              obtain ⟨y0, y1⟩ := HBO.out.at hy
              have A0 : wr.cell? ⟨g, p, none⟩ = some (.int .i64 y) := ((HM.out.belowB hgr hnx).2 p y hy).1
              have HI1 : Hid (L ++ (if (fun n => decide (n = (ws.length : Int))) y = true then (p : Int) :: pickL (fun n => decide (n = (ws.length : Int))) (p + 1) (M.drop (p + 1)) else pickL (fun n => decide (n = (ws.length : Int))) (p + 1) (M.drop (p + 1))) = GL) := by have := HI.out; rw [pick_drop (fun n => decide (n = (ws.length : Int))) hy] at this; exact this
              have p0 : (0 : Int) ≤ (p : Int) := by omega
              have p1 : (p : Int) < (t : Int) := by omega
              have HBQ : Hid (Below Wz.heap.size Wz wr) := hnx
              clear hy HI hnx
              go_wp2_with fail
              refine (cAll_k y n1 ws.length a1 c1 pb _ HN1.out (cell_later (HBR.out.trans (HBQ.out.mono zwz)) HPB.out)).mono ?_
              rintro e w2 ⟨rfl, hb2⟩
              have HO2 : Hid (OwnL (fun y => [.int .i64 y]) 3 1 w2 Wz.heap.size (.slice oa ml oc) L) := OwnL.below HO.out hb2
              have HBQ2 : Hid (Below Wz.heap.size Wz w2) := HBQ.out.trans (hb2.mono zq)
              have zq2 : Wz.heap.size ≤ w2.heap.size := HBQ2.out.size
              clear hb2
              by_cases hf : (fun n => decide (n = (ws.length : Int))) y = true
              · have HI2 : Hid (L ++ (p : Int) :: pickL (fun n => decide (n = (ws.length : Int))) (p + 1) (M.drop (p + 1)) = GL) := by have := HI1.out; rw [if_pos hf] at this; exact this
                clear HI1
                rw [hf]
                clear hf
                go_wp2_with (at_builtin; refine app_int rfl _ _ rfl Wz.heap.size _ L rfl (OwnL.below HO2.out (below_a1 _ _)) _ (p : Int) rfl (cell_a1 _ _ _) (by rw [← HML.out]; omega) (by simp; omega) ?_)
                intro v3 w3 ho3 hb3 hz3
                have HO3 : Hid (OwnL (fun y => [.int .i64 y]) 3 1 w3 Wz.heap.size v3 (L ++ [(p : Int)])) := ho3
                have HB3 : Hid (Below Wz.heap.size Wz w3) := (HBQ2.out.alloc (by omega) _).trans hb3
                clear ho3 hb3 hz3
                go_wp2_with fail
                go_roundw
                case rel => exact ⟨p + 1, L ++ [(p : Int)], by omega, by go_num, by have := HML.out; simp; omega, by show _ = _; rw [← HI2.out]; simp, HO3, HB3.out⟩
                case measure => simp [intOf]; omega
              · have HI2 : Hid (L ++ pickL (fun n => decide (n = (ws.length : Int))) (p + 1) (M.drop (p + 1)) = GL) := by have := HI1.out; rw [if_neg hf] at this; exact this
                have hf2 : (fun n => decide (n = (ws.length : Int))) y = false := by simpa using hf
                clear HI1 hf
                rw [hf2]
                clear hf2
                go_wp2
                go_roundw
                case rel => exact ⟨p + 1, L, by omega, by go_num, by have := HML.out; omega, HI2, HO2, HBQ2.out⟩
                case measure => simp [intOf]; omega
            · have HE2 : Hid (L = GL) := by have := HI.out; rw [List.drop_eq_nil_of_le (by omega), pickL, List.append_nil] at this; exact this
              have p1 : ¬ (p : Int) < (t : Int) := by omega
              have HBF : Hid (Below w.heap.size w wr) := HBR.out.trans (hnx.mono zwz)
              clear HI hnx
              go_wp2
              refine bodyPost_ret (v := .tuple #[.slice oa ml oc, .bool true]) (by simp [results, Try.results47, go_sem]) rfl ?_
              exact RWith.yes (by rw [← HG.out, HE.out]) (by omega) (by rw [HE2.out, HGL.out]) zwz HO.out HBF.out


/-- WithAll. -/
def fWithAll (x : DWords) (ws : List ByteArray) : List Int × Bool := fWith (fun n => decide (n = (ws.length : Int))) x ws
/-- What WithAll answers. -/
def RWithAll (x0 : DWords) (x1 : List ByteArray) (w : World) (e : Ending) (w' : World) : Prop := ∃ (a0 : Option Addr) (n0 c0 : Nat) (T0 : Nat → Prop), e = .returned (.tuple #[.slice a0 n0 c0, .bool (fWithAll x0 x1).2]) ∧ (kRow kInt).is true w' T0 [.slice a0 n0 c0] (fWithAll x0 x1).1 ∧ (∀ k, T0 k → w.heap.size ≤ k) ∧ sums kInt.cnt (fWithAll x0 x1).1 ≤ 2 ^ 26 ∧ Below w.heap.size w w'
set_option maxRecDepth 100000 in
set_option maxHeartbeats 2000000 in
theorem implWithAll_k (x0 : DWords) (C0 : List Value) (S0 : Nat → Prop) (x1 : List ByteArray) (a1 : Option Addr) (n1 c1 : Nat) (S1 : Nat → Prop) (w : World) (h0 : kWords.is false w S0 C0 x0) (z0 : kWords.sz x0 ≤ 2 ^ 20) (h1 : (kRow kStr).is false w S1 [.slice a1 n1 c1] x1) (z1 : (kRow kStr).sz x1 ≤ 2 ^ 20) :
    Calls Try.prog 11 #[.agg C0.toArray, .slice a1 n1 c1] w (RWithAll x0 x1 w) := by
  obtain ⟨tx, es⟩ := x0
  have HK : Hid (kWords.is false w S0 C0 (tx, es)) := h0
  obtain ⟨a, c, T, rfl, g0, hmx, hr, _⟩ := kWords_open h0
  have HZ0 : Hid (kWords.sz (tx, es) ≤ 2 ^ 20) := z0
  have HZ1 : Hid ((kRow kStr).sz x1 ≤ 2 ^ 20) := z1
  have HW : Hid ((kRow kStr).is false w S1 [.slice a1 n1 c1] x1) := h1
  clear h0 z0 h1 z1 hr
  show Calls Try.prog 11 #[.agg #[.int .i64 tx, .slice a es.length c], .slice a1 n1 c1] w _
  go_enter Try.func11, Try.ntmps11
  go_wp2_with fail
  refine (textsByHits_all (tx, es) [.int .i64 tx, .slice a es.length c] S0 S1 x1 a1 n1 c1 (w.heap.size + 1) _ (Kd.below HK.out (below_a2 _ _ _)) HZ0.out (Kd.below HW.out (below_a2 _ _ _)) HZ1.out (cell_a2 _ _ _ _)).mono ?_
  rintro e w1 ⟨a0, n0, c0, T0, rfl, hr1, hT, hcnt, hb1⟩
  obtain ⟨q, hq⟩ : ∃ q, q = (fWith (fun n => decide (n = (x1.length : Int))) (tx, es) x1) := ⟨_, rfl⟩
  rw [← hq] at hr1 hcnt ⊢
  have HQ : Hid (q = (fWith (fun n => decide (n = (x1.length : Int))) (tx, es) x1)) := hq
  have HR : Hid ((kRow kInt).is true w1 T0 [.slice a0 n0 c0] q.1) := hr1
  have HC : Hid (sums kInt.cnt q.1 ≤ 2 ^ 26) := hcnt
  have HT : Hid (∀ k, T0 k → w.heap.size ≤ k) := fun k hk => by have := hT k hk; simp at this; omega
  have HB : Hid (Below w.heap.size w w1) := (below_a2 _ _ _).trans (hb1.mono (by simp <;> omega))
  obtain ⟨q1, q2⟩ := q
  clear hq hr1 hT hcnt hb1
  go_wp2
  refine bodyPost_ret (v := .tuple #[.slice a0 n0 c0, .bool q2]) (by simp [results, Try.results11, go_sem]) rfl ?_
  unfold RWithAll fWithAll
  rw [← HQ.out]
  exact ⟨a0, n0, c0, T0, rfl, HR.out, HT.out, HC.out, HB.out⟩
set_option maxRecDepth 100000 in
set_option maxHeartbeats 4000000 in
theorem textsByHits_any (x0 : DWords) (C0 : List Value) (S0 S1 : Nat → Prop) (ws : List ByteArray) (a1 : Option Addr) (n1 c1 : Nat) (w : World) (h0 : kWords.is false w S0 C0 x0) (z0 : kWords.sz x0 ≤ 2 ^ 20) (h1 : (kRow kStr).is false w S1 [.slice a1 n1 c1] ws) (z1 : (kRow kStr).sz ws ≤ 2 ^ 20) :
    Calls Try.prog 47 #[.agg C0.toArray, .slice a1 n1 c1, .func (.func 49) #[] #[]] w (RWith (fun n => decide ((0 : Int) < n)) x0 ws w) := by
  obtain ⟨tx, es⟩ := x0
  have HK : Hid (kWords.is false w S0 C0 (tx, es)) := h0
  obtain ⟨a, c, T, rfl, g0, hmx, hr, _⟩ := kWords_open h0
  have HZ0 : Hid (kWords.sz (tx, es) ≤ 2 ^ 20) := z0
  have HZ : Hid ((kRow kEntry).sz es ≤ 2 ^ 20) := by have : kWords.sz (tx, es) = 0 + (kRow kEntry).sz es := rfl; show _ ≤ _; omega
  have HZ1 : Hid ((kRow kStr).sz ws ≤ 2 ^ 20) := z1
  have HRW : Hid ((kRow kEntry).is false w (fun k => k < w.heap.size) [.slice a es.length c] es) := Kd.tight _ hr (fun k hk _ => hk)
  have HW : Hid ((kRow kStr).is false w S1 [.slice a1 n1 c1] ws) := h1
  have hn1 : n1 = ws.length := row_len h1
  have HN1 : Hid (n1 = ws.length) := hn1
  have hn20 : n1 ≤ 2 ^ 20 := by have h3 : (kRow kStr).sz ws = ws.length + sums kStr.sz ws := rfl; omega
  obtain ⟨G, hG⟩ : ∃ G, G = fMarks (tx, es) ws := ⟨_, rfl⟩
  have HF : Hid (G = if (fGoodWords (tx, es) && decide (ws.length ≤ 20)) = true then markL es (List.replicate tx.toNat 0) ws else none) := hG
  have HG : Hid (G = fMarks (tx, es) ws) := hG
  clear h0 z0 hr h1 z1 hn1 hG
  show Calls Try.prog 47 #[.agg #[.int .i64 tx, .slice a es.length c], .slice a1 n1 c1, .func (.func 49) #[] #[]] w _
  go_enter Try.func47, Try.ntmps47
  go_wp2_with fail
  refine (implGoodWords_k (tx, es) [.int .i64 tx, .slice a es.length c] S0 _ (Kd.below HK.out (below_a1 _ _)) HZ0.out).mono ?_
  rintro e w1 ⟨rfl, hb1⟩
  have X0 : w1.cell? ⟨w.heap.size, 0, none⟩ = some (.int .i64 tx) := by rw [hb1.cell (by simp)]; simp [go_sem]
  have X1 : w1.cell? ⟨w.heap.size, 1, none⟩ = some (.slice a es.length c) := by rw [hb1.cell (by simp)]; simp [go_sem]
  have HB1 : Hid (Below w.heap.size w w1) := (below_a1 _ _).trans (hb1.mono (by simp))
  have zw1 : w.heap.size < w1.heap.size := by have := hb1.size; simp at this; omega
  clear hb1
  cases hg : fGoodWords (tx, es) with
  | false =>
    have HNO : Hid (G = none) := by have := HF.out; rw [hg] at this; exact this
    clear hg
    go_wp2
    refine bodyPost_ret (v := .tuple #[.slice none 0 0, .bool false]) (by simp [results, Try.results47, go_sem]) rfl ?_
    exact RWith.no (by rw [← HG.out, HNO.out]) HB1.out
  | true =>
    obtain ⟨t0, t40⟩ := good_texts hg
    have HRI : Hid (Rises es) := good_rises hg
    have HIN : Hid (∀ s, InT tx (findL s es)) := good_in hg
    by_cases h20 : (20 : Int) < (n1 : Int)
    · have HNO : Hid (G = none) := by have := HF.out; rw [hg, decide_eq_false (by rw [← HN1.out]; omega)] at this; exact this
      clear hg
      go_wp2
      refine bodyPost_ret (v := .tuple #[.slice none 0 0, .bool false]) (by simp [results, Try.results47, go_sem]) rfl ?_
      exact RWith.no (by rw [← HG.out, HNO.out]) HB1.out
    · have HF1 : Hid (markL es (List.replicate tx.toNat 0) ws = G) := by have := HF.out; rw [hg, decide_eq_true (by rw [← HN1.out]; omega)] at this; exact this.symm
      clear hg HF
      obtain ⟨t, rfl⟩ : ∃ t : Nat, tx = t := ⟨tx.toNat, by omega⟩
      have hmw := makeIntS t (by omega) w1
      obtain ⟨W, hW⟩ : ∃ W, W = w1.alloc (.cells (madeCells #[.int .i64 0] t) 3) := ⟨_, rfl⟩
      have HM0 : Hid (MkAt W w1.heap.size (List.replicate t 0)) := by rw [hW]; exact MkAt.start _ _ _
      have BW : Below w1.heap.size w1 W := by rw [hW]; exact below_a1 _ _
      have zW : w1.heap.size < W.heap.size := by rw [hW]; simp
      have Y0 := cell_later BW X0
      have Y1 := cell_later BW X1
      have HBW : Hid (Below w.heap.size w W) := HB1.out.trans (BW.mono HB1.out.size)
      rw [← hW] at hmw
      obtain ⟨g, hg⟩ : ∃ g, g = w1.heap.size := ⟨_, rfl⟩
      rw [← hg] at hmw HM0 zW
      have hgw : w.heap.size < g := by omega
      clear hW BW hg
      go_wp2_with fail
      go_loopw [29] (fun iv wr => ∃ (k : Nat) (M : List Int), k ≤ n1 ∧ iv = .int .i64 k ∧ M.length = t ∧ Hid (markL es M (ws.drop k) = G) ∧ Hid (MkAt wr g M) ∧ BndM M (2 ^ 20 * k) ∧ KeptO (fun q => q = g) W wr) (fun iv _ => n1 - (intOf iv).toNat)
      case atStart => exact ⟨0, List.replicate t 0, Nat.zero_le _, rfl, by simp, HF1, HM0, (BndM.zero t).mono (by omega), KeptO.refl _ _⟩
      case round =>
        obtain ⟨k, M, hk, rfl, hMt, HI, HM, hbn, hkp⟩ := hrel
        have hkb : Below w.heap.size w wr := HBW.out.trans (hkp.below (by omega) (fun q hq e => by omega))
        have Z0 := cell_keptO hkp Y0 (by omega)
        have Z1 := cell_keptO hkp Y1 (by omega)
        have zr := hkp.size
        by_cases hlt : k < n1
        · obtain ⟨s, hs⟩ : ∃ s, ws[k]? = some s := ⟨_, List.getElem?_eq_getElem (by rw [← HN1.out]; exact hlt)⟩
          obtain ⟨b, off, B, C, rfl, hb, _, hi, _, hc⟩ := row_at (Kd.below HW.out hkb) hs
          obtain ⟨rfl, _⟩ := hi
          have A0 : wr.cell? ⟨b, off + k, none⟩ = some (.string s) := by have := (hc 0 _ rfl).1; simpa [kInt, kStr, kBool] using this
          have i0 : (0 : Int) ≤ (k : Int) := by omega
          have i1 : (k : Int) < (n1 : Int) := by omega
          have HI1 : Hid ((if isWordB s = true then markL es (addL M (findL s es)) (ws.drop (k + 1)) else none) = G) := by have := HI.out; rw [mark_drop hs] at this; exact this
          have HS : Hid (s.size ≤ 2 ^ 20) := Nat.le_trans (sz_str hs) HZ1.out
          have HKP : Hid (KeptO (fun q => q = g) W wr) := hkp
          have HBR : Hid (Below w.heap.size w wr) := hkb
          have HBN : Hid (BndM M (2 ^ 20 * k)) := hbn
          clear HI hc hs hkp hkb hbn
          go_wp2_with fail
          refine (isWord_k s _ HS.out).mono ?_
          rintro e w2 ⟨rfl, hb2⟩
          have V0 := cell_later hb2 Z0
          have V1 := cell_later hb2 Z1
          have HM2 : Hid (MkAt w2 g M) := HM.out.below hb2
          have HB2 : Hid (Below w.heap.size w w2) := HBR.out.trans (hb2.mono HBR.out.size)
          have HKP2 : Hid (KeptO (fun q => q = g) W w2) := HKP.out.trans (KeptO.of hb2)
          have z2 : wr.heap.size ≤ w2.heap.size := hb2.size
          clear hb2 HM HKP HBR Z0 Z1
          cases hw : isWordB s with
          | false =>
            have HNO : Hid (G = none) := by have := HI1.out; rw [hw] at this; exact this.symm
            clear hw HI1
            go_wp2
            refine bodyPost_ret (v := .tuple #[.slice none 0 0, .bool false]) (by simp [results, Try.results47, go_sem]) rfl ?_
            exact RWith.no (by rw [← HG.out, HNO.out]) HB2.out
          | true =>
            have HI2 : Hid (markL es (addL M (findL s es)) (ws.drop (k + 1)) = G) := by have := HI1.out; rw [hw] at this; exact this
            clear hw HI1
            go_wp2_with fail
            refine (listOf_k t es s a es.length c (fun k => k < w.heap.size) _ (Kd.below HRW.out HB2.out) HRI.out (by have := HZ.out; have h3 : (kRow kEntry).sz es = es.length + sums kEntry.sz es := rfl; omega)).mono ?_
            rintro e w3 ⟨la, ln, lc, TL, rfl, hl3, hTL, hb3⟩
            have hTL2 : ∀ k, TL k → k < w.heap.size := hTL
            clear hTL
            obtain ⟨l, hl⟩ : ∃ l, l = findL s es := ⟨_, rfl⟩
            have hll : l.length ≤ 2 ^ 20 := by have := findL_len s es; have h3 : (kRow kEntry).sz es = es.length + sums kEntry.sz es := rfl; have := HZ.out; rw [hl]; omega
            have HIT : Hid (InT (t : Int) l) := by rw [hl]; exact HIN.out s
            rw [← hl] at hl3 HI2
            have hln : ln = l.length := row_len hl3
            have HL3 : Hid ((kRow kPosting).is false w3 (fun k => k < w.heap.size) [.slice la ln lc] l) := Kd.mono hl3 hTL2
            have HLN : Hid (ln = l.length) := hln
            have U0 := cell_later hb3 V0
            have U1 := cell_later hb3 V1
            have HM3 : Hid (MkAt w3 g M) := HM2.out.below hb3
            have HKP3 : Hid (KeptO (fun q => q = g) W w3) := HKP2.out.trans (KeptO.of hb3)
            have z3 : w2.heap.size ≤ w3.heap.size := hb3.size
            have hln20 : ln ≤ 2 ^ 20 := by omega
            clear hl hl3 hln hb3 HM2 HKP2 V0 V1 hTL2
            go_wp2_with fail
            go_loopw [40] (fun iv wq => ∃ (j : Nat) (N : List Int), j ≤ ln ∧ iv = .int .i64 j ∧ N.length = t ∧ Hid (addL N (l.drop j) = addL M l) ∧ Hid (MkAt wq g N) ∧ BndM N (2 ^ 20 * k + j) ∧ KeptO (fun q => q = g) w3 wq) (fun iv _ => ln - (intOf iv).toNat)
            case atStart => exact ⟨0, M, Nat.zero_le _, rfl, hMt, rfl, HM3, HBN.out.mono (by omega), KeptO.refl _ _⟩
            case round =>
              obtain ⟨j, N, hj, rfl, hNt, HJ, HN, hbj, hkj⟩ := hrel
              have zq := hkj.size
              by_cases hjl : j < ln
              · obtain ⟨⟨p0, p1⟩, hp⟩ : ∃ p, l[j]? = some p := ⟨_, List.getElem?_eq_getElem (by rw [← HLN.out]; exact hjl)⟩
                obtain ⟨q0, q1⟩ := HIT.out _ (List.mem_of_getElem? hp)
                simp only at q0 q1
                obtain ⟨p, rfl⟩ : ∃ p : Nat, p0 = p := ⟨p0.toNat, by omega⟩
                have hrow := Kd.kept HL3.out hkj (fun q hq h2 h3 => by have h4 : q < w.heap.size := h2; have h5 : q = g := h3; omega)
                obtain ⟨b', off', B', C', rfl, hb', _, hi', _, hc'⟩ := row_at hrow hp
                obtain ⟨rfl, _, _⟩ := kPosting_open hi'
                have D0 : wr.cell? ⟨b', off' + j * 2, none⟩ = some (.int .i64 p) := (hc' 0 _ rfl).1
                have D1 : wr.cell? ⟨b', off' + j * 2 + 1, none⟩ = some (.int .i64 p1) := (hc' 1 _ rfl).1
                obtain ⟨y, hy⟩ : ∃ y, N[p]? = some y := ⟨_, List.getElem?_eq_getElem (by omega)⟩
                obtain ⟨y0, y1⟩ := hbj.at hy
                have E0 := (HN.out.2 p y hy).1
                have E1 := (HN.out.2 p y hy).2
                have hb1 : Below wr.heap.size wr (wr.alloc (.cells #[.int .i64 p, .int .i64 p1] 43)) := below_a1 _ _
                have HMX : Hid (MkAt ((wr.setCell ⟨g, p, none⟩ (.int .i64 (y + 1))).alloc (.cells #[.int .i64 p, .int .i64 p1] 43)) g (N.modify p (· + 1))) := (HN.out.put hy).below (below_a1 _ _)
                have HKX : Hid (KeptO (fun q => q = g) w3 ((wr.setCell ⟨g, p, none⟩ (.int .i64 (y + 1))).alloc (.cells #[.int .i64 p, .int .i64 p1] 43))) := (hkj.trans (kept_set _ _ _ _)).trans (KeptO.of (below_a1 _ _))
                have HJX : Hid (addL (N.modify p (· + 1)) (l.drop (j + 1)) = addL M l) := by have := HJ.out; rw [addL_drop hp] at this; exact this
                have HBX : Hid (BndM (N.modify p (· + 1)) (2 ^ 20 * k + j + 1)) := hbj.step p
                have F0 := cell_later hb1 E0
                have F1 : (wr.alloc (.cells #[.int .i64 p, .int .i64 p1] 43)).frozen? ⟨g, p, none⟩ = false := frozen_later hb1 E0 E1
                have j0 : (0 : Int) ≤ (j : Int) := by omega
                have j1 : (j : Int) < (ln : Int) := by omega
                have p0' : (0 : Int) ≤ (p : Int) := by omega
                have hgr : g < wr.heap.size := HN.out.1
                clear hrow hi' hc' hp hy hb1 HJ HN hbj hkj
                go_wp2
                go_roundw
                case rel => exact ⟨j + 1, N.modify p (· + 1), by omega, by rfl, by simpa using hNt, HJX, HMX, HBX.out.mono (by omega), HKX.out⟩
                case measure => simp only [intOf]; omega
              · have HE : Hid (N = addL M l) := by have := HJ.out; rw [List.drop_eq_nil_of_le (by rw [← HLN.out]; omega)] at this; exact this
                have HKO : Hid (KeptO (fun q => q = g) W wr) := HKP3.out.trans hkj
                have hjn : j = ln := by omega
                have HBO : Hid (BndM N (2 ^ 20 * (k + 1 : Nat))) := hbj.mono (by omega)
                have HIO : Hid (markL es N (ws.drop (k + 1)) = G) := by rw [HE.out]; exact HI2.out
                have j1 : ¬ (j : Int) < (ln : Int) := by omega
                clear HJ hbj hkj HE
                go_wp2
                go_roundw
                case rel => exact ⟨k + 1, N, by omega, by rfl, hNt, HIO, HN, HBO.out, HKO.out⟩
                case measure => simp only [intOf]; omega
        · have HE : Hid (G = some M) := by have := HI.out; rw [List.drop_eq_nil_of_le (by rw [← HN1.out]; omega)] at this; exact this.symm
          have i1 : ¬ (k : Int) < (n1 : Int) := by omega
          have HBO : Hid (BndM M (2 ^ 30)) := hbn.mono (by omega)
          have HBR : Hid (Below w.heap.size w wr) := hkb
          have hgr : g < wr.heap.size := HM.out.1
          clear HI hkb hbn hkp Z0 Z1 Y0 Y1 X0 X1
          obtain ⟨Wz, hWz⟩ : ∃ Wz, Wz = wr := ⟨_, rfl⟩
          rw [← hWz] at HM HBR hgr
          have HWZ : Hid (Wz = wr) := hWz
          have zwz : w.heap.size ≤ Wz.heap.size := HBR.out.size
          clear hWz
          obtain ⟨GL, hGL⟩ : ∃ GL, GL = pickL (fun n => decide ((0 : Int) < n)) 0 M := ⟨_, rfl⟩
          have HGL : Hid (GL = pickL (fun n => decide ((0 : Int) < n)) 0 M) := hGL
          clear hGL
          go_wp2_with fail
          rw [← HWZ.out]
          clear HWZ
          go_loopw [13, 55] (fun ov kv wq => ∃ (p : Nat) (L : List Int), p ≤ t ∧ kv = .int .i64 p ∧ L.length ≤ p ∧ Hid (L ++ pickL (fun n => decide ((0 : Int) < n)) p (M.drop p) = GL) ∧ Hid (OwnL (fun y => [.int .i64 y]) 3 1 wq Wz.heap.size ov L) ∧ Below Wz.heap.size Wz wq) (fun _ kv _ => t - (intOf kv).toNat)
          case atStart => exact ⟨0, [], Nat.zero_le _, rfl, Nat.le_refl _, by show _ = _; rw [HGL.out]; simp, OwnL.nil _ _ _ _ _, Below.refl _ _⟩
          case round =>
            obtain ⟨p, L, hp, rfl, hLp, HI, HO, hnx⟩ := hrel
            obtain ⟨oa, oc, hov, _⟩ := HO.out.form
            subst hov
            obtain ⟨ml, hml⟩ : ∃ ml, ml = L.length := ⟨_, rfl⟩
            have HML : Hid (ml = L.length) := hml
            rw [← hml] at HO hLp ⊢
            clear hml
            have zq := hnx.size
            by_cases hpt : p < t
            · obtain ⟨y, hy⟩ : ∃ y, M[p]? = some y := ⟨_, List.getElem?_eq_getElem (by omega)⟩
              obtain ⟨y0, y1⟩ := HBO.out.at hy
              have A0 : wr.cell? ⟨g, p, none⟩ = some (.int .i64 y) := ((HM.out.belowB hgr hnx).2 p y hy).1
              have HI1 : Hid (L ++ (if (fun n => decide ((0 : Int) < n)) y = true then (p : Int) :: pickL (fun n => decide ((0 : Int) < n)) (p + 1) (M.drop (p + 1)) else pickL (fun n => decide ((0 : Int) < n)) (p + 1) (M.drop (p + 1))) = GL) := by have := HI.out; rw [pick_drop (fun n => decide ((0 : Int) < n)) hy] at this; exact this
              have p0 : (0 : Int) ≤ (p : Int) := by omega
              have p1 : (p : Int) < (t : Int) := by omega
              have HBQ : Hid (Below Wz.heap.size Wz wr) := hnx
              clear hy HI hnx
              go_wp2_with fail
              refine (cAny_k y _).mono ?_
              rintro e w2 ⟨rfl, hb2⟩
              have HO2 : Hid (OwnL (fun y => [.int .i64 y]) 3 1 w2 Wz.heap.size (.slice oa ml oc) L) := OwnL.below HO.out hb2
              have HBQ2 : Hid (Below Wz.heap.size Wz w2) := HBQ.out.trans (hb2.mono zq)
              have zq2 : Wz.heap.size ≤ w2.heap.size := HBQ2.out.size
              clear hb2
              by_cases hf : (fun n => decide ((0 : Int) < n)) y = true
              · have HI2 : Hid (L ++ (p : Int) :: pickL (fun n => decide ((0 : Int) < n)) (p + 1) (M.drop (p + 1)) = GL) := by have := HI1.out; rw [if_pos hf] at this; exact this
                clear HI1
                rw [hf]
                clear hf
                go_wp2_with (at_builtin; refine app_int rfl _ _ rfl Wz.heap.size _ L rfl (OwnL.below HO2.out (below_a1 _ _)) _ (p : Int) rfl (cell_a1 _ _ _) (by rw [← HML.out]; omega) (by simp; omega) ?_)
                intro v3 w3 ho3 hb3 hz3
                have HO3 : Hid (OwnL (fun y => [.int .i64 y]) 3 1 w3 Wz.heap.size v3 (L ++ [(p : Int)])) := ho3
                have HB3 : Hid (Below Wz.heap.size Wz w3) := (HBQ2.out.alloc (by omega) _).trans hb3
                clear ho3 hb3 hz3
                go_wp2_with fail
                go_roundw
                case rel => exact ⟨p + 1, L ++ [(p : Int)], by omega, by go_num, by have := HML.out; simp; omega, by show _ = _; rw [← HI2.out]; simp, HO3, HB3.out⟩
                case measure => simp [intOf]; omega
              · have HI2 : Hid (L ++ pickL (fun n => decide ((0 : Int) < n)) (p + 1) (M.drop (p + 1)) = GL) := by have := HI1.out; rw [if_neg hf] at this; exact this
                have hf2 : (fun n => decide ((0 : Int) < n)) y = false := by simpa using hf
                clear HI1 hf
                rw [hf2]
                clear hf2
                go_wp2
                go_roundw
                case rel => exact ⟨p + 1, L, by omega, by go_num, by have := HML.out; omega, HI2, HO2, HBQ2.out⟩
                case measure => simp [intOf]; omega
            · have HE2 : Hid (L = GL) := by have := HI.out; rw [List.drop_eq_nil_of_le (by omega), pickL, List.append_nil] at this; exact this
              have p1 : ¬ (p : Int) < (t : Int) := by omega
              have HBF : Hid (Below w.heap.size w wr) := HBR.out.trans (hnx.mono zwz)
              clear HI hnx
              go_wp2
              refine bodyPost_ret (v := .tuple #[.slice oa ml oc, .bool true]) (by simp [results, Try.results47, go_sem]) rfl ?_
              exact RWith.yes (by rw [← HG.out, HE.out]) (by omega) (by rw [HE2.out, HGL.out]) zwz HO.out HBF.out


/-- WithAny. -/
def fWithAny (x : DWords) (ws : List ByteArray) : List Int × Bool := fWith (fun n => decide ((0 : Int) < n)) x ws
/-- What WithAny answers. -/
def RWithAny (x0 : DWords) (x1 : List ByteArray) (w : World) (e : Ending) (w' : World) : Prop := ∃ (a0 : Option Addr) (n0 c0 : Nat) (T0 : Nat → Prop), e = .returned (.tuple #[.slice a0 n0 c0, .bool (fWithAny x0 x1).2]) ∧ (kRow kInt).is true w' T0 [.slice a0 n0 c0] (fWithAny x0 x1).1 ∧ (∀ k, T0 k → w.heap.size ≤ k) ∧ sums kInt.cnt (fWithAny x0 x1).1 ≤ 2 ^ 26 ∧ Below w.heap.size w w'
set_option maxRecDepth 100000 in
set_option maxHeartbeats 2000000 in
theorem implWithAny_k (x0 : DWords) (C0 : List Value) (S0 : Nat → Prop) (x1 : List ByteArray) (a1 : Option Addr) (n1 c1 : Nat) (S1 : Nat → Prop) (w : World) (h0 : kWords.is false w S0 C0 x0) (z0 : kWords.sz x0 ≤ 2 ^ 20) (h1 : (kRow kStr).is false w S1 [.slice a1 n1 c1] x1) (z1 : (kRow kStr).sz x1 ≤ 2 ^ 20) :
    Calls Try.prog 12 #[.agg C0.toArray, .slice a1 n1 c1] w (RWithAny x0 x1 w) := by
  obtain ⟨tx, es⟩ := x0
  have HK : Hid (kWords.is false w S0 C0 (tx, es)) := h0
  obtain ⟨a, c, T, rfl, g0, hmx, hr, _⟩ := kWords_open h0
  have HZ0 : Hid (kWords.sz (tx, es) ≤ 2 ^ 20) := z0
  have HZ1 : Hid ((kRow kStr).sz x1 ≤ 2 ^ 20) := z1
  have HW : Hid ((kRow kStr).is false w S1 [.slice a1 n1 c1] x1) := h1
  clear h0 z0 h1 z1 hr
  show Calls Try.prog 12 #[.agg #[.int .i64 tx, .slice a es.length c], .slice a1 n1 c1] w _
  go_enter Try.func12, Try.ntmps12
  go_wp2_with fail
  refine (textsByHits_any (tx, es) [.int .i64 tx, .slice a es.length c] S0 S1 x1 a1 n1 c1 _ (Kd.below HK.out (below_a1 _ _)) HZ0.out (Kd.below HW.out (below_a1 _ _)) HZ1.out).mono ?_
  rintro e w1 ⟨a0, n0, c0, T0, rfl, hr1, hT, hcnt, hb1⟩
  obtain ⟨q, hq⟩ : ∃ q, q = (fWith (fun n => decide ((0 : Int) < n)) (tx, es) x1) := ⟨_, rfl⟩
  rw [← hq] at hr1 hcnt ⊢
  have HQ : Hid (q = (fWith (fun n => decide ((0 : Int) < n)) (tx, es) x1)) := hq
  have HR : Hid ((kRow kInt).is true w1 T0 [.slice a0 n0 c0] q.1) := hr1
  have HC : Hid (sums kInt.cnt q.1 ≤ 2 ^ 26) := hcnt
  have HT : Hid (∀ k, T0 k → w.heap.size ≤ k) := fun k hk => by have := hT k hk; simp at this; omega
  have HB : Hid (Below w.heap.size w w1) := (below_a1 _ _).trans (hb1.mono (by simp <;> omega))
  obtain ⟨q1, q2⟩ := q
  clear hq hr1 hT hcnt hb1
  go_wp2
  refine bodyPost_ret (v := .tuple #[.slice a0 n0 c0, .bool q2]) (by simp [results, Try.results12, go_sem]) rfl ?_
  unfold RWithAny fWithAny
  rw [← HQ.out]
  exact ⟨a0, n0, c0, T0, rfl, HR.out, HT.out, HC.out, HB.out⟩
set_option maxRecDepth 100000 in
set_option maxHeartbeats 4000000 in
theorem textsByHits_none (x0 : DWords) (C0 : List Value) (S0 S1 : Nat → Prop) (ws : List ByteArray) (a1 : Option Addr) (n1 c1 : Nat) (w : World) (h0 : kWords.is false w S0 C0 x0) (z0 : kWords.sz x0 ≤ 2 ^ 20) (h1 : (kRow kStr).is false w S1 [.slice a1 n1 c1] ws) (z1 : (kRow kStr).sz ws ≤ 2 ^ 20) :
    Calls Try.prog 47 #[.agg C0.toArray, .slice a1 n1 c1, .func (.func 50) #[] #[]] w (RWith (fun n => decide (n = 0)) x0 ws w) := by
  obtain ⟨tx, es⟩ := x0
  have HK : Hid (kWords.is false w S0 C0 (tx, es)) := h0
  obtain ⟨a, c, T, rfl, g0, hmx, hr, _⟩ := kWords_open h0
  have HZ0 : Hid (kWords.sz (tx, es) ≤ 2 ^ 20) := z0
  have HZ : Hid ((kRow kEntry).sz es ≤ 2 ^ 20) := by have : kWords.sz (tx, es) = 0 + (kRow kEntry).sz es := rfl; show _ ≤ _; omega
  have HZ1 : Hid ((kRow kStr).sz ws ≤ 2 ^ 20) := z1
  have HRW : Hid ((kRow kEntry).is false w (fun k => k < w.heap.size) [.slice a es.length c] es) := Kd.tight _ hr (fun k hk _ => hk)
  have HW : Hid ((kRow kStr).is false w S1 [.slice a1 n1 c1] ws) := h1
  have hn1 : n1 = ws.length := row_len h1
  have HN1 : Hid (n1 = ws.length) := hn1
  have hn20 : n1 ≤ 2 ^ 20 := by have h3 : (kRow kStr).sz ws = ws.length + sums kStr.sz ws := rfl; omega
  obtain ⟨G, hG⟩ : ∃ G, G = fMarks (tx, es) ws := ⟨_, rfl⟩
  have HF : Hid (G = if (fGoodWords (tx, es) && decide (ws.length ≤ 20)) = true then markL es (List.replicate tx.toNat 0) ws else none) := hG
  have HG : Hid (G = fMarks (tx, es) ws) := hG
  clear h0 z0 hr h1 z1 hn1 hG
  show Calls Try.prog 47 #[.agg #[.int .i64 tx, .slice a es.length c], .slice a1 n1 c1, .func (.func 50) #[] #[]] w _
  go_enter Try.func47, Try.ntmps47
  go_wp2_with fail
  refine (implGoodWords_k (tx, es) [.int .i64 tx, .slice a es.length c] S0 _ (Kd.below HK.out (below_a1 _ _)) HZ0.out).mono ?_
  rintro e w1 ⟨rfl, hb1⟩
  have X0 : w1.cell? ⟨w.heap.size, 0, none⟩ = some (.int .i64 tx) := by rw [hb1.cell (by simp)]; simp [go_sem]
  have X1 : w1.cell? ⟨w.heap.size, 1, none⟩ = some (.slice a es.length c) := by rw [hb1.cell (by simp)]; simp [go_sem]
  have HB1 : Hid (Below w.heap.size w w1) := (below_a1 _ _).trans (hb1.mono (by simp))
  have zw1 : w.heap.size < w1.heap.size := by have := hb1.size; simp at this; omega
  clear hb1
  cases hg : fGoodWords (tx, es) with
  | false =>
    have HNO : Hid (G = none) := by have := HF.out; rw [hg] at this; exact this
    clear hg
    go_wp2
    refine bodyPost_ret (v := .tuple #[.slice none 0 0, .bool false]) (by simp [results, Try.results47, go_sem]) rfl ?_
    exact RWith.no (by rw [← HG.out, HNO.out]) HB1.out
  | true =>
    obtain ⟨t0, t40⟩ := good_texts hg
    have HRI : Hid (Rises es) := good_rises hg
    have HIN : Hid (∀ s, InT tx (findL s es)) := good_in hg
    by_cases h20 : (20 : Int) < (n1 : Int)
    · have HNO : Hid (G = none) := by have := HF.out; rw [hg, decide_eq_false (by rw [← HN1.out]; omega)] at this; exact this
      clear hg
      go_wp2
      refine bodyPost_ret (v := .tuple #[.slice none 0 0, .bool false]) (by simp [results, Try.results47, go_sem]) rfl ?_
      exact RWith.no (by rw [← HG.out, HNO.out]) HB1.out
    · have HF1 : Hid (markL es (List.replicate tx.toNat 0) ws = G) := by have := HF.out; rw [hg, decide_eq_true (by rw [← HN1.out]; omega)] at this; exact this.symm
      clear hg HF
      obtain ⟨t, rfl⟩ : ∃ t : Nat, tx = t := ⟨tx.toNat, by omega⟩
      have hmw := makeIntS t (by omega) w1
      obtain ⟨W, hW⟩ : ∃ W, W = w1.alloc (.cells (madeCells #[.int .i64 0] t) 3) := ⟨_, rfl⟩
      have HM0 : Hid (MkAt W w1.heap.size (List.replicate t 0)) := by rw [hW]; exact MkAt.start _ _ _
      have BW : Below w1.heap.size w1 W := by rw [hW]; exact below_a1 _ _
      have zW : w1.heap.size < W.heap.size := by rw [hW]; simp
      have Y0 := cell_later BW X0
      have Y1 := cell_later BW X1
      have HBW : Hid (Below w.heap.size w W) := HB1.out.trans (BW.mono HB1.out.size)
      rw [← hW] at hmw
      obtain ⟨g, hg⟩ : ∃ g, g = w1.heap.size := ⟨_, rfl⟩
      rw [← hg] at hmw HM0 zW
      have hgw : w.heap.size < g := by omega
      clear hW BW hg
      go_wp2_with fail
      go_loopw [29] (fun iv wr => ∃ (k : Nat) (M : List Int), k ≤ n1 ∧ iv = .int .i64 k ∧ M.length = t ∧ Hid (markL es M (ws.drop k) = G) ∧ Hid (MkAt wr g M) ∧ BndM M (2 ^ 20 * k) ∧ KeptO (fun q => q = g) W wr) (fun iv _ => n1 - (intOf iv).toNat)
      case atStart => exact ⟨0, List.replicate t 0, Nat.zero_le _, rfl, by simp, HF1, HM0, (BndM.zero t).mono (by omega), KeptO.refl _ _⟩
      case round =>
        obtain ⟨k, M, hk, rfl, hMt, HI, HM, hbn, hkp⟩ := hrel
        have hkb : Below w.heap.size w wr := HBW.out.trans (hkp.below (by omega) (fun q hq e => by omega))
        have Z0 := cell_keptO hkp Y0 (by omega)
        have Z1 := cell_keptO hkp Y1 (by omega)
        have zr := hkp.size
        by_cases hlt : k < n1
        · obtain ⟨s, hs⟩ : ∃ s, ws[k]? = some s := ⟨_, List.getElem?_eq_getElem (by rw [← HN1.out]; exact hlt)⟩
          obtain ⟨b, off, B, C, rfl, hb, _, hi, _, hc⟩ := row_at (Kd.below HW.out hkb) hs
          obtain ⟨rfl, _⟩ := hi
          have A0 : wr.cell? ⟨b, off + k, none⟩ = some (.string s) := by have := (hc 0 _ rfl).1; simpa [kInt, kStr, kBool] using this
          have i0 : (0 : Int) ≤ (k : Int) := by omega
          have i1 : (k : Int) < (n1 : Int) := by omega
          have HI1 : Hid ((if isWordB s = true then markL es (addL M (findL s es)) (ws.drop (k + 1)) else none) = G) := by have := HI.out; rw [mark_drop hs] at this; exact this
          have HS : Hid (s.size ≤ 2 ^ 20) := Nat.le_trans (sz_str hs) HZ1.out
          have HKP : Hid (KeptO (fun q => q = g) W wr) := hkp
          have HBR : Hid (Below w.heap.size w wr) := hkb
          have HBN : Hid (BndM M (2 ^ 20 * k)) := hbn
          clear HI hc hs hkp hkb hbn
          go_wp2_with fail
          refine (isWord_k s _ HS.out).mono ?_
          rintro e w2 ⟨rfl, hb2⟩
          have V0 := cell_later hb2 Z0
          have V1 := cell_later hb2 Z1
          have HM2 : Hid (MkAt w2 g M) := HM.out.below hb2
          have HB2 : Hid (Below w.heap.size w w2) := HBR.out.trans (hb2.mono HBR.out.size)
          have HKP2 : Hid (KeptO (fun q => q = g) W w2) := HKP.out.trans (KeptO.of hb2)
          have z2 : wr.heap.size ≤ w2.heap.size := hb2.size
          clear hb2 HM HKP HBR Z0 Z1
          cases hw : isWordB s with
          | false =>
            have HNO : Hid (G = none) := by have := HI1.out; rw [hw] at this; exact this.symm
            clear hw HI1
            go_wp2
            refine bodyPost_ret (v := .tuple #[.slice none 0 0, .bool false]) (by simp [results, Try.results47, go_sem]) rfl ?_
            exact RWith.no (by rw [← HG.out, HNO.out]) HB2.out
          | true =>
            have HI2 : Hid (markL es (addL M (findL s es)) (ws.drop (k + 1)) = G) := by have := HI1.out; rw [hw] at this; exact this
            clear hw HI1
            go_wp2_with fail
            refine (listOf_k t es s a es.length c (fun k => k < w.heap.size) _ (Kd.below HRW.out HB2.out) HRI.out (by have := HZ.out; have h3 : (kRow kEntry).sz es = es.length + sums kEntry.sz es := rfl; omega)).mono ?_
            rintro e w3 ⟨la, ln, lc, TL, rfl, hl3, hTL, hb3⟩
            have hTL2 : ∀ k, TL k → k < w.heap.size := hTL
            clear hTL
            obtain ⟨l, hl⟩ : ∃ l, l = findL s es := ⟨_, rfl⟩
            have hll : l.length ≤ 2 ^ 20 := by have := findL_len s es; have h3 : (kRow kEntry).sz es = es.length + sums kEntry.sz es := rfl; have := HZ.out; rw [hl]; omega
            have HIT : Hid (InT (t : Int) l) := by rw [hl]; exact HIN.out s
            rw [← hl] at hl3 HI2
            have hln : ln = l.length := row_len hl3
            have HL3 : Hid ((kRow kPosting).is false w3 (fun k => k < w.heap.size) [.slice la ln lc] l) := Kd.mono hl3 hTL2
            have HLN : Hid (ln = l.length) := hln
            have U0 := cell_later hb3 V0
            have U1 := cell_later hb3 V1
            have HM3 : Hid (MkAt w3 g M) := HM2.out.below hb3
            have HKP3 : Hid (KeptO (fun q => q = g) W w3) := HKP2.out.trans (KeptO.of hb3)
            have z3 : w2.heap.size ≤ w3.heap.size := hb3.size
            have hln20 : ln ≤ 2 ^ 20 := by omega
            clear hl hl3 hln hb3 HM2 HKP2 V0 V1 hTL2
            go_wp2_with fail
            go_loopw [40] (fun iv wq => ∃ (j : Nat) (N : List Int), j ≤ ln ∧ iv = .int .i64 j ∧ N.length = t ∧ Hid (addL N (l.drop j) = addL M l) ∧ Hid (MkAt wq g N) ∧ BndM N (2 ^ 20 * k + j) ∧ KeptO (fun q => q = g) w3 wq) (fun iv _ => ln - (intOf iv).toNat)
            case atStart => exact ⟨0, M, Nat.zero_le _, rfl, hMt, rfl, HM3, HBN.out.mono (by omega), KeptO.refl _ _⟩
            case round =>
              obtain ⟨j, N, hj, rfl, hNt, HJ, HN, hbj, hkj⟩ := hrel
              have zq := hkj.size
              by_cases hjl : j < ln
              · obtain ⟨⟨p0, p1⟩, hp⟩ : ∃ p, l[j]? = some p := ⟨_, List.getElem?_eq_getElem (by rw [← HLN.out]; exact hjl)⟩
                obtain ⟨q0, q1⟩ := HIT.out _ (List.mem_of_getElem? hp)
                simp only at q0 q1
                obtain ⟨p, rfl⟩ : ∃ p : Nat, p0 = p := ⟨p0.toNat, by omega⟩
                have hrow := Kd.kept HL3.out hkj (fun q hq h2 h3 => by have h4 : q < w.heap.size := h2; have h5 : q = g := h3; omega)
                obtain ⟨b', off', B', C', rfl, hb', _, hi', _, hc'⟩ := row_at hrow hp
                obtain ⟨rfl, _, _⟩ := kPosting_open hi'
                have D0 : wr.cell? ⟨b', off' + j * 2, none⟩ = some (.int .i64 p) := (hc' 0 _ rfl).1
                have D1 : wr.cell? ⟨b', off' + j * 2 + 1, none⟩ = some (.int .i64 p1) := (hc' 1 _ rfl).1
                obtain ⟨y, hy⟩ : ∃ y, N[p]? = some y := ⟨_, List.getElem?_eq_getElem (by omega)⟩
                obtain ⟨y0, y1⟩ := hbj.at hy
                have E0 := (HN.out.2 p y hy).1
                have E1 := (HN.out.2 p y hy).2
                have hb1 : Below wr.heap.size wr (wr.alloc (.cells #[.int .i64 p, .int .i64 p1] 43)) := below_a1 _ _
                have HMX : Hid (MkAt ((wr.setCell ⟨g, p, none⟩ (.int .i64 (y + 1))).alloc (.cells #[.int .i64 p, .int .i64 p1] 43)) g (N.modify p (· + 1))) := (HN.out.put hy).below (below_a1 _ _)
                have HKX : Hid (KeptO (fun q => q = g) w3 ((wr.setCell ⟨g, p, none⟩ (.int .i64 (y + 1))).alloc (.cells #[.int .i64 p, .int .i64 p1] 43))) := (hkj.trans (kept_set _ _ _ _)).trans (KeptO.of (below_a1 _ _))
                have HJX : Hid (addL (N.modify p (· + 1)) (l.drop (j + 1)) = addL M l) := by have := HJ.out; rw [addL_drop hp] at this; exact this
                have HBX : Hid (BndM (N.modify p (· + 1)) (2 ^ 20 * k + j + 1)) := hbj.step p
                have F0 := cell_later hb1 E0
                have F1 : (wr.alloc (.cells #[.int .i64 p, .int .i64 p1] 43)).frozen? ⟨g, p, none⟩ = false := frozen_later hb1 E0 E1
                have j0 : (0 : Int) ≤ (j : Int) := by omega
                have j1 : (j : Int) < (ln : Int) := by omega
                have p0' : (0 : Int) ≤ (p : Int) := by omega
                have hgr : g < wr.heap.size := HN.out.1
                clear hrow hi' hc' hp hy hb1 HJ HN hbj hkj
                go_wp2
                go_roundw
                case rel => exact ⟨j + 1, N.modify p (· + 1), by omega, by rfl, by simpa using hNt, HJX, HMX, HBX.out.mono (by omega), HKX.out⟩
                case measure => simp only [intOf]; omega
              · have HE : Hid (N = addL M l) := by have := HJ.out; rw [List.drop_eq_nil_of_le (by rw [← HLN.out]; omega)] at this; exact this
                have HKO : Hid (KeptO (fun q => q = g) W wr) := HKP3.out.trans hkj
                have hjn : j = ln := by omega
                have HBO : Hid (BndM N (2 ^ 20 * (k + 1 : Nat))) := hbj.mono (by omega)
                have HIO : Hid (markL es N (ws.drop (k + 1)) = G) := by rw [HE.out]; exact HI2.out
                have j1 : ¬ (j : Int) < (ln : Int) := by omega
                clear HJ hbj hkj HE
                go_wp2
                go_roundw
                case rel => exact ⟨k + 1, N, by omega, by rfl, hNt, HIO, HN, HBO.out, HKO.out⟩
                case measure => simp only [intOf]; omega
        · have HE : Hid (G = some M) := by have := HI.out; rw [List.drop_eq_nil_of_le (by rw [← HN1.out]; omega)] at this; exact this.symm
          have i1 : ¬ (k : Int) < (n1 : Int) := by omega
          have HBO : Hid (BndM M (2 ^ 30)) := hbn.mono (by omega)
          have HBR : Hid (Below w.heap.size w wr) := hkb
          have hgr : g < wr.heap.size := HM.out.1
          clear HI hkb hbn hkp Z0 Z1 Y0 Y1 X0 X1
          obtain ⟨Wz, hWz⟩ : ∃ Wz, Wz = wr := ⟨_, rfl⟩
          rw [← hWz] at HM HBR hgr
          have HWZ : Hid (Wz = wr) := hWz
          have zwz : w.heap.size ≤ Wz.heap.size := HBR.out.size
          clear hWz
          obtain ⟨GL, hGL⟩ : ∃ GL, GL = pickL (fun n => decide (n = 0)) 0 M := ⟨_, rfl⟩
          have HGL : Hid (GL = pickL (fun n => decide (n = 0)) 0 M) := hGL
          clear hGL
          go_wp2_with fail
          rw [← HWZ.out]
          clear HWZ
          go_loopw [13, 55] (fun ov kv wq => ∃ (p : Nat) (L : List Int), p ≤ t ∧ kv = .int .i64 p ∧ L.length ≤ p ∧ Hid (L ++ pickL (fun n => decide (n = 0)) p (M.drop p) = GL) ∧ Hid (OwnL (fun y => [.int .i64 y]) 3 1 wq Wz.heap.size ov L) ∧ Below Wz.heap.size Wz wq) (fun _ kv _ => t - (intOf kv).toNat)
          case atStart => exact ⟨0, [], Nat.zero_le _, rfl, Nat.le_refl _, by show _ = _; rw [HGL.out]; simp, OwnL.nil _ _ _ _ _, Below.refl _ _⟩
          case round =>
            obtain ⟨p, L, hp, rfl, hLp, HI, HO, hnx⟩ := hrel
            obtain ⟨oa, oc, hov, _⟩ := HO.out.form
            subst hov
            obtain ⟨ml, hml⟩ : ∃ ml, ml = L.length := ⟨_, rfl⟩
            have HML : Hid (ml = L.length) := hml
            rw [← hml] at HO hLp ⊢
            clear hml
            have zq := hnx.size
            by_cases hpt : p < t
            · obtain ⟨y, hy⟩ : ∃ y, M[p]? = some y := ⟨_, List.getElem?_eq_getElem (by omega)⟩
              obtain ⟨y0, y1⟩ := HBO.out.at hy
              have A0 : wr.cell? ⟨g, p, none⟩ = some (.int .i64 y) := ((HM.out.belowB hgr hnx).2 p y hy).1
              have HI1 : Hid (L ++ (if (fun n => decide (n = 0)) y = true then (p : Int) :: pickL (fun n => decide (n = 0)) (p + 1) (M.drop (p + 1)) else pickL (fun n => decide (n = 0)) (p + 1) (M.drop (p + 1))) = GL) := by have := HI.out; rw [pick_drop (fun n => decide (n = 0)) hy] at this; exact this
              have p0 : (0 : Int) ≤ (p : Int) := by omega
              have p1 : (p : Int) < (t : Int) := by omega
              have HBQ : Hid (Below Wz.heap.size Wz wr) := hnx
              clear hy HI hnx
              go_wp2_with fail
              refine (cNone_k y _).mono ?_
              rintro e w2 ⟨rfl, hb2⟩
              have HO2 : Hid (OwnL (fun y => [.int .i64 y]) 3 1 w2 Wz.heap.size (.slice oa ml oc) L) := OwnL.below HO.out hb2
              have HBQ2 : Hid (Below Wz.heap.size Wz w2) := HBQ.out.trans (hb2.mono zq)
              have zq2 : Wz.heap.size ≤ w2.heap.size := HBQ2.out.size
              clear hb2
              by_cases hf : (fun n => decide (n = 0)) y = true
              · have HI2 : Hid (L ++ (p : Int) :: pickL (fun n => decide (n = 0)) (p + 1) (M.drop (p + 1)) = GL) := by have := HI1.out; rw [if_pos hf] at this; exact this
                clear HI1
                rw [hf]
                clear hf
                go_wp2_with (at_builtin; refine app_int rfl _ _ rfl Wz.heap.size _ L rfl (OwnL.below HO2.out (below_a1 _ _)) _ (p : Int) rfl (cell_a1 _ _ _) (by rw [← HML.out]; omega) (by simp; omega) ?_)
                intro v3 w3 ho3 hb3 hz3
                have HO3 : Hid (OwnL (fun y => [.int .i64 y]) 3 1 w3 Wz.heap.size v3 (L ++ [(p : Int)])) := ho3
                have HB3 : Hid (Below Wz.heap.size Wz w3) := (HBQ2.out.alloc (by omega) _).trans hb3
                clear ho3 hb3 hz3
                go_wp2_with fail
                go_roundw
                case rel => exact ⟨p + 1, L ++ [(p : Int)], by omega, by go_num, by have := HML.out; simp; omega, by show _ = _; rw [← HI2.out]; simp, HO3, HB3.out⟩
                case measure => simp [intOf]; omega
              · have HI2 : Hid (L ++ pickL (fun n => decide (n = 0)) (p + 1) (M.drop (p + 1)) = GL) := by have := HI1.out; rw [if_neg hf] at this; exact this
                have hf2 : (fun n => decide (n = 0)) y = false := by simpa using hf
                clear HI1 hf
                rw [hf2]
                clear hf2
                go_wp2
                go_roundw
                case rel => exact ⟨p + 1, L, by omega, by go_num, by have := HML.out; omega, HI2, HO2, HBQ2.out⟩
                case measure => simp [intOf]; omega
            · have HE2 : Hid (L = GL) := by have := HI.out; rw [List.drop_eq_nil_of_le (by omega), pickL, List.append_nil] at this; exact this
              have p1 : ¬ (p : Int) < (t : Int) := by omega
              have HBF : Hid (Below w.heap.size w wr) := HBR.out.trans (hnx.mono zwz)
              clear HI hnx
              go_wp2
              refine bodyPost_ret (v := .tuple #[.slice oa ml oc, .bool true]) (by simp [results, Try.results47, go_sem]) rfl ?_
              exact RWith.yes (by rw [← HG.out, HE.out]) (by omega) (by rw [HE2.out, HGL.out]) zwz HO.out HBF.out


/-- Without. -/
def fWithout (x : DWords) (ws : List ByteArray) : List Int × Bool := fWith (fun n => decide (n = 0)) x ws
/-- What Without answers. -/
def RWithout (x0 : DWords) (x1 : List ByteArray) (w : World) (e : Ending) (w' : World) : Prop := ∃ (a0 : Option Addr) (n0 c0 : Nat) (T0 : Nat → Prop), e = .returned (.tuple #[.slice a0 n0 c0, .bool (fWithout x0 x1).2]) ∧ (kRow kInt).is true w' T0 [.slice a0 n0 c0] (fWithout x0 x1).1 ∧ (∀ k, T0 k → w.heap.size ≤ k) ∧ sums kInt.cnt (fWithout x0 x1).1 ≤ 2 ^ 26 ∧ Below w.heap.size w w'
set_option maxRecDepth 100000 in
set_option maxHeartbeats 2000000 in
theorem implWithout_k (x0 : DWords) (C0 : List Value) (S0 : Nat → Prop) (x1 : List ByteArray) (a1 : Option Addr) (n1 c1 : Nat) (S1 : Nat → Prop) (w : World) (h0 : kWords.is false w S0 C0 x0) (z0 : kWords.sz x0 ≤ 2 ^ 20) (h1 : (kRow kStr).is false w S1 [.slice a1 n1 c1] x1) (z1 : (kRow kStr).sz x1 ≤ 2 ^ 20) :
    Calls Try.prog 13 #[.agg C0.toArray, .slice a1 n1 c1] w (RWithout x0 x1 w) := by
  obtain ⟨tx, es⟩ := x0
  have HK : Hid (kWords.is false w S0 C0 (tx, es)) := h0
  obtain ⟨a, c, T, rfl, g0, hmx, hr, _⟩ := kWords_open h0
  have HZ0 : Hid (kWords.sz (tx, es) ≤ 2 ^ 20) := z0
  have HZ1 : Hid ((kRow kStr).sz x1 ≤ 2 ^ 20) := z1
  have HW : Hid ((kRow kStr).is false w S1 [.slice a1 n1 c1] x1) := h1
  clear h0 z0 h1 z1 hr
  show Calls Try.prog 13 #[.agg #[.int .i64 tx, .slice a es.length c], .slice a1 n1 c1] w _
  go_enter Try.func13, Try.ntmps13
  go_wp2_with fail
  refine (textsByHits_none (tx, es) [.int .i64 tx, .slice a es.length c] S0 S1 x1 a1 n1 c1 _ (Kd.below HK.out (below_a1 _ _)) HZ0.out (Kd.below HW.out (below_a1 _ _)) HZ1.out).mono ?_
  rintro e w1 ⟨a0, n0, c0, T0, rfl, hr1, hT, hcnt, hb1⟩
  obtain ⟨q, hq⟩ : ∃ q, q = (fWith (fun n => decide (n = 0)) (tx, es) x1) := ⟨_, rfl⟩
  rw [← hq] at hr1 hcnt ⊢
  have HQ : Hid (q = (fWith (fun n => decide (n = 0)) (tx, es) x1)) := hq
  have HR : Hid ((kRow kInt).is true w1 T0 [.slice a0 n0 c0] q.1) := hr1
  have HC : Hid (sums kInt.cnt q.1 ≤ 2 ^ 26) := hcnt
  have HT : Hid (∀ k, T0 k → w.heap.size ≤ k) := fun k hk => by have := hT k hk; simp at this; omega
  have HB : Hid (Below w.heap.size w w1) := (below_a1 _ _).trans (hb1.mono (by simp <;> omega))
  obtain ⟨q1, q2⟩ := q
  clear hq hr1 hT hcnt hb1
  go_wp2
  refine bodyPost_ret (v := .tuple #[.slice a0 n0 c0, .bool q2]) (by simp [results, Try.results13, go_sem]) rfl ?_
  unfold RWithout fWithout
  rw [← HQ.out]
  exact ⟨a0, n0, c0, T0, rfl, HR.out, HT.out, HC.out, HB.out⟩
end Go.Proofs.Ytikgcgfigcolmaa
