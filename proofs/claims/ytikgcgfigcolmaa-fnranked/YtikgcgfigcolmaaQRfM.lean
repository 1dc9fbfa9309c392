/- int: how it lies in memory, and what the laws' helpers do with it. No condition. string: how it lies in memory, and what the laws' helpers do with it. No condition. How many of the words each text has: the mathematics, and the marks in memory. No condition. Texts ranked by words: the mathematics. No condition. -/
import Derived.Test.YtikgcgfigcolmaaKd
import Derived.Test.YtikgcgfigcolmaaQLoS
import Derived.Test.YtikgcgfigcolmaaQRpP
namespace Go.Proofs.Ytikgcgfigcolmaa
open Go.RowKit
set_option linter.unusedVariables false
theorem infoIntS : (Try.prog.info? 3).map (fun i => (i.zero, i.size, i.bytes)) = some (some (.int .i64 0), 1, 8) := by kernel_rfl
theorem makeIntS (n : Nat) (hn : n ≤ 2 ^ 30) (W : World) : (Instr.makeSlice 33 (.int .i64 (n : Int)) (.int .i64 (n : Int))).run Try.prog W = .ok (.slice (some ⟨W.heap.size, 0, none⟩) n n) (W.alloc (.cells (madeCells #[.int .i64 0] (n)) 3)) := by
  obtain ⟨i0, hi, hz0, hz1, hz2⟩ := info_parts infoIntS
  have h := run_make (P := Try.prog) W 33 3 i0 _ Try.underlying33 hi hz0 .i64 .i64 n n (by omega) (by omega) (by rw [hz2]; omega) (by omega)
  rw [hz1] at h
  simpa [Value.cells] using h
theorem cntle_int (x : Int) : kInt.cnt x ≤ 10 * (1 + kInt.sz x) := by show 1 ≤ _; omega
theorem cnt_IntS {l : List Int} (h : (kRow kInt).sz l ≤ 2 ^ 20) : sums kInt.cnt l ≤ 2 ^ 26 := by
  have h1 := sums_le_of kInt.cnt kInt.sz 10 cntle_int l
  have h2 : l.length + sums kInt.sz l ≤ 2 ^ 20 := h
  omega

end Go.Proofs.Ytikgcgfigcolmaa
namespace Go.Proofs.Ytikgcgfigcolmaa
open Go.RowKit
set_option linter.unusedVariables false
theorem infoStringS : (Try.prog.info? 9).map (fun i => (i.zero, i.size, i.bytes)) = some (some (.string ⟨#[]⟩), 1, 16) := by kernel_rfl
theorem makeStringS (n : Nat) (hn : n ≤ 2 ^ 30) (W : World) : (Instr.makeSlice 23 (.int .i64 (n : Int)) (.int .i64 (n : Int))).run Try.prog W = .ok (.slice (some ⟨W.heap.size, 0, none⟩) n n) (W.alloc (.cells (madeCells #[.string ⟨#[]⟩] (n)) 9)) := by
  obtain ⟨i0, hi, hz0, hz1, hz2⟩ := info_parts infoStringS
  have h := run_make (P := Try.prog) W 23 9 i0 _ Try.underlying23 hi hz0 .i64 .i64 n n (by omega) (by omega) (by rw [hz2]; omega) (by omega)
  rw [hz1] at h
  simpa [Value.cells] using h
theorem cntle_string (x : ByteArray) : kStr.cnt x ≤ 10 * (1 + kStr.sz x) := by show 1 ≤ _; omega
theorem cnt_StringS {l : List ByteArray} (h : (kRow kStr).sz l ≤ 2 ^ 20) : sums kStr.cnt l ≤ 2 ^ 26 := by
  have h1 := sums_le_of kStr.cnt kStr.sz 10 cntle_string l
  have h2 : l.length + sums kStr.sz l ≤ 2 ^ 20 := h
  omega

end Go.Proofs.Ytikgcgfigcolmaa
namespace Go.Proofs.Ytikgcgfigcolmaa
open Go.RowKit
set_option linter.unusedVariables false

/-- One more at each text of a list. -/
def addL : List Int → List DPosting → List Int
  | M, [] => M
  | M, p :: r => addL (M.modify p.1.toNat (· + 1)) r
/-- The marks of all words, where they are words. -/
def markL (es : List DEntry) : List Int → List ByteArray → Option (List Int)
  | M, [] => some M
  | M, s :: r => if isWordB s = true then markL es (addL M (findL s es)) r else none
/-- How many of the words each text has. -/
def fMarks (x : DWords) (ws : List ByteArray) : Option (List Int) := if (fGoodWords x && decide (ws.length ≤ 20)) = true then markL x.2 (List.replicate x.1.toNat 0) ws else none

def BndM (M : List Int) (b : Int) : Prop := ∀ x ∈ M, 0 ≤ x ∧ x ≤ b
theorem BndM.mono {M : List Int} {b c : Int} (h : BndM M b) (hb : b ≤ c) : BndM M c := fun x hx => ⟨(h x hx).1, Int.le_trans (h x hx).2 hb⟩
theorem BndM.at {M : List Int} {b : Int} (h : BndM M b) {i : Nat} {x : Int} (hx : M[i]? = some x) : 0 ≤ x ∧ x ≤ b := h x (List.mem_of_getElem? hx)
theorem BndM.step {M : List Int} {b : Int} (h : BndM M b) (i : Nat) : BndM (M.modify i (· + 1)) (b + 1) := by
  intro x hx
  obtain ⟨j, hj⟩ := List.getElem?_of_mem hx
  rw [List.getElem?_modify] at hj
  cases e : M[j]? with
  | none => rw [e] at hj; simp at hj
  | some y =>
    rw [e] at hj
    have hy := h.at e
    simp at hj
    split at hj <;> omega
theorem BndM.zero (n : Nat) : BndM (List.replicate n 0) 0 := fun x hx => by
  obtain ⟨_, rfl⟩ := List.mem_replicate.1 hx
  omega
/-- Texts of a list are texts. -/
def InT (t : Int) (l : List DPosting) : Prop := ∀ p ∈ l, 0 ≤ p.1 ∧ p.1 < t

/-- Marks in memory. -/
def MkAt (w : World) (g : Nat) (M : List Int) : Prop := g < w.heap.size ∧ ∀ i x, M[i]? = some x → w.cell? ⟨g, i, none⟩ = some (.int .i64 x) ∧ w.frozen? ⟨g, i, none⟩ = false
theorem MkAt.below {w w' : World} {g : Nat} {M : List Int} (h : MkAt w g M) (hb : Below w.heap.size w w') : MkAt w' g M :=
  ⟨Nat.lt_of_lt_of_le h.1 hb.size, fun i x hx => by
    rw [World.cell?_of_block (w := w) (hb.block g h.1), World.frozen?_of_block (w := w) (hb.block g h.1)]
    exact h.2 i x hx⟩
theorem MkAt.put {w : World} {g i : Nat} {M : List Int} {x : Int} (h : MkAt w g M) (hx : M[i]? = some x) : MkAt (w.setCell ⟨g, i, none⟩ (.int .i64 (x + 1))) g (M.modify i (· + 1)) := by
  refine ⟨by simpa using h.1, fun j y hy => ?_⟩
  rw [List.getElem?_modify] at hy
  by_cases e : i = j
  · subst e
    rw [hx] at hy
    simp at hy
    rw [← hy]
    exact ⟨set_same (h.2 i x hx).1, frozen_set (h.2 i x hx).2⟩
  · cases e2 : M[j]? with
    | none => rw [e2] at hy; simp at hy
    | some z =>
      rw [e2] at hy
      simp [e] at hy
      rw [← hy]
      exact ⟨set_other (h.2 j z e2).1 e, frozen_set (h.2 j z e2).2⟩
theorem kept_set (w : World) (g o : Nat) (v : Value) : KeptO (fun k => k = g) w (w.setCell ⟨g, o, none⟩ v) := ⟨rfl, rfl, rfl, by simp, fun k hk hn => heap_set_ne hn⟩
theorem MkAt.row {w : World} {g n : Nat} {M : List Int} (h : MkAt w g M) (hn : n = M.length) {b : Int} (hb : BndM M b) (hb2 : b ≤ 2 ^ 40) (hm : M.length ≤ 2 ^ 30) {S : Nat → Prop} (hS : S g) : (kRow kInt).is true w S [.slice (some ⟨g, 0, none⟩) n n] M := by
  subst hn
  refine ⟨_, _, rfl, by unfold maxLen; omega, fun _ => Nat.le_refl _, .inr ⟨g, 0, fun _ _ => False, fun i => [.int .i64 ((M[i]?).getD 0)], rfl, h.1, hS, fun i x hx => ?_, fun _ _ _ h => h.elim, fun _ => ⟨fun _ _ h => h, fun _ _ _ _ _ _ h => h.elim⟩⟩⟩
  have hx' := hb.at hx
  simp only [hx, Option.getD_some]
  refine ⟨⟨rfl, by unfold IntOk; omega⟩, fun j v hj => ?_⟩
  match j, hj with
  | 0, hj =>
    obtain rfl : Value.int .i64 x = v := by simpa using hj
    rw [show 0 + i * kInt.wd + 0 = i by show 0 + i * 1 + 0 = i; omega]
    exact ⟨(h.2 i x hx).1, fun _ => (h.2 i x hx).2⟩
theorem addL_len : ∀ (l : List DPosting) (M : List Int), (addL M l).length = M.length
  | [], M => rfl
  | p :: r, M => by rw [addL, addL_len r]; simp
theorem postOk_in (t : Int) : ∀ (l : List DPosting) (last : Int), -1 ≤ last → postOk t last l = true → InT t l
  | [], last, _, _ => fun p hp => by simp at hp
  | (a, b) :: r, last, h0, h => by
    rw [postOk] at h
    simp only [Bool.and_eq_true, decide_eq_true_eq] at h
    intro p hp
    rcases List.mem_cons.1 hp with rfl | hp
    · refine ⟨?_, ?_⟩ <;> (show _; omega)
    · exact postOk_in t r a (by omega) (by first | exact h.2 | omega) p hp
theorem ent_in (t : Int) : ∀ (es : List DEntry) (last : ByteArray), entOk t last es = true → ∀ s, InT t (findL s es)
  | [], last, _, s => fun p hp => by simp [findL] at hp
  | (y, m) :: r, last, hk, s => by
    rw [entOk] at hk
    simp only [Bool.and_eq_true] at hk
    rw [findL]
    split
    · exact postOk_in t m (-1) (by omega) hk.1.2
    · exact ent_in t r y hk.2 s
theorem good_in {t : Int} {es : List DEntry} (h : fGoodWords (t, es) = true) (s : ByteArray) : InT t (findL s es) := by
  unfold fGoodWords at h
  simp only [Bool.and_eq_true] at h
  exact ent_in t es _ h.2 s
theorem good_texts {t : Int} {es : List DEntry} (h : fGoodWords (t, es) = true) : 0 ≤ t ∧ t ≤ 40 := by
  unfold fGoodWords at h
  simp only [Bool.and_eq_true, decide_eq_true_eq] at h
  exact h.1.1
theorem addL_bnd : ∀ (l : List DPosting) (M : List Int) (b : Int), BndM M b → BndM (addL M l) (b + l.length)
  | [], M, b, h => by simpa [addL] using h
  | p :: r, M, b, h => by
    have := addL_bnd r _ (b + 1) (h.step p.1.toNat)
    rw [addL]
    refine this.mono ?_
    simp only [List.length_cons]
    omega
theorem addL_drop {l : List DPosting} {j : Nat} {p : DPosting} (h : l[j]? = some p) (M : List Int) : addL M (l.drop j) = addL (M.modify p.1.toNat (· + 1)) (l.drop (j + 1)) := by
  have hk := (List.getElem?_eq_some_iff.1 h)
  rw [List.drop_eq_getElem_cons hk.1, hk.2, addL]
theorem mark_drop {es : List DEntry} {ws : List ByteArray} {j : Nat} {s : ByteArray} (h : ws[j]? = some s) (M : List Int) : markL es M (ws.drop j) = if isWordB s = true then markL es (addL M (findL s es)) (ws.drop (j + 1)) else none := by
  have hk := (List.getElem?_eq_some_iff.1 h)
  rw [List.drop_eq_getElem_cons hk.1, hk.2, markL]
theorem MkAt.start (w : World) (n : Nat) (T : TypeId) : MkAt (w.alloc (.cells (madeCells #[.int .i64 0] n) T)) w.heap.size (List.replicate n 0) := by
  refine ⟨by simp, fun i x hx => ?_⟩
  obtain ⟨hi, rfl⟩ : i < n ∧ x = 0 := by
    have := List.getElem?_eq_some_iff.1 hx
    simp at this
    omega
  refine ⟨?_, World.frozen?_alloc_new _ _ _ _⟩
  rw [World.cell?_alloc_new]
  simp [madeCells, hi]
  rw [Nat.mod_one]
  rfl
end Go.Proofs.Ytikgcgfigcolmaa
namespace Go.Proofs.Ytikgcgfigcolmaa
open Go.RowKit
set_option linter.unusedVariables false

/-- The scores of a word's postings. -/
def scOf (texts : Int) (n : Nat) (l : List DPosting) : List DScored := l.map fun p => (p.1, p.2 * (texts - n + 1))
/-- A word's ranking. -/
def rkOf (texts : Int) (l : List DPosting) : List DScored := putAll [] (scOf texts l.length l)
theorem putL_perm {l : List DScored} {s : DScored} (h : noId l s.1 = true) : (putL l s).Perm (l ++ [s]) := by
  unfold putL
  rw [if_pos h]
  exact (insL_perm l s).trans (List.perm_append_singleton s l).symm
theorem putAll_perm : ∀ (m l : List DScored), NoTwice (l ++ m) → (putAll l m).Perm (l ++ m)
  | [], l, _ => by simp [putAll]
  | s :: r, l, h => by
    have hn : noId l s.1 = true := (noId_iff _ _).2 fun y hy => (List.pairwise_append.1 h).2.2 y hy s (by simp)
    have hp := putL_perm hn
    have h' : NoTwice ((l ++ [s]) ++ r) := by rw [List.append_assoc]; exact h
    have h2 : NoTwice (putL l s ++ r) := List.Perm.pairwise (hp.append_right r).symm h' (fun {a b} h => fun e => h e.symm)
    have ih := putAll_perm r (putL l s) h2
    refine ih.trans ((hp.append_right r).trans ?_)
    rw [List.append_assoc]
    exact List.Perm.refl _
theorem rises_once {t : Int} : ∀ (l : List DPosting) (last : Int), postOk t last l = true → (∀ p ∈ l, last < p.1) ∧ l.Pairwise (fun a b => a.1 < b.1)
  | [], last, _ => ⟨fun p hp => by simp at hp, List.Pairwise.nil⟩
  | (a, b) :: r, last, h => by
    rw [postOk] at h
    simp only [Bool.and_eq_true, decide_eq_true_eq] at h
    obtain ⟨i1, i2⟩ := rises_once r a h.2
    refine ⟨fun p hp => ?_, List.pairwise_cons.2 ⟨fun p hp => i1 p hp, i2⟩⟩
    rcases List.mem_cons.1 hp with rfl | hp
    · exact h.1.1
    · have := i1 p hp; omega
theorem post_len {t : Int} : ∀ (l : List DPosting) (last : Int), -1 ≤ last → last < t → postOk t last l = true → (l.length : Int) ≤ t - last - 1
  | [], last, _, h0, _ => by simp; omega
  | (a, b) :: r, last, h1, h0, h => by
    rw [postOk] at h
    simp only [Bool.and_eq_true, decide_eq_true_eq] at h
    have := post_len r a (by omega) (by omega) h.2
    simp only [List.length_cons]
    omega
theorem post_times {t : Int} : ∀ (l : List DPosting) (last : Int), postOk t last l = true → ∀ p ∈ l, 1 ≤ p.2 ∧ p.2 ≤ 100
  | [], last, _ => fun p hp => by simp at hp
  | (a, b) :: r, last, h => by
    rw [postOk] at h
    simp only [Bool.and_eq_true, decide_eq_true_eq] at h
    intro p hp
    rcases List.mem_cons.1 hp with rfl | hp
    · exact ⟨h.1.2.2.1, h.1.2.2.2⟩
    · exact post_times r a h.2 p hp
theorem scOf_once (texts : Int) (n : Nat) {l : List DPosting} (h : l.Pairwise fun a b => a.1 < b.1) : NoTwice (scOf texts n l) := by
  unfold NoTwice scOf
  rw [List.pairwise_map]
  exact h.imp fun h e => by have e' : (_ : Int) = _ := e; omega
/-- What a ranking asks, of those that stand in their order. -/
theorem srt_good : ∀ (r pre : List DScored), Srt (pre ++ r) → NoTwice (pre ++ r) → (∀ x ∈ r, scOk x = true) → rkOk pre r = true
  | [], pre, _, _, _ => rfl
  | x :: r, pre, hs, hn, h => by
    rw [rkOk]
    have hs' := List.pairwise_append.1 hs
    have hn' := List.pairwise_append.1 hn
    simp only [Bool.and_eq_true]
    refine ⟨⟨⟨h x (by simp), ?_⟩, (noId_iff _ _).2 fun y hy => hn'.2.2 y hy x (by simp)⟩, srt_good r (pre ++ [x]) (by rw [List.append_assoc]; exact hs) (by rw [List.append_assoc]; exact hn) fun y hy => h y (by simp [hy])⟩
    unfold lastA
    cases e : pre.getLast? with
    | none => rfl
    | some y => exact hs'.2.2 y (List.mem_of_getLast? e) x (by simp)
/-- Postings of good words. -/
def PostW (t : Int) (l : List DPosting) : Prop := postOk t (-1) l = true ∨ l = []
theorem ent_post (t : Int) : ∀ (es : List DEntry) (last : ByteArray), entOk t last es = true → ∀ s, PostW t (findL s es)
  | [], last, _, s => .inr (by simp [findL])
  | (y, m) :: r, last, hk, s => by
    rw [entOk] at hk
    simp only [Bool.and_eq_true] at hk
    rw [findL]
    split
    · exact .inl hk.1.2
    · exact ent_post t r y hk.2 s
theorem good_post {t : Int} {es : List DEntry} (h : fGoodWords (t, es) = true) (s : ByteArray) : PostW t (findL s es) := by
  unfold fGoodWords at h
  simp only [Bool.and_eq_true] at h
  exact ent_post t es _ h.2 s
theorem PostW.once {t : Int} {l : List DPosting} (h : PostW t l) : l.Pairwise fun a b => a.1 < b.1 := by
  rcases h with h | rfl
  · exact (rises_once l _ h).2
  · exact List.Pairwise.nil
theorem PostW.len {t : Int} {l : List DPosting} (h : PostW t l) (h0 : 0 ≤ t) : (l.length : Int) ≤ t := by
  rcases h with h | rfl
  · have := post_len l (-1) (by omega) (by omega) h; omega
  · simpa using h0
theorem PostW.at {t : Int} {l : List DPosting} (h : PostW t l) {p : DPosting} (hp : p ∈ l) : (0 ≤ p.1 ∧ p.1 < t) ∧ (1 ≤ p.2 ∧ p.2 ≤ 100) := by
  rcases h with h | rfl
  · exact ⟨postOk_in t l (-1) (by omega) h p hp, post_times l _ h p hp⟩
  · simp at hp
theorem sc_bnd {a b : Int} (h1 : 1 ≤ a) (h2 : a ≤ 100) (h3 : 1 ≤ b) (h4 : b ≤ 41) : 1 ≤ a * b ∧ a * b ≤ 4100 := by
  have h5 : 1 * 1 ≤ a * b := Int.mul_le_mul h1 h3 (by omega) (by omega)
  have h6 : a * b ≤ 100 * 41 := Int.mul_le_mul h2 h4 (by omega) (by omega)
  omega
theorem rkOf_perm {t : Int} {l : List DPosting} (h : PostW t l) : (rkOf t l).Perm (scOf t l.length l) := by
  have := putAll_perm (scOf t l.length l) [] (by simpa using scOf_once t l.length h.once)
  simpa [rkOf] using this
theorem rkOf_srt (t : Int) (l : List DPosting) : Srt (rkOf t l) := putAll_srt _ _ srt_nil
theorem scOf_ok {t : Int} {l : List DPosting} (h : PostW t l) (h0 : 0 ≤ t) (h40 : t ≤ 40) : ∀ x ∈ scOf t l.length l, (1 ≤ x.2 ∧ x.2 ≤ 4100) ∧ (0 ≤ x.1 ∧ x.1 < t) := by
  intro x hx
  unfold scOf at hx
  obtain ⟨p, hp, rfl⟩ := List.mem_map.1 hx
  have h1 := h.at hp
  have h2 := h.len h0
  have h3 := sc_bnd h1.2.1 h1.2.2 (b := t - l.length + 1) (by omega) (by omega)
  exact ⟨h3, h1.1⟩
theorem rkOf_good {t : Int} {l : List DPosting} (h : PostW t l) (h0 : 0 ≤ t) (h40 : t ≤ 40) : rkGood (rkOf t l) = true := by
  have hp := rkOf_perm h
  unfold rkGood
  simp only [Bool.and_eq_true, decide_eq_true_eq]
  refine ⟨srt_good _ [] (by simpa using rkOf_srt t l) ?_ fun x hx => ?_, ?_⟩
  · have := scOf_once t l.length h.once
    have h2 : NoTwice (rkOf t l) := List.Perm.pairwise hp.symm this (fun {a b} h => fun e => h e.symm)
    simpa using h2
  · have := scOf_ok h h0 h40 x (hp.mem_iff.1 hx)
    unfold scOk
    simp
    omega
  · have h1 := hp.length_eq
    have h2 := h.len h0
    simp [scOf] at h1
    omega
/-- No word twice. -/
def unlike : List ByteArray → List ByteArray → Bool
  | _, [] => true
  | pre, s :: r => (isWordB s && !pre.any (fun y => decide (y = s))) && unlike (pre ++ [s]) r
theorem un_drop {l : List ByteArray} {k : Nat} {x : ByteArray} (h : l[k]? = some x) : unlike (l.take k) (l.drop k) = ((isWordB x && !(l.take k).any (fun y => decide (y = x))) && unlike (l.take (k + 1)) (l.drop (k + 1))) := by
  have hk := (List.getElem?_eq_some_iff.1 h)
  rw [List.drop_eq_getElem_cons hk.1, hk.2, unlike, List.take_add_one, h]
  rfl
def fDistinct (ws : List ByteArray) : Bool := unlike [] ws && decide (ws.length ≤ 5)
/-- The words' rankings. -/
def rksOf (x : DWords) (ws : List ByteArray) : List DRanking := ws.map fun s => rkOf x.1 (findL s x.2)
/-- RankingsFor. -/
def fRankingsFor (x : DWords) (ws : List ByteArray) : List DRanking × Bool := if (fGoodWords x && fDistinct ws) = true then (rksOf x ws, true) else ([], false)
/-- ScoreOf. -/
def fScoreOf (x : DWords) (ws : List ByteArray) (t : Int) : Int × Bool := if ((fGoodWords x && fDistinct ws) && decide (0 ≤ t ∧ t ≤ x.1 - 1)) = true then (sumL (rksOf x ws) t, true) else (0, false)
/-- RankTexts. -/
def fRankTexts (x : DWords) (ws : List ByteArray) (k : Int) : List DScored × Bool := if ((fGoodWords x && fDistinct ws) && decide (0 ≤ k ∧ k ≤ 60)) = true then ((allD (rksOf x ws)).take k.toNat, true) else ([], false)
theorem rks_good {x : DWords} {ws : List ByteArray} (h : fGoodWords x = true) (h2 : fDistinct ws = true) : fGoodRankings (rksOf x ws) = true := by
  obtain ⟨t, es⟩ := x
  have h3 := good_texts h
  unfold fDistinct at h2
  simp only [Bool.and_eq_true, decide_eq_true_eq] at h2
  unfold fGoodRankings rksOf
  simp only [Bool.and_eq_true, List.all_eq_true, decide_eq_true_eq]
  refine ⟨fun r hr => ?_, by simpa using h2.2⟩
  obtain ⟨s, _, rfl⟩ := List.mem_map.1 hr
  exact rkOf_good (good_post h s) h3.1 h3.2
end Go.Proofs.Ytikgcgfigcolmaa
