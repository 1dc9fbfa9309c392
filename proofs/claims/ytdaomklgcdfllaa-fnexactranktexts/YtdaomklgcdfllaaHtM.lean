/- How many of the words each text has: the mathematics, and the marks in memory. No condition. -/
import Derived.Test.YtdaomklgcdfllaaLoS
import Derived.Test.YtdaomklgcdfllaaKSint
import Derived.Test.YtdaomklgcdfllaaKSstring
namespace Go.Proofs.Ytdaomklgcdfllaa
open Go.RowKit
set_option linter.unusedVariables false

/-- One more at each text of a list. -/
def addL : List Int → List DPosting → List Int
  | M, [] => M
  | M, p :: r => addL (M.modify p.1.toNat (· + 1)) r
/-- The marks of all words, where they are words. -/
def markL (es : List DEntry) : List Int → List ByteArray → Option (List Int)
  | M, [] => some M
  | M, s :: r => if isWordB s = true then markL es (addL M (findL s es)) r else none
/-- How many of the words each text has. -/
def fMarks (x : DWords) (ws : List ByteArray) : Option (List Int) := if (fGoodWords x && decide (ws.length ≤ 20)) = true then markL x.2 (List.replicate x.1.toNat 0) ws else none

def BndM (M : List Int) (b : Int) : Prop := ∀ x ∈ M, 0 ≤ x ∧ x ≤ b
theorem BndM.mono {M : List Int} {b c : Int} (h : BndM M b) (hb : b ≤ c) : BndM M c := fun x hx => ⟨(h x hx).1, Int.le_trans (h x hx).2 hb⟩
theorem BndM.at {M : List Int} {b : Int} (h : BndM M b) {i : Nat} {x : Int} (hx : M[i]? = some x) : 0 ≤ x ∧ x ≤ b := h x (List.mem_of_getElem? hx)
theorem BndM.step {M : List Int} {b : Int} (h : BndM M b) (i : Nat) : BndM (M.modify i (· + 1)) (b + 1) := by
  intro x hx
  obtain ⟨j, hj⟩ := List.getElem?_of_mem hx
  rw [List.getElem?_modify] at hj
  cases e : M[j]? with
  | none => rw [e] at hj; simp at hj
  | some y =>
    rw [e] at hj
    have hy := h.at e
    simp at hj
    split at hj <;> omega
theorem BndM.zero (n : Nat) : BndM (List.replicate n 0) 0 := fun x hx => by
  obtain ⟨_, rfl⟩ := List.mem_replicate.1 hx
  omega
/-- Texts of a list are texts. -/
def InT (t : Int) (l : List DPosting) : Prop := ∀ p ∈ l, 0 ≤ p.1 ∧ p.1 < t

/-- Marks in memory. -/
def MkAt (w : World) (g : Nat) (M : List Int) : Prop := g < w.heap.size ∧ ∀ i x, M[i]? = some x → w.cell? ⟨g, i, none⟩ = some (.int .i64 x) ∧ w.frozen? ⟨g, i, none⟩ = false
theorem MkAt.below {w w' : World} {g : Nat} {M : List Int} (h : MkAt w g M) (hb : Below w.heap.size w w') : MkAt w' g M :=
  ⟨Nat.lt_of_lt_of_le h.1 hb.size, fun i x hx => by
    rw [World.cell?_of_block (w := w) (hb.block g h.1), World.frozen?_of_block (w := w) (hb.block g h.1)]
    exact h.2 i x hx⟩
theorem MkAt.put {w : World} {g i : Nat} {M : List Int} {x : Int} (h : MkAt w g M) (hx : M[i]? = some x) : MkAt (w.setCell ⟨g, i, none⟩ (.int .i64 (x + 1))) g (M.modify i (· + 1)) := by
  refine ⟨by simpa using h.1, fun j y hy => ?_⟩
  rw [List.getElem?_modify] at hy
  by_cases e : i = j
  · subst e
    rw [hx] at hy
    simp at hy
    rw [← hy]
    exact ⟨set_same (h.2 i x hx).1, frozen_set (h.2 i x hx).2⟩
  · cases e2 : M[j]? with
    | none => rw [e2] at hy; simp at hy
    | some z =>
      rw [e2] at hy
      simp [e] at hy
      rw [← hy]
      exact ⟨set_other (h.2 j z e2).1 e, frozen_set (h.2 j z e2).2⟩
theorem kept_set (w : World) (g o : Nat) (v : Value) : KeptO (fun k => k = g) w (w.setCell ⟨g, o, none⟩ v) := ⟨rfl, rfl, rfl, by simp, fun k hk hn => heap_set_ne hn⟩
theorem MkAt.row {w : World} {g n : Nat} {M : List Int} (h : MkAt w g M) (hn : n = M.length) {b : Int} (hb : BndM M b) (hb2 : b ≤ 2 ^ 40) (hm : M.length ≤ 2 ^ 30) {S : Nat → Prop} (hS : S g) : (kRow kInt).is true w S [.slice (some ⟨g, 0, none⟩) n n] M := by
  subst hn
  refine ⟨_, _, rfl, by unfold maxLen; omega, fun _ => Nat.le_refl _, .inr ⟨g, 0, fun _ _ => False, fun i => [.int .i64 ((M[i]?).getD 0)], rfl, h.1, hS, fun i x hx => ?_, fun _ _ _ h => h.elim, fun _ => ⟨fun _ _ h => h, fun _ _ _ _ _ _ h => h.elim⟩⟩⟩
  have hx' := hb.at hx
  simp only [hx, Option.getD_some]
  refine ⟨⟨rfl, by unfold IntOk; omega⟩, fun j v hj => ?_⟩
  match j, hj with
  | 0, hj =>
    obtain rfl : Value.int .i64 x = v := by simpa using hj
    rw [show 0 + i * kInt.wd + 0 = i by show 0 + i * 1 + 0 = i; omega]
    exact ⟨(h.2 i x hx).1, fun _ => (h.2 i x hx).2⟩
theorem addL_len : ∀ (l : List DPosting) (M : List Int), (addL M l).length = M.length
  | [], M => rfl
  | p :: r, M => by rw [addL, addL_len r]; simp
theorem postOk_in (t : Int) : ∀ (l : List DPosting) (last : Int), -1 ≤ last → postOk t last l = true → InT t l
  | [], last, _, _ => fun p hp => by simp at hp
  | (a, b) :: r, last, h0, h => by
    rw [postOk] at h
    simp only [Bool.and_eq_true, decide_eq_true_eq] at h
    intro p hp
    rcases List.mem_cons.1 hp with rfl | hp
    · refine ⟨?_, ?_⟩ <;> (show _; omega)
    · exact postOk_in t r a (by omega) (by first | exact h.2 | omega) p hp
theorem ent_in (t : Int) : ∀ (es : List DEntry) (last : ByteArray), entOk t last es = true → ∀ s, InT t (findL s es)
  | [], last, _, s => fun p hp => by simp [findL] at hp
  | (y, m) :: r, last, hk, s => by
    rw [entOk] at hk
    simp only [Bool.and_eq_true] at hk
    rw [findL]
    split
    · exact postOk_in t m (-1) (by omega) hk.1.2
    · exact ent_in t r y hk.2 s
theorem good_in {t : Int} {es : List DEntry} (h : fGoodWords (t, es) = true) (s : ByteArray) : InT t (findL s es) := by
  unfold fGoodWords at h
  simp only [Bool.and_eq_true] at h
  exact ent_in t es _ h.2 s
theorem good_texts {t : Int} {es : List DEntry} (h : fGoodWords (t, es) = true) : 0 ≤ t ∧ t ≤ 40 := by
  unfold fGoodWords at h
  simp only [Bool.and_eq_true, decide_eq_true_eq] at h
  exact h.1.1
theorem addL_bnd : ∀ (l : List DPosting) (M : List Int) (b : Int), BndM M b → BndM (addL M l) (b + l.length)
  | [], M, b, h => by simpa [addL] using h
  | p :: r, M, b, h => by
    have := addL_bnd r _ (b + 1) (h.step p.1.toNat)
    rw [addL]
    refine this.mono ?_
    simp only [List.length_cons]
    omega
theorem addL_drop {l : List DPosting} {j : Nat} {p : DPosting} (h : l[j]? = some p) (M : List Int) : addL M (l.drop j) = addL (M.modify p.1.toNat (· + 1)) (l.drop (j + 1)) := by
  have hk := (List.getElem?_eq_some_iff.1 h)
  rw [List.drop_eq_getElem_cons hk.1, hk.2, addL]
theorem mark_drop {es : List DEntry} {ws : List ByteArray} {j : Nat} {s : ByteArray} (h : ws[j]? = some s) (M : List Int) : markL es M (ws.drop j) = if isWordB s = true then markL es (addL M (findL s es)) (ws.drop (j + 1)) else none := by
  have hk := (List.getElem?_eq_some_iff.1 h)
  rw [List.drop_eq_getElem_cons hk.1, hk.2, markL]
theorem MkAt.start (w : World) (n : Nat) (T : TypeId) : MkAt (w.alloc (.cells (madeCells #[.int .i64 0] n) T)) w.heap.size (List.replicate n 0) := by
  refine ⟨by simp, fun i x hx => ?_⟩
  obtain ⟨hi, rfl⟩ : i < n ∧ x = 0 := by
    have := List.getElem?_eq_some_iff.1 hx
    simp at this
    omega
  refine ⟨?_, World.frozen?_alloc_new _ _ _ _⟩
  rw [World.cell?_alloc_new]
  simp [madeCells, hi]
  rw [Nat.mod_one]
  rfl
end Go.Proofs.Ytdaomklgcdfllaa
