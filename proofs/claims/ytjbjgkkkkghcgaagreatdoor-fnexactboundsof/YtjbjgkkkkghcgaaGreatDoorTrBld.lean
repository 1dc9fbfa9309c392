/- A tree's rows while they are built: what each append leaves. -/
import Derived.Test.YtjbjgkkkkghcgaaGreatDoorTrMem
import Derived.Deep.AppendLies
namespace Go.Proofs.YtjbjgkkkkghcgaaGreatDoor
open Go.RowKit
set_option linter.unusedVariables false

/-- The five cells of a tree's head. -/
structure Five where
  a : Value
  b : Value
  c : Value
  d : Value
  e : Value
def Five.cells (x : Five) : List Value := [x.a, x.b, x.c, x.d, x.e]
def Five.agg (x : Five) : Value := .agg #[x.a, x.b, x.c, x.d, x.e]
def fiveCells (l : List Five) : List Value := l.flatMap Five.cells

theorem five_len (l : List Five) : (fiveCells l).length = l.length * 5 := by
  induction l with
  | nil => rfl
  | cons x l ih => rw [fiveCells, List.flatMap_cons, List.length_append, ← fiveCells, ih, List.length_cons]; simp [Five.cells]; omega
theorem five_snoc (l : List Five) (x : Five) : fiveCells (l ++ [x]) = fiveCells l ++ x.cells := by simp [fiveCells]
theorem five_get : ∀ (l : List Five) (j : Nat) (x : Five), l[j]? = some x → (fiveCells l)[j * 5]? = some x.a ∧ (fiveCells l)[j * 5 + 1]? = some x.b ∧ (fiveCells l)[j * 5 + 2]? = some x.c ∧ (fiveCells l)[j * 5 + 3]? = some x.d ∧ (fiveCells l)[j * 5 + 4]? = some x.e := by
  intro l
  induction l with
  | nil => intro j x h; simp at h
  | cons y l ih =>
    intro j x h
    have hc : fiveCells (y :: l) = y.cells ++ fiveCells l := by simp [fiveCells]
    rw [hc]
    cases j with
    | zero =>
      simp at h
      subst h
      simp [Five.cells]
    | succ j =>
      obtain ⟨h0, h1, h2, h3, h4⟩ := ih j x (by simpa using h)
      have e : ∀ i, (y.cells ++ fiveCells l)[(j + 1) * 5 + i]? = (fiveCells l)[j * 5 + i]? := fun i => by
        rw [List.getElem?_append_right (by simp [Five.cells]; omega)]
        congr 1
        simp [Five.cells]
        omega
      exact ⟨(e 0).trans h0, (e 1).trans h1, (e 2).trans h2, (e 3).trans h3, (e 4).trans h4⟩

/-- A tree's head is of five cells, each one cell. -/
theorem TreeIs.five {w : World} {S : Nat → Prop} {t : Tr} {v : Value} (h : TreeIs w S t v) : ∃ x : Five, v = x.agg ∧ ∀ u ∈ x.cells, u.oneCell' = true := by
  cases t with
  | mk k n t nm ks =>
    rw [TreeIs] at h
    obtain ⟨an, cn, ak, ck, rfl, _, _⟩ := h
    refine ⟨⟨_, _, _, _, _⟩, rfl, ?_⟩
    intro u hu
    simp [Five.cells] at hu
    rcases hu with rfl | rfl | rfl | rfl | rfl <;> rfl

theorem row_block {w : World} {B : Nat} {e : TypeId} {z : Nat} {v : Value} {n : Nat} {xs : List Value} (h : w.ownsRow B e z v n xs) {w' : World} (hk : ∀ b, B ≤ b → b < w.heap.size → some b = v.ownBlock → w'.heap[b]? = w.heap[b]?) : w'.ownsRow B e z v n xs := by
  refine ⟨h.1, ?_⟩
  rcases h.2 with hn | ⟨g, cap, cur, rfl, hb, hgg, rest⟩
  · exact .inl hn
  · refine .inr ⟨g, cap, cur, rfl, hb, ?_, rest⟩
    rw [hk g hb (Array.getElem?_eq_some_iff.1 hgg).1 rfl]
    exact hgg

/-- Where the parts' own rows may lie. -/
def Away (B : Nat) (nv kv : Value) (b : Nat) : Prop := B ≤ b ∧ some b ≠ nv.ownBlock ∧ some b ≠ kv.ownBlock

structure Bld (w1 wr : World) (B o : Nat) (ts : List Tr) (nms : List ByteArray) (nv kv : Value) (l : List Five) : Prop where
  bb : BelowBut B o w1 wr
  hB : B ≤ wr.heap.size
  names : wr.ownsRow B 9 1 nv nms.length (nms.map .string)
  len : l.length = ts.length
  kids : wr.ownsRow B 69 5 kv ts.length (fiveCells l)
  trees : ∀ (j : Nat) (t : Tr) (x : Five), ts[j]? = some t → l[j]? = some x → TreeIs wr (Away B nv kv) t x.agg
  apart : nv.ownBlock = none ∨ nv.ownBlock ≠ kv.ownBlock

theorem Bld.below {w1 wr w2 : World} {B o : Nat} {ts : List Tr} {nms : List ByteArray} {nv kv : Value} {l : List Five} (h : Bld w1 wr B o ts nms nv kv l) (hb : Below wr.heap.size wr w2) : Bld w1 w2 B o ts nms nv kv l where
  bb := h.bb.trans (BelowBut.of (hb.mono h.hB))
  hB := Nat.le_trans h.hB hb.size
  names := row_block h.names fun b _ hlt _ => hb.block b hlt
  len := h.len
  kids := row_block h.kids fun b _ hlt _ => hb.block b hlt
  trees := fun j t x h1 h2 => TreeIs.keep (fun b _ hlt => hb.block b hlt) (fun _ h _ => h) hb.size t _ (h.trees j t x h1 h2)
  apart := h.apart

theorem Bld.start (w1 : World) (o : Nat) : Bld w1 w1 w1.heap.size o [] [] (.slice none 0 0) (.slice none 0 0) [] where
  bb := BelowBut.refl _ _ _
  hB := Nat.le_refl _
  names := World.ownsRow_nil _ _ _ _
  len := rfl
  kids := World.ownsRow_nil _ _ _ _
  trees := fun j t x h => by simp at h
  apart := .inl rfl

theorem own_lt {w : World} {B : Nat} {e : TypeId} {z : Nat} {v : Value} {n : Nat} {xs : List Value} (h : w.ownsRow B e z v n xs) {b : Nat} (hb : some b = v.ownBlock) : B ≤ b ∧ b < w.heap.size := h.lt b hb.symm

/-- A part is put to the parts. -/
theorem Bld.kid {w1 wr w2 w3 : World} {B o : Nat} {ts : List Tr} {nms : List ByteArray} {nv kv : Value} {l : List Five} {t : Tr} {x : Five} {tmp : Obj} {g cap : Nat} {u : Value}
    (h : Bld w1 wr B o ts nms nv kv l) (ho : o < B) (hb : Below wr.heap.size wr w2) (ht : TreeIs w2 (fun b => wr.heap.size ≤ b) t x.agg)
    (hown : w3.ownsRow B 69 5 (.slice (some ⟨g, 0, none⟩) (ts.length + 1) cap) (ts.length + 1) (fiveCells l ++ x.cells)) (hgrow : (w2.alloc tmp).grownBy w3 kv.ownBlock) (hat : kv.ownBlock = some g ∨ g = (w2.alloc tmp).heap.size) :
    Bld w1 (w3.setCell ⟨o, 4, none⟩ u) B o (ts ++ [t]) nms nv (.slice (some ⟨g, 0, none⟩) (ts.length + 1) cap) (l ++ [x]) := by
  have h2 := h.below hb
  have s1 := hb.size
  have s2 := hgrow.size
  have hB := h.hB
  simp only [World.size_alloc] at s2 hat
  have hset : ∀ b, B ≤ b → (w3.setCell ⟨o, 4, none⟩ u).heap[b]? = w3.heap[b]? := fun b hb' => Below.heap_setCell _ _ _ _ (by show b ≠ o; omega)
  have hold : ∀ b, B ≤ b → b < w2.heap.size → some b ≠ kv.ownBlock → (w3.setCell ⟨o, 4, none⟩ u).heap[b]? = w2.heap[b]? := fun b hb' hlt hne => by
    rw [hset b hb', hgrow.block b (by simp; omega) hne]
    exact heap_alloc_old _ _ hlt
  have hgB : B ≤ g := (hown.lt g rfl).1
  have hng : nv.ownBlock = none ∨ nv.ownBlock ≠ some g := by
    rcases hnb : nv.ownBlock with _ | b
    · exact .inl rfl
    · refine .inr ?_
      have hbl := own_lt h2.names hnb.symm
      rcases hat with e | e
      · rcases h.apart with e2 | e2
        · rw [hnb] at e2; cases e2
        · rw [hnb, e] at e2; exact e2
      · intro e2
        injection e2 with e2
        omega
  have hkeepS : ∀ b, Away B nv kv b → b < w2.heap.size → Away B nv (.slice (some ⟨g, 0, none⟩) (ts.length + 1) cap) b := fun b ⟨a1, a2, a3⟩ hlt => by
    refine ⟨a1, a2, fun e => ?_⟩
    simp only [Value.ownBlock, Option.some.injEq] at e
    rcases hat with e2 | e2
    · rw [e2] at a3; exact a3 (by rw [e])
    · omega
  refine ⟨?_, ?_, ?_, ?_, ?_, ?_, ?_⟩
  · refine ((h2.bb.trans (BelowBut.of (b := o) ((Below.refl _ _).alloc (by omega) tmp))).trans ⟨hgrow.os, hgrow.tape, hgrow.output, hgrow.size, fun b hb' hne => ?_⟩).trans (BelowBut.setCell _ _ _)
    refine hgrow.block b (by simp; omega) fun e => ?_
    have := own_lt h2.kids e
    omega
  · simp; omega
  · refine row_block h2.names fun b h1 hlt e => hold b h1 hlt fun e2 => ?_
    rcases h.apart with e3 | e3
    · rw [e3] at e; cases e
    · exact e3 (e.symm.trans e2)
  · simp [h.len]
  · rw [five_snoc, List.length_append, List.length_singleton]
    exact row_block hown fun b h1 _ _ => hset b h1
  · intro j t' x' h1 h3
    by_cases hj : j < ts.length
    · rw [List.getElem?_append_left hj] at h1
      rw [List.getElem?_append_left (by rw [h.len]; exact hj)] at h3
      exact TreeIs.keep (fun b hS hlt => hold b hS.1 hlt hS.2.2) hkeepS (by simp; omega) t' _ (h2.trees j t' x' h1 h3)
    · have hjt : j = ts.length := by
        have := (List.getElem?_eq_some_iff.1 h1).1
        simp at this
        omega
      subst hjt
      rw [List.getElem?_append_right (Nat.le_refl _)] at h1
      rw [List.getElem?_append_right (by rw [h.len]; exact Nat.le_refl _)] at h3
      simp at h1
      simp [h.len] at h3
      subst h1
      subst h3
      have haway : ∀ b, wr.heap.size ≤ b → b < w2.heap.size → Away B nv kv b := fun b hb' _ => by
        refine ⟨by omega, fun e => ?_, fun e => ?_⟩
        · have := own_lt h.names e; omega
        · have := own_lt h.kids e; omega
      exact TreeIs.keep (fun b hS hlt => hold b (by omega) hlt (haway b hS hlt).2.2) (fun b hS hlt => hkeepS b (haway b hS hlt) hlt) (by simp; omega) t _ ht
  · exact hng

/-- A name is put to the names. -/
theorem Bld.name {w1 wr w3 : World} {B o : Nat} {ts : List Tr} {nms : List ByteArray} {nv kv : Value} {l : List Five} {s : ByteArray} {tmp : Obj} {g cap : Nat} {u : Value}
    (h : Bld w1 wr B o ts nms nv kv l) (ho : o < B)
    (hown : w3.ownsRow B 9 1 (.slice (some ⟨g, 0, none⟩) (nms.length + 1) cap) (nms.length + 1) (nms.map .string ++ [.string s])) (hgrow : (wr.alloc tmp).grownBy w3 nv.ownBlock) (hat : nv.ownBlock = some g ∨ g = (wr.alloc tmp).heap.size) :
    Bld w1 (w3.setCell ⟨o, 3, none⟩ u) B o ts (nms ++ [s]) (.slice (some ⟨g, 0, none⟩) (nms.length + 1) cap) kv l := by
  have s2 := hgrow.size
  have hB := h.hB
  simp only [World.size_alloc] at s2 hat
  have hset : ∀ b, B ≤ b → (w3.setCell ⟨o, 3, none⟩ u).heap[b]? = w3.heap[b]? := fun b hb' => Below.heap_setCell _ _ _ _ (by show b ≠ o; omega)
  have hold : ∀ b, B ≤ b → b < wr.heap.size → some b ≠ nv.ownBlock → (w3.setCell ⟨o, 3, none⟩ u).heap[b]? = wr.heap[b]? := fun b hb' hlt hne => by
    rw [hset b hb', hgrow.block b (by simp; omega) hne]
    exact heap_alloc_old _ _ hlt
  have hgB : B ≤ g := (hown.lt g rfl).1
  have hkg : some g ≠ kv.ownBlock := fun e => by
    have hbl := own_lt h.kids e
    rcases hat with e2 | e2
    · rcases h.apart with e3 | e3
      · rw [e2] at e3; cases e3
      · exact e3 (e2.trans e)
    · omega
  have hkn : ∀ b, some b = kv.ownBlock → some b ≠ nv.ownBlock := fun b e e2 => by
    rcases h.apart with e3 | e3
    · rw [e3] at e2; cases e2
    · exact e3 (e2.symm.trans e)
  have hkeepS : ∀ b, Away B nv kv b → b < wr.heap.size → Away B (.slice (some ⟨g, 0, none⟩) (nms.length + 1) cap) kv b := fun b ⟨a1, a2, a3⟩ hlt => by
    refine ⟨a1, fun e => ?_, a3⟩
    simp only [Value.ownBlock, Option.some.injEq] at e
    rcases hat with e2 | e2
    · rw [e2] at a2; exact a2 (by rw [e])
    · omega
  refine ⟨?_, ?_, ?_, h.len, ?_, ?_, ?_⟩
  · refine ((h.bb.trans (BelowBut.of (b := o) ((Below.refl _ _).alloc (by omega) tmp))).trans ⟨hgrow.os, hgrow.tape, hgrow.output, hgrow.size, fun b hb' hne => ?_⟩).trans (BelowBut.setCell _ _ _)
    refine hgrow.block b (by simp; omega) fun e => ?_
    have := own_lt h.names e
    omega
  · simp; omega
  · rw [List.map_append, List.map_cons, List.map_nil, List.length_append, List.length_singleton]
    exact row_block hown fun b h1 _ _ => hset b h1
  · exact row_block h.kids fun b h1 hlt e => hold b h1 hlt (hkn b e)
  · intro j t' x' h1 h3
    exact TreeIs.keep (fun b hS hlt => hold b hS.1 hlt hS.2.1) hkeepS (by simp; omega) t' _ (h.trees j t' x' h1 h3)
  · exact .inr hkg

/-- What is built is a tree. -/
theorem Bld.tree {w1 wr : World} {B o : Nat} {ts : List Tr} {nms : List ByteArray} {nv kv : Value} {l : List Five} (h : Bld w1 wr B o ts nms nv kv l) (k n : Int) (t : ByteArray) {S : Nat → Prop} (hS : ∀ b, B ≤ b → S b) :
    TreeIs wr S (.mk k n t nms ts) (.agg #[.int .i64 k, .int .i64 n, .string t, nv, kv]) := by
  rw [TreeIs]
  have hn := h.names
  have hk := h.kids
  have hnc := @World.ownsRow.cells _ _ _ _ _ _ _ hn
  have hkc := @World.ownsRow.cells _ _ _ _ _ _ _ hk
  have hadd : ∀ g j : Nat, (⟨g, 0, none⟩ : Addr).add j = ⟨g, j, none⟩ := fun g j => by unfold Addr.add; split <;> simp_all
  have en : ∃ an cn, nv = .slice an nms.length cn ∧ NamsAt wr S an nms ∧ nms.length ≤ cn ∧ PN an cn := by
    rcases hn.2 with ⟨e, e0⟩ | ⟨g, cap, cur, e, hg, _, hle, _⟩
    · refine ⟨none, 0, by rw [e, e0], .inl (by simpa using e0), by rw [e0]; exact Nat.le_refl _, .inl ⟨rfl, rfl⟩⟩
    · refine ⟨_, _, e, .inr ⟨g, rfl, hS g hg, (own_lt hn (by rw [e]; rfl)).2, fun j hj => ?_⟩, hle, .inr ⟨g, rfl⟩⟩
      have := hnc (g := g) (by rw [e]; rfl) j (.string (nms.getD j ByteArray.empty)) (by simp [List.getElem?_eq_getElem hj, List.getD_eq_getElem?_getD])
      rwa [hadd] at this
  have ek : ∃ ak ck, kv = .slice ak ts.length ck ∧ (ts = [] ∨ ∃ g, ak = some ⟨g, 0, none⟩ ∧ S g ∧ g < wr.heap.size ∧ KidsAt wr S ts g 0) ∧ ts.length ≤ ck ∧ PN ak ck := by
    rcases hk.2 with ⟨e, e0⟩ | ⟨g, cap, cur, e, hg, _, hle, _⟩
    · refine ⟨none, 0, by rw [e, e0], .inl (by simpa using e0), by rw [e0]; exact Nat.le_refl _, .inl ⟨rfl, rfl⟩⟩
    · refine ⟨_, _, e, .inr ⟨g, rfl, hS g hg, (own_lt hk (by rw [e]; rfl)).2, kidsAt_iff.2 fun j t ht => ?_⟩, hle, .inr ⟨g, rfl⟩⟩
      have hj : j < l.length := by rw [h.len]; exact (List.getElem?_eq_some_iff.1 ht).1
      obtain ⟨x, hx⟩ : ∃ x, l[j]? = some x := ⟨l[j], List.getElem?_eq_getElem hj⟩
      obtain ⟨c0, c1, c2, c3, c4⟩ := five_get l j x hx
      have hc := fun i u hu => (hadd g i) ▸ hkc (g := g) (by rw [e]; rfl) i u hu
      rw [Nat.zero_add]
      exact ⟨x.a, x.b, x.c, x.d, x.e, hc _ _ c0, hc _ _ c1, hc _ _ c2, hc _ _ c3, hc _ _ c4, TreeIs.keep (fun _ _ _ => rfl) (fun b hb _ => hS b hb.1) (Nat.le_refl _) t _ (h.trees j t x ht hx)⟩
  obtain ⟨an, cn, e1, hn', hc1, hp1⟩ := en
  obtain ⟨ak, ck, e2, hk', hc2, hp2⟩ := ek
  exact ⟨an, cn, ak, ck, by rw [e1, e2], hn', hk', hc1, hc2, hp1, hp2⟩

end Go.Proofs.YtjbjgkkkkghcgaaGreatDoor
