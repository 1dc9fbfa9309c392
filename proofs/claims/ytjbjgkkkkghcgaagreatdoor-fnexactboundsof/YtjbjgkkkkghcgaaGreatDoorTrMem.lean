/- How a tree lies in memory. -/
import Derived.Test.YtjbjgkkkkghcgaaGreatDoorBase
import Derived.Test.YtjbjgkkkkghcgaaGreatDoorTr
namespace Go.Proofs.YtjbjgkkkkghcgaaGreatDoor
open Go.RowKit
set_option linter.unusedVariables false

/-- Texts in a row, in a block of S. -/
def NamsAt (w : World) (S : Nat → Prop) (a : Option Addr) (l : List ByteArray) : Prop :=
  l = [] ∨ ∃ g, a = some ⟨g, 0, none⟩ ∧ S g ∧ g < w.heap.size ∧ ∀ j, j < l.length → w.cell? ⟨g, j, none⟩ = some (.string (l.getD j ByteArray.empty))

/-- Nothing, or a row from the head of a block on. -/
def PN (a : Option Addr) (c : Nat) : Prop := (a = none ∧ c = 0) ∨ ∃ g, a = some ⟨g, 0, none⟩
theorem own_pn {w : World} {B m c z : Nat} {e : TypeId} {a : Option Addr} {xs : List Value} (h : w.ownsRow B e z (.slice a m c) m xs) : PN a c := by
  rcases h.2 with ⟨h1, _⟩ | ⟨g, cap, cur, h1, _⟩
  · simp only [Value.slice.injEq] at h1
    exact .inl ⟨h1.1, h1.2.2⟩
  · simp only [Value.slice.injEq] at h1
    exact .inr ⟨g, h1.1⟩

mutual
/-- The value v is the tree, its rows in blocks of S. -/
def TreeIs (w : World) (S : Nat → Prop) : Tr → Value → Prop
  | .mk k n t nm ks, v => ∃ an cn ak ck, v = .agg #[.int .i64 k, .int .i64 n, .string t, .slice an nm.length cn, .slice ak ks.length ck] ∧ NamsAt w S an nm ∧
      (ks = [] ∨ ∃ g, ak = some ⟨g, 0, none⟩ ∧ S g ∧ g < w.heap.size ∧ KidsAt w S ks g 0) ∧ nm.length ≤ cn ∧ ks.length ≤ ck ∧ PN an cn ∧ PN ak ck
def KidsAt (w : World) (S : Nat → Prop) : List Tr → Nat → Nat → Prop
  | [], _, _ => True
  | t :: ts, g, j => (∃ x0 x1 x2 x3 x4, w.cell? ⟨g, j * 5, none⟩ = some x0 ∧ w.cell? ⟨g, j * 5 + 1, none⟩ = some x1 ∧ w.cell? ⟨g, j * 5 + 2, none⟩ = some x2 ∧ w.cell? ⟨g, j * 5 + 3, none⟩ = some x3 ∧ w.cell? ⟨g, j * 5 + 4, none⟩ = some x4 ∧
      TreeIs w S t (.agg #[x0, x1, x2, x3, x4])) ∧ KidsAt w S ts g (j + 1)
end

/-- One part of a row. -/
def KidAt (w : World) (S : Nat → Prop) (t : Tr) (g j : Nat) : Prop := ∃ x0 x1 x2 x3 x4, w.cell? ⟨g, j * 5, none⟩ = some x0 ∧ w.cell? ⟨g, j * 5 + 1, none⟩ = some x1 ∧ w.cell? ⟨g, j * 5 + 2, none⟩ = some x2 ∧ w.cell? ⟨g, j * 5 + 3, none⟩ = some x3 ∧ w.cell? ⟨g, j * 5 + 4, none⟩ = some x4 ∧
      TreeIs w S t (.agg #[x0, x1, x2, x3, x4])

theorem kidsAt_iff {w : World} {S : Nat → Prop} {ks : List Tr} {g : Nat} : ∀ {j : Nat}, KidsAt w S ks g j ↔ ∀ i t, ks[i]? = some t → KidAt w S t g (j + i) := by
  induction ks with
  | nil => intro j; simp [KidsAt]
  | cons a ks ih =>
    intro j
    rw [KidsAt, ih]
    constructor
    · rintro ⟨h, hs⟩ i t ht
      cases i with
      | zero =>
        simp at ht
        subst ht
        exact h
      | succ i =>
        have := hs i t (by simpa using ht)
        rwa [show j + 1 + i = j + (i + 1) by omega] at this
    · intro h
      refine ⟨h 0 a (by simp), fun i t ht => ?_⟩
      have := h (i + 1) t (by simpa using ht)
      rwa [show j + (i + 1) = j + 1 + i by omega] at this

theorem NamsAt.keep {w w' : World} {S S' : Nat → Prop} {a : Option Addr} {l : List ByteArray} (hk : ∀ b, S b → b < w.heap.size → w'.heap[b]? = w.heap[b]?) (hS : ∀ b, S b → b < w.heap.size → S' b) (hz : w.heap.size ≤ w'.heap.size) (h : NamsAt w S a l) : NamsAt w' S' a l := by
  rcases h with h | ⟨g, rfl, h1, h2, h3⟩
  · exact .inl h
  · exact .inr ⟨g, rfl, hS g h1 h2, by omega, fun j hj => (World.cell?_of_block (hk g h1 h2)).trans (h3 j hj)⟩

theorem TreeIs.keep {w w' : World} {S S' : Nat → Prop} (hk : ∀ b, S b → b < w.heap.size → w'.heap[b]? = w.heap[b]?) (hS : ∀ b, S b → b < w.heap.size → S' b) (hz : w.heap.size ≤ w'.heap.size) (t : Tr) : ∀ v, TreeIs w S t v → TreeIs w' S' t v := by
  refine Tr.ind (P := fun t => ∀ v, TreeIs w S t v → TreeIs w' S' t v) (fun k n t nm ks ih => ?_) t
  rintro v h
  rw [TreeIs] at h ⊢
  obtain ⟨an, cn, ak, ck, rfl, hn, hks, hcap⟩ := h
  refine ⟨an, cn, ak, ck, rfl, hn.keep hk hS hz, ?_, hcap⟩
  rcases hks with h | ⟨g, rfl, h1, h2, h3⟩
  · exact .inl h
  · refine .inr ⟨g, rfl, hS g h1 h2, by omega, kidsAt_iff.2 fun i t ht => ?_⟩
    obtain ⟨x0, x1, x2, x3, x4, c0, c1, c2, c3, c4, hx⟩ := kidsAt_iff.1 h3 i t ht
    have e : ∀ o, w'.cell? ⟨g, o, none⟩ = w.cell? ⟨g, o, none⟩ := fun o => World.cell?_of_block (hk g h1 h2)
    exact ⟨x0, x1, x2, x3, x4, (e _).trans c0, (e _).trans c1, (e _).trans c2, (e _).trans c3, (e _).trans c4, ih t (List.mem_of_getElem? ht) _ hx⟩

theorem KidAt.keep {w w' : World} {S S' : Nat → Prop} {t : Tr} {g j : Nat} (hk : ∀ b, S b → b < w.heap.size → w'.heap[b]? = w.heap[b]?) (hS : ∀ b, S b → b < w.heap.size → S' b) (hz : w.heap.size ≤ w'.heap.size) (he : w'.heap[g]? = w.heap[g]?) (h : KidAt w S t g j) : KidAt w' S' t g j := by
  obtain ⟨x0, x1, x2, x3, x4, c0, c1, c2, c3, c4, hx⟩ := h
  have e : ∀ o, w'.cell? ⟨g, o, none⟩ = w.cell? ⟨g, o, none⟩ := fun o => World.cell?_of_block he
  exact ⟨x0, x1, x2, x3, x4, (e _).trans c0, (e _).trans c1, (e _).trans c2, (e _).trans c3, (e _).trans c4, TreeIs.keep hk hS hz t _ hx⟩

/-- A tree that may lie anywhere. -/
def Tree (w : World) (t : Tr) (v : Value) : Prop := TreeIs w (fun _ => True) t v
theorem Tree.below {w w' : World} {t : Tr} {v : Value} (h : Tree w t v) (hb : Below w.heap.size w w') : Tree w' t v :=
  TreeIs.keep (fun b _ hlt => hb.block b hlt) (fun _ _ _ => trivial) hb.size t v h
theorem TreeIs.any {w : World} {S : Nat → Prop} {t : Tr} {v : Value} (h : TreeIs w S t v) : Tree w t v :=
  TreeIs.keep (fun _ _ _ => rfl) (fun _ _ _ => trivial) (Nat.le_refl _) t v h

/-- A tree opened. -/
theorem Tree.open {w : World} {k n : Int} {t : ByteArray} {nm : List ByteArray} {ks : List Tr} {v : Value} (h : Tree w (.mk k n t nm ks) v) :
    ∃ an cn ak ck, v = .agg #[.int .i64 k, .int .i64 n, .string t, .slice an nm.length cn, .slice ak ks.length ck] ∧ NamsAt w (fun _ => True) an nm ∧
      (ks = [] ∨ ∃ g, ak = some ⟨g, 0, none⟩ ∧ g < w.heap.size ∧ ∀ i x, ks[i]? = some x → KidAt w (fun _ => True) x g i) := by
  unfold Tree at h
  rw [TreeIs] at h
  obtain ⟨an, cn, ak, ck, rfl, hn, hks, _⟩ := h
  refine ⟨an, cn, ak, ck, rfl, hn, ?_⟩
  rcases hks with h | ⟨g, rfl, _, h2, h3⟩
  · exact .inl h
  · refine .inr ⟨g, rfl, h2, fun i x hx => ?_⟩
    have := kidsAt_iff.1 h3 i x hx
    rwa [Nat.zero_add] at this

/-- Its rows have room for what they hold. -/
theorem TreeIs.caps {w : World} {S : Nat → Prop} {t : Tr} {x0 x1 x2 : Value} {an ak : Option Addr} {mn cn mk ck : Nat} (h : TreeIs w S t (.agg #[x0, x1, x2, .slice an mn cn, .slice ak mk ck])) : t.names.length ≤ cn ∧ t.kids.length ≤ ck := by
  obtain ⟨k, n, t, nm, ks⟩ := t
  rw [TreeIs] at h
  obtain ⟨an', cn', ak', ck', e, _, _, hcap⟩ := h
  simp only [Value.agg.injEq, Array.mk.injEq, List.cons.injEq, and_true, Value.slice.injEq] at e
  obtain ⟨_, _, _, ⟨_, _, rfl⟩, _, _, rfl⟩ := e
  exact ⟨hcap.1, hcap.2.1⟩
theorem TreeIs.pns {w : World} {S : Nat → Prop} {t : Tr} {x0 x1 x2 : Value} {an ak : Option Addr} {mn cn mk ck : Nat} (h : TreeIs w S t (.agg #[x0, x1, x2, .slice an mn cn, .slice ak mk ck])) : PN an cn ∧ PN ak ck := by
  obtain ⟨k, n, t, nm, ks⟩ := t
  rw [TreeIs] at h
  obtain ⟨an', cn', ak', ck', e, _, _, hcap⟩ := h
  simp only [Value.agg.injEq, Array.mk.injEq, List.cons.injEq, and_true, Value.slice.injEq] at e
  obtain ⟨_, _, _, ⟨rfl, _, rfl⟩, rfl, _, rfl⟩ := e
  exact hcap.2.2

/-- A part in a row, cell by cell. -/
theorem KidAt.cells {w : World} {x : Tr} {g i : Nat} (h : KidAt w (fun _ => True) x g i) : ∃ an cn ak ck, w.cell? ⟨g, i * 5, none⟩ = some (.int .i64 x.kind) ∧ w.cell? ⟨g, i * 5 + 1, none⟩ = some (.int .i64 x.num) ∧ w.cell? ⟨g, i * 5 + 2, none⟩ = some (.string x.text) ∧
    w.cell? ⟨g, i * 5 + 3, none⟩ = some (.slice an x.names.length cn) ∧ w.cell? ⟨g, i * 5 + 4, none⟩ = some (.slice ak x.kids.length ck) ∧ Tree w x (.agg #[.int .i64 x.kind, .int .i64 x.num, .string x.text, .slice an x.names.length cn, .slice ak x.kids.length ck]) := by
  obtain ⟨x0, x1, x2, x3, x4, c0, c1, c2, c3, c4, hx⟩ := h
  obtain ⟨k, n, t, nm, ks⟩ := x
  obtain ⟨an, cn, ak, ck, e, _, _⟩ := Tree.open (v := .agg #[x0, x1, x2, x3, x4]) hx
  simp only [Value.agg.injEq, Array.mk.injEq, List.cons.injEq, and_true] at e
  obtain ⟨rfl, rfl, rfl, rfl, rfl⟩ := e
  exact ⟨an, cn, ak, ck, c0, c1, c2, c3, c4, hx⟩

end Go.Proofs.YtjbjgkkkkghcgaaGreatDoor
