/- Rows of nodes of one's own; trees whose names are as many as their parts. -/
import Derived.Test.YtnmbnebofbdmfaaGreatDoorTreeD0
import Derived.Test.YtnmbnebofbdmfaaGreatDoorTrBld
import Derived.Test.YtnmbnebofbdmfaaGreatDoorQuote
namespace Go.Proofs.YtnmbnebofbdmfaaGreatDoor
open Go.RowKit
set_option linter.unusedVariables false

theorem infoNode5 : (Tryz.prog.info? 49).map (fun i => (i.zero, i.size, i.bytes)) = some (some (.agg #[.int .i64 0, .int .i64 0, .string ⟨#[]⟩, .string ⟨#[]⟩, .int .i64 0]), 5, 56) := by kernel_rfl

/-- The cells of nodes in a row. -/
def ndCells (l : List Nd) : List Value := l.flatMap fun x => [.int .i64 x.kind, .int .i64 x.num, .string x.text, .string x.name, .int .i64 x.up]
theorem nd_snoc (l : List Nd) (x : Nd) : ndCells (l ++ [x]) = ndCells l ++ [.int .i64 x.kind, .int .i64 x.num, .string x.text, .string x.name, .int .i64 x.up] := by simp [ndCells]
def OwnsN (w : World) (B : Nat) (v : Value) (l : List Nd) : Prop := w.ownsRow B 49 5 v l.length (ndCells l)

mutual
/-- In each map there is a name for each part. -/
def Tr.named : Tr → Prop
  | .mk k _ _ nm ks => (k = 7 → nm.length = ks.length) ∧ Tr.nameds ks
def Tr.nameds : List Tr → Prop
  | [] => True
  | t :: ts => t.named ∧ Tr.nameds ts
end
theorem Tr.nameds_mem {l : List Tr} : Tr.nameds l ↔ ∀ t ∈ l, t.named := by
  induction l with
  | nil => simp [Tr.nameds]
  | cons a l ih => rw [Tr.nameds, ih]; simp

/-- A tree opened, its rows in blocks of S. -/
theorem TreeIs.open {w : World} {S : Nat → Prop} {k n : Int} {t : ByteArray} {nm : List ByteArray} {ks : List Tr} {v : Value} (h : TreeIs w S (.mk k n t nm ks) v) :
    ∃ an cn ak ck, v = .agg #[.int .i64 k, .int .i64 n, .string t, .slice an nm.length cn, .slice ak ks.length ck] ∧ NamsAt w S an nm ∧
      (ks = [] ∨ ∃ g, ak = some ⟨g, 0, none⟩ ∧ S g ∧ g < w.heap.size ∧ ∀ i x, ks[i]? = some x → KidAt w S x g i) := by
  rw [TreeIs] at h
  obtain ⟨an, cn, ak, ck, rfl, hn, hks, _⟩ := h
  refine ⟨an, cn, ak, ck, rfl, hn, ?_⟩
  rcases hks with h | ⟨g, rfl, h1, h2, h3⟩
  · exact .inl h
  · refine .inr ⟨g, rfl, h1, h2, fun i x hx => ?_⟩
    have := kidsAt_iff.1 h3 i x hx
    rwa [Nat.zero_add] at this
theorem KidAt.cellsS {w : World} {S : Nat → Prop} {x : Tr} {g i : Nat} (h : KidAt w S x g i) : ∃ an cn ak ck, w.cell? ⟨g, i * 5, none⟩ = some (.int .i64 x.kind) ∧ w.cell? ⟨g, i * 5 + 1, none⟩ = some (.int .i64 x.num) ∧ w.cell? ⟨g, i * 5 + 2, none⟩ = some (.string x.text) ∧
    w.cell? ⟨g, i * 5 + 3, none⟩ = some (.slice an x.names.length cn) ∧ w.cell? ⟨g, i * 5 + 4, none⟩ = some (.slice ak x.kids.length ck) ∧ TreeIs w S x (.agg #[.int .i64 x.kind, .int .i64 x.num, .string x.text, .slice an x.names.length cn, .slice ak x.kids.length ck]) := by
  obtain ⟨x0, x1, x2, x3, x4, c0, c1, c2, c3, c4, hx⟩ := h
  obtain ⟨k, n, t, nm, ks⟩ := x
  obtain ⟨an, cn, ak, ck, e, _, _⟩ := TreeIs.open (v := .agg #[x0, x1, x2, x3, x4]) hx
  simp only [Value.agg.injEq, Array.mk.injEq, List.cons.injEq, and_true] at e
  obtain ⟨rfl, rfl, rfl, rfl, rfl⟩ := e
  exact ⟨an, cn, ak, ck, c0, c1, c2, c3, c4, hx⟩

theorem nd_news (W : World) (x : Nd) (T : TypeId) (H : Nat) (hH : W.heap.size = H) : ∀ (j : Nat) (u : Value), [Value.int .i64 x.kind, .int .i64 x.num, .string x.text, .string x.name, .int .i64 x.up][j]? = some u → (W.alloc (.cells #[.int .i64 x.kind, .int .i64 x.num, .string x.text, .string x.name, .int .i64 x.up] T)).cell? ((⟨H, 0, none⟩ : Addr).add j) = some u := by
  intro j u h
  subst hH
  have e : (⟨W.heap.size, 0, none⟩ : Addr).add j = ⟨W.heap.size, j, none⟩ := by unfold Addr.add; split <;> simp_all
  rw [e, World.cell?_alloc_new]
  simpa using h
theorem nd_one (k n u : Int) (t m : ByteArray) : ∀ x : Value, x ∈ [Value.int .i64 k, .int .i64 n, .string t, .string m, .int .i64 u] → x.oneCell' = true := by
  intro x hx
  simp at hx
  rcases hx with rfl | rfl | rfl | rfl | rfl <;> rfl

/-- The row is where it was, or in a new block from H on. -/
def Moved (H : Nat) (lv lv' : Value) : Prop := lv'.ownBlock = lv.ownBlock ∨ ∃ g, lv'.ownBlock = some g ∧ H ≤ g
theorem Moved.ne {H k : Nat} {lv lv' : Value} (h : Moved H lv lv') (hk : k < H) (hn : some k ≠ lv.ownBlock) : some k ≠ lv'.ownBlock := fun e => by
  rcases h with h | ⟨g, h, hg⟩
  · rw [h] at e; exact hn e
  · rw [h] at e; injection e with e; omega
theorem grown_on {w wr w2 : World} {lv q : Value} (h : w.grownBy wr lv.ownBlock) (hm : Moved w.heap.size lv q) (k : wr.grownBy w2 q.ownBlock) : w.grownBy w2 lv.ownBlock :=
  ⟨k.os.trans h.os, k.tape.trans h.tape, k.output.trans h.output, Nat.le_trans h.size k.size, fun b hb hn => (k.block b (Nat.lt_of_lt_of_le hb h.size) (hm.ne hb hn)).trans (h.block b hb hn)⟩

theorem OwnsN.form {w : World} {B : Nat} {v : Value} {l : List Nd} (h : OwnsN w B v l) : ∃ a c, v = .slice a l.length c := by
  rcases h.2 with ⟨rfl, e⟩ | ⟨g, cap, cur, rfl, _⟩
  · exact ⟨none, 0, by rw [e]⟩
  · exact ⟨_, _, rfl⟩

end Go.Proofs.YtnmbnebofbdmfaaGreatDoor
