/- A tree with another part in a place: the specification's l3With. -/
import Derived.Test.YtbjifclgifkjmaaDoorFiveM
import Derived.Test.YtbjifclgifkjmaaDoorTrBld
import Derived.Test.YtbjifclgifkjmaaDoorTreeF0
import Derived.Test.YtbjifclgifkjmaaDoorOwnP
import Derived.Deep.DeepCutAuto
namespace Go.Proofs.YtbjifclgifkjmaaDoor
open Go.RowKit
set_option linter.unusedVariables false

/-- The parts' heads in a row. -/
theorem kids_list {w : World} {S : Nat → Prop} {ks : List Tr} {g : Nat} : ∀ {j : Nat}, KidsAt w S ks g j → ∃ l : List Five, l.length = ks.length ∧ (∀ (i : Nat) (f : Five), l[i]? = some f → w.cell? ⟨g, (j + i) * 5, none⟩ = some f.a ∧ w.cell? ⟨g, (j + i) * 5 + 1, none⟩ = some f.b ∧ w.cell? ⟨g, (j + i) * 5 + 2, none⟩ = some f.c ∧ w.cell? ⟨g, (j + i) * 5 + 3, none⟩ = some f.d ∧ w.cell? ⟨g, (j + i) * 5 + 4, none⟩ = some f.e) ∧
    (∀ (i : Nat) (x : Tr), ks[i]? = some x → ∃ f, l[i]? = some f ∧ TreeIs w S x f.agg) ∧ ∀ u ∈ fiveCells l, u.oneCell' = true := by
  induction ks with
  | nil => intro j _; exact ⟨[], rfl, fun i f h => by simp at h, fun i x h => by simp at h, fun u hu => by simp [fiveCells] at hu⟩
  | cons t ks ih =>
    intro j h
    rw [KidsAt] at h
    obtain ⟨⟨x0, x1, x2, x3, x4, c0, c1, c2, c3, c4, ht⟩, hr⟩ := h
    obtain ⟨l, hl, hc, hT, ho⟩ := ih hr
    obtain ⟨x, hx, hone⟩ := ht.five
    simp only [Five.agg, Value.agg.injEq, Array.mk.injEq, List.cons.injEq, and_true] at hx
    obtain ⟨rfl, rfl, rfl, rfl, rfl⟩ := hx
    refine ⟨x :: l, by simp [hl], fun i f hf => ?_, fun i y hy => ?_, fun u hu => ?_⟩
    · cases i with
      | zero => simp at hf; subst hf; exact ⟨c0, c1, c2, c3, c4⟩
      | succ i =>
        have := hc i f (by simpa using hf)
        rwa [show j + 1 + i = j + (i + 1) by omega] at this
    · cases i with
      | zero => simp at hy; subst hy; exact ⟨x, rfl, ht⟩
      | succ i => exact hT i y (by simpa using hy)
    · rw [show fiveCells (x :: l) = x.cells ++ fiveCells l by simp [fiveCells]] at hu
      rcases List.mem_append.1 hu with hu | hu
      · exact hone u hu
      · exact ho u hu

/-- The cells of a row of heads, one by one. -/
theorem five_at {w : World} {g o : Nat} {l : List Five} (h : ∀ (i : Nat) (f : Five), l[i]? = some f → w.cell? ⟨g, (o + i) * 5, none⟩ = some f.a ∧ w.cell? ⟨g, (o + i) * 5 + 1, none⟩ = some f.b ∧ w.cell? ⟨g, (o + i) * 5 + 2, none⟩ = some f.c ∧ w.cell? ⟨g, (o + i) * 5 + 3, none⟩ = some f.d ∧ w.cell? ⟨g, (o + i) * 5 + 4, none⟩ = some f.e) :
    ∀ (q : Nat) (u : Value), (fiveCells l)[q]? = some u → w.cell? ((⟨g, o * 5, none⟩ : Addr).add q) = some u := by
  intro q u hu
  have hlt := (List.getElem?_eq_some_iff.1 hu).1
  rw [five_len] at hlt
  obtain ⟨m, r, hq, hr⟩ : ∃ m r, q = m * 5 + r ∧ r < 5 := ⟨q / 5, q % 5, by omega, Nat.mod_lt _ (by omega)⟩
  obtain ⟨f, hf⟩ : ∃ f, l[m]? = some f := ⟨_, List.getElem?_eq_getElem (show m < l.length by omega)⟩
  obtain ⟨h0, h1, h2, h3, h4⟩ := five_get l m f hf
  obtain ⟨c0, c1, c2, c3, c4⟩ := h m f hf
  have ea : (⟨g, o * 5, none⟩ : Addr).add q = ⟨g, (o + m) * 5 + r, none⟩ := by
    have : (⟨g, o * 5, none⟩ : Addr).add q = ⟨g, o * 5 + q, none⟩ := by unfold Addr.add; split <;> simp_all
    rw [this, hq, show o * 5 + (m * 5 + r) = (o + m) * 5 + r by omega]
  rw [ea]
  rw [hq] at hu
  match r, hr with
  | 0, _ => exact c0.trans (h0.symm.trans hu)
  | 1, _ => exact c1.trans (h1.symm.trans hu)
  | 2, _ => exact c2.trans (h2.symm.trans hu)
  | 3, _ => exact c3.trans (h3.symm.trans hu)
  | 4, _ => exact c4.trans (h4.symm.trans hu)

/-- A list that is made and is empty. -/

theorem FiveAt.grown {w w' : World} {B : Nat} {row : Option Nat} {x0 x1 x2 x3 x4 : Value} (h : FiveAt w B x0 x1 x2 x3 x4) (hg : w.grownBy w' row) (hlt : B < w.heap.size) (hne : some B ≠ row) : FiveAt w' B x0 x1 x2 x3 x4 := by
  have e : ∀ o, w'.cell? ⟨B, o, none⟩ = w.cell? ⟨B, o, none⟩ := fun o => World.cell?_of_block (hg.block B hlt hne)
  have f : ∀ o, w'.frozen? ⟨B, o, none⟩ = w.frozen? ⟨B, o, none⟩ := fun o => World.frozen?_of_block (hg.block B hlt hne)
  obtain ⟨⟨a0, a1, a2, a3, a4⟩, f0, f1, f2, f3, f4⟩ := h
  exact ⟨⟨(e _).trans a0, (e _).trans a1, (e _).trans a2, (e _).trans a3, (e _).trans a4⟩, (f _).trans f0, (f _).trans f1, (f _).trans f2, (f _).trans f3, (f _).trans f4⟩

/-- A row of heads that may be written. -/
def RowAt (w : World) (g : Nat) (l : List Five) : Prop := (∀ (i : Nat) (f : Five), l[i]? = some f → w.cell? ⟨g, i * 5, none⟩ = some f.a ∧ w.cell? ⟨g, i * 5 + 1, none⟩ = some f.b ∧ w.cell? ⟨g, i * 5 + 2, none⟩ = some f.c ∧ w.cell? ⟨g, i * 5 + 3, none⟩ = some f.d ∧ w.cell? ⟨g, i * 5 + 4, none⟩ = some f.e) ∧ ∀ o, w.frozen? ⟨g, o, none⟩ = false
theorem row_at {w : World} {B cap : Nat} {g : Nat} {l : List Five} (h : w.ownsRow B 41 5 (.slice (some ⟨g, 0, none⟩) l.length cap) l.length (fiveCells l)) : RowAt w g l := by
  have hcells := @World.ownsRow.cells _ _ _ _ _ _ _ h
  refine ⟨fun i f hf => ?_, fun o => ?_⟩
  · obtain ⟨h0, h1, h2, h3, h4⟩ := five_get l i f hf
    have q : ∀ (j : Nat) (u : Value), (fiveCells l)[j]? = some u → w.cell? ⟨g, j, none⟩ = some u := fun j u hu => by
      have := hcells (g := g) rfl j u hu
      rwa [show ((⟨g, 0, none⟩ : Addr).add j) = ⟨g, j, none⟩ by unfold Addr.add; split <;> simp_all] at this
    exact ⟨q _ _ h0, q _ _ h1, q _ _ h2, q _ _ h3, q _ _ h4⟩
  · rcases h.2 with ⟨e, _⟩ | ⟨g', cap', cur, e, _, hh, _⟩
    · simp at e
    · obtain ⟨rfl, _⟩ : g = g' ∧ _ := by simpa using e
      simp [World.frozen?, hh]
theorem RowAt.but {w w' : World} {g C Z : Nat} {l : List Five} (h : RowAt w g l) (hb : BelowBut Z C w w') (hZ : g < Z) (hne : g ≠ C) : RowAt w' g l :=
  ⟨fun i f hf => by
    obtain ⟨c0, c1, c2, c3, c4⟩ := h.1 i f hf
    exact ⟨(hb.cell hZ hne).trans c0, (hb.cell hZ hne).trans c1, (hb.cell hZ hne).trans c2, (hb.cell hZ hne).trans c3, (hb.cell hZ hne).trans c4⟩, fun o => (hb.frozen hZ hne).trans (h.2 o)⟩
theorem RowAt.set {w : World} {g i : Nat} {l : List Five} (h : RowAt w g l) (hi : i < l.length) (y : Five) :
    RowAt (((((w.setCell ⟨g, i * 5, none⟩ y.a).setCell ⟨g, i * 5 + 1, none⟩ y.b).setCell ⟨g, i * 5 + 2, none⟩ y.c).setCell ⟨g, i * 5 + 3, none⟩ y.d).setCell ⟨g, i * 5 + 4, none⟩ y.e) g (l.set i y) ∧ ∀ Z, BelowBut Z g w (((((w.setCell ⟨g, i * 5, none⟩ y.a).setCell ⟨g, i * 5 + 1, none⟩ y.b).setCell ⟨g, i * 5 + 2, none⟩ y.c).setCell ⟨g, i * 5 + 3, none⟩ y.d).setCell ⟨g, i * 5 + 4, none⟩ y.e) := by
  obtain ⟨a0, a1, a2, a3, a4⟩ := h.1 i l[i] (List.getElem?_eq_getElem hi)
  have p : ∀ o, (((((w.setCell ⟨g, i * 5, none⟩ y.a).setCell ⟨g, i * 5 + 1, none⟩ y.b).setCell ⟨g, i * 5 + 2, none⟩ y.c).setCell ⟨g, i * 5 + 3, none⟩ y.d).setCell ⟨g, i * 5 + 4, none⟩ y.e).cell? ⟨g, o, none⟩ =
      if o = i * 5 + 4 then some y.e else if o = i * 5 + 3 then some y.d else if o = i * 5 + 2 then some y.c else if o = i * 5 + 1 then some y.b else if o = i * 5 then some y.a else w.cell? ⟨g, o, none⟩ := fun o => by
    have e0 : (w.cell? ⟨g, i * 5, none⟩).isSome = true := by rw [a0]; rfl
    have e1 : ((w.setCell ⟨g, i * 5, none⟩ y.a).cell? ⟨g, i * 5 + 1, none⟩).isSome = true := by rw [cell_set e0, if_neg (by omega), a1]; rfl
    have e2 : (((w.setCell ⟨g, i * 5, none⟩ y.a).setCell ⟨g, i * 5 + 1, none⟩ y.b).cell? ⟨g, i * 5 + 2, none⟩).isSome = true := by rw [cell_set e1, if_neg (by omega), cell_set e0, if_neg (by omega), a2]; rfl
    have e3 : ((((w.setCell ⟨g, i * 5, none⟩ y.a).setCell ⟨g, i * 5 + 1, none⟩ y.b).setCell ⟨g, i * 5 + 2, none⟩ y.c).cell? ⟨g, i * 5 + 3, none⟩).isSome = true := by rw [cell_set e2, if_neg (by omega), cell_set e1, if_neg (by omega), cell_set e0, if_neg (by omega), a3]; rfl
    have e4 : (((((w.setCell ⟨g, i * 5, none⟩ y.a).setCell ⟨g, i * 5 + 1, none⟩ y.b).setCell ⟨g, i * 5 + 2, none⟩ y.c).setCell ⟨g, i * 5 + 3, none⟩ y.d).cell? ⟨g, i * 5 + 4, none⟩).isSome = true := by rw [cell_set e3, if_neg (by omega), cell_set e2, if_neg (by omega), cell_set e1, if_neg (by omega), cell_set e0, if_neg (by omega), a4]; rfl
    rw [cell_set e4, cell_set e3, cell_set e2, cell_set e1, cell_set e0]
  refine ⟨⟨fun j f hf => ?_, fun o => ?_⟩, fun Z => ?_⟩
  · simp only [p]
    by_cases e : j = i
    · subst e
      rw [List.getElem?_set_self hi] at hf
      obtain rfl := Option.some.inj hf
      simp
    · rw [List.getElem?_set_ne (fun h => e h.symm)] at hf
      obtain ⟨c0, c1, c2, c3, c4⟩ := h.1 j f hf
      refine ⟨?_, ?_, ?_, ?_, ?_⟩
      · rw [if_neg (by omega), if_neg (by omega), if_neg (by omega), if_neg (by omega), if_neg (by omega), c0]
      · rw [if_neg (by omega), if_neg (by omega), if_neg (by omega), if_neg (by omega), if_neg (by omega), c1]
      · rw [if_neg (by omega), if_neg (by omega), if_neg (by omega), if_neg (by omega), if_neg (by omega), c2]
      · rw [if_neg (by omega), if_neg (by omega), if_neg (by omega), if_neg (by omega), if_neg (by omega), c3]
      · rw [if_neg (by omega), if_neg (by omega), if_neg (by omega), if_neg (by omega), if_neg (by omega), c4]
  · simp only [World.frozen?_setCell]
    exact h.2 o
  · exact ((((BelowBut.setCell w _ _).trans (BelowBut.setCell _ _ _)).trans (BelowBut.setCell _ _ _)).trans (BelowBut.setCell _ _ _)).trans (BelowBut.setCell _ _ _)

/-- A tree out of a row of heads. -/
theorem tree_row {w : World} {S : Nat → Prop} {k n : Int} {tx : ByteArray} {nm : List ByteArray} {ks : List Tr} {an : Option Addr} {cn g ck : Nat} {l : List Five} (hg : g < w.heap.size) (hSg : S g) (hn : NamsAt w S an nm) (hr : RowAt w g l) (hl : l.length = ks.length) (hT : ∀ (i : Nat) (x : Tr) (f : Five), ks[i]? = some x → l[i]? = some f → TreeIs w S x f.agg) (hcn : nm.length ≤ cn) (hck : ks.length ≤ ck) (hpn : PN an cn) :
    TreeIs w S (.mk k n tx nm ks) (.agg #[.int .i64 k, .int .i64 n, .string tx, .slice an nm.length cn, .slice (some ⟨g, 0, none⟩) ks.length ck]) := by
  rw [TreeIs]
  refine ⟨an, cn, _, ck, rfl, hn, .inr ⟨g, rfl, hSg, hg, kidsAt_iff.2 fun i x hx => ?_⟩, hcn, hck, hpn, .inr ⟨g, rfl⟩⟩
  have hi : i < l.length := by rw [hl]; exact (List.getElem?_eq_some_iff.1 hx).1
  obtain ⟨c0, c1, c2, c3, c4⟩ := hr.1 i l[i] (List.getElem?_eq_getElem hi)
  rw [Nat.zero_add]
  exact ⟨_, _, _, _, _, c0, c1, c2, c3, c4, hT i x l[i] hx (List.getElem?_eq_getElem hi)⟩

theorem far_row (b g : Nat) (h : b ≠ g) {n c : Nat} : some b ≠ (Value.slice (some ⟨g, 0, none⟩) n c).ownBlock := fun e => by
  simp only [Value.ownBlock, Option.some.injEq] at e
  exact h e

theorem infoV : (Tryd.prog.info? 41).map (fun i => (i.zero, i.size, i.bytes)) = some (some (.agg #[.int .i64 0, .int .i64 0, .string ⟨#[]⟩, .slice none 0 0, .slice none 0 0]), 5, 80) := by kernel_rfl

theorem FiveAt.set4 {w : World} {B : Nat} {x0 x1 x2 x3 x4 : Value} (h : FiveAt w B x0 x1 x2 x3 x4) (y : Value) : FiveAt (w.setCell ⟨B, 4, none⟩ y) B x0 x1 x2 x3 y := by
  obtain ⟨⟨a0, a1, a2, a3, a4⟩, f0, f1, f2, f3, f4⟩ := h
  have e : (w.cell? ⟨B, 4, none⟩).isSome = true := by rw [a4]; rfl
  refine ⟨⟨?_, ?_, ?_, ?_, ?_⟩, ?_⟩
  · rw [cell_set e, if_neg (by omega), a0]
  · rw [cell_set e, if_neg (by omega), a1]
  · rw [cell_set e, if_neg (by omega), a2]
  · rw [cell_set e, if_neg (by omega), a3]
  · rw [cell_set e, if_pos rfl]
  · simp only [World.frozen?_setCell]
    exact ⟨f0, f1, f2, f3, f4⟩

/-- What lies in memory behind the append. -/
theorem with_facts {w W1 w2 : World} {k0 k1 k2 k3 k4 z0 z1 z2 z3 z4 : Value} {y : Five} {g2 cap2 : Nat} {l : List Five} {rw_ : Value} (hs1 : W1.heap.size = w.heap.size + 4) (hV : FiveAt W1 w.heap.size k0 k1 k2 k3 k4) (hX : FiveAt W1 (w.heap.size + 1) y.a y.b y.c y.d y.e) (hZ : FiveAt W1 (w.heap.size + 1 + 1) z0 z1 z2 z3 z4)
    (hown : w2.ownsRow (w.heap.size + 3) 41 5 (.slice (some ⟨g2, 0, none⟩) l.length cap2) l.length (fiveCells l)) (hgrow : W1.grownBy w2 (Value.slice (some ⟨w.heap.size + 1 + 1 + 1, 0, none⟩) 0 0).ownBlock) (hB1 : Below w.heap.size w W1) :
    FiveAt (w2.setCell ⟨w.heap.size, 4, none⟩ rw_) w.heap.size k0 k1 k2 k3 rw_ ∧ FiveAt (w2.setCell ⟨w.heap.size, 4, none⟩ rw_) (w.heap.size + 1) y.a y.b y.c y.d y.e ∧ FiveAt (w2.setCell ⟨w.heap.size, 4, none⟩ rw_) (w.heap.size + 1 + 1) z0 z1 z2 z3 z4 ∧ RowAt (w2.setCell ⟨w.heap.size, 4, none⟩ rw_) g2 l ∧ w.heap.size + 4 ≤ (w2.setCell ⟨w.heap.size, 4, none⟩ rw_).heap.size ∧ (w.heap.size + 3 ≤ g2 ∧ g2 < (w2.setCell ⟨w.heap.size, 4, none⟩ rw_).heap.size) ∧ Below w.heap.size w (w2.setCell ⟨w.heap.size, 4, none⟩ rw_) := by
  have hz2 := hgrow.size
  have hlt := hown.lt g2 rfl
  have b4 : ∀ Z, BelowBut Z w.heap.size w2 (w2.setCell ⟨w.heap.size, 4, none⟩ rw_) := fun Z => BelowBut.setCell _ _ _
  have hsz : (w2.setCell ⟨w.heap.size, 4, none⟩ rw_).heap.size = w2.heap.size := by simp [World.setCell]
  refine ⟨(hV.grown hgrow (by omega) (far_row _ _ (by omega))).set4 _, (hX.grown hgrow (by omega) (far_row _ _ (by omega))).but (b4 w2.heap.size) (by omega) (by omega), (hZ.grown hgrow (by omega) (far_row _ _ (by omega))).but (b4 w2.heap.size) (by omega) (by omega), (row_at hown).but (b4 w2.heap.size) hlt.2 (by omega), by omega, ⟨hlt.1, by omega⟩, ?_⟩
  refine Below.trans (hB1.grown hgrow (by omega) (fun k hk => ?_)) ((b4 w.heap.size).below (Nat.le_refl _) (Nat.le_refl _))
  simp only [Value.ownBlock, Option.some.injEq] at hk
  omega

def withK : Tr → Nat → Tr → Tr
  | .mk k n t nm ks, i, x => .mk k n t nm (ks.set i x)

end Go.Proofs.YtbjifclgifkjmaaDoor
