/- A tree with another part in a place: the specification's l3With. A tree without one of its parts: the specification's l3Cut. -/
import Derived.Test.YtcceaadidnmdaaaGreatDoorL3G0
import Derived.Test.YtcceaadidnmdaaaGreatDoorTrBld
import Derived.Test.YtcceaadidnmdaaaGreatDoorTreeF
import Derived.Deep.DeepCutAuto
import Derived.Deep.RegionLaw
import Derived.Deep.AppendLies
import Derived.Maps.AppendAt
namespace Go.Proofs.YtcceaadidnmdaaaGreatDoor
open Go.RowKit
set_option linter.unusedVariables false

/-- The parts' heads in a row. -/
theorem kids_list {w : World} {S : Nat → Prop} {ks : List Tr} {g : Nat} : ∀ {j : Nat}, KidsAt w S ks g j → ∃ l : List Five, l.length = ks.length ∧ (∀ (i : Nat) (f : Five), l[i]? = some f → w.cell? ⟨g, (j + i) * 5, none⟩ = some f.a ∧ w.cell? ⟨g, (j + i) * 5 + 1, none⟩ = some f.b ∧ w.cell? ⟨g, (j + i) * 5 + 2, none⟩ = some f.c ∧ w.cell? ⟨g, (j + i) * 5 + 3, none⟩ = some f.d ∧ w.cell? ⟨g, (j + i) * 5 + 4, none⟩ = some f.e) ∧
    (∀ (i : Nat) (x : Tr), ks[i]? = some x → ∃ f, l[i]? = some f ∧ TreeIs w S x f.agg) ∧ ∀ u ∈ fiveCells l, u.oneCell' = true := by
  induction ks with
  | nil => intro j _; exact ⟨[], rfl, fun i f h => by simp at h, fun i x h => by simp at h, fun u hu => by simp [fiveCells] at hu⟩
  | cons t ks ih =>
    intro j h
    rw [KidsAt] at h
    obtain ⟨⟨x0, x1, x2, x3, x4, c0, c1, c2, c3, c4, ht⟩, hr⟩ := h
    obtain ⟨l, hl, hc, hT, ho⟩ := ih hr
    obtain ⟨x, hx, hone⟩ := ht.five
    simp only [Five.agg, Value.agg.injEq, Array.mk.injEq, List.cons.injEq, and_true] at hx
    obtain ⟨rfl, rfl, rfl, rfl, rfl⟩ := hx
    refine ⟨x :: l, by simp [hl], fun i f hf => ?_, fun i y hy => ?_, fun u hu => ?_⟩
    · cases i with
      | zero => simp at hf; subst hf; exact ⟨c0, c1, c2, c3, c4⟩
      | succ i =>
        have := hc i f (by simpa using hf)
        rwa [show j + 1 + i = j + (i + 1) by omega] at this
    · cases i with
      | zero => simp at hy; subst hy; exact ⟨x, rfl, ht⟩
      | succ i => exact hT i y (by simpa using hy)
    · rw [show fiveCells (x :: l) = x.cells ++ fiveCells l by simp [fiveCells]] at hu
      rcases List.mem_append.1 hu with hu | hu
      · exact hone u hu
      · exact ho u hu

/-- The cells of a row of heads, one by one. -/
theorem five_at {w : World} {g o : Nat} {l : List Five} (h : ∀ (i : Nat) (f : Five), l[i]? = some f → w.cell? ⟨g, (o + i) * 5, none⟩ = some f.a ∧ w.cell? ⟨g, (o + i) * 5 + 1, none⟩ = some f.b ∧ w.cell? ⟨g, (o + i) * 5 + 2, none⟩ = some f.c ∧ w.cell? ⟨g, (o + i) * 5 + 3, none⟩ = some f.d ∧ w.cell? ⟨g, (o + i) * 5 + 4, none⟩ = some f.e) :
    ∀ (q : Nat) (u : Value), (fiveCells l)[q]? = some u → w.cell? ((⟨g, o * 5, none⟩ : Addr).add q) = some u := by
  intro q u hu
  have hlt := (List.getElem?_eq_some_iff.1 hu).1
  rw [five_len] at hlt
  obtain ⟨m, r, hq, hr⟩ : ∃ m r, q = m * 5 + r ∧ r < 5 := ⟨q / 5, q % 5, by omega, Nat.mod_lt _ (by omega)⟩
  obtain ⟨f, hf⟩ : ∃ f, l[m]? = some f := ⟨_, List.getElem?_eq_getElem (show m < l.length by omega)⟩
  obtain ⟨h0, h1, h2, h3, h4⟩ := five_get l m f hf
  obtain ⟨c0, c1, c2, c3, c4⟩ := h m f hf
  have ea : (⟨g, o * 5, none⟩ : Addr).add q = ⟨g, (o + m) * 5 + r, none⟩ := by
    have : (⟨g, o * 5, none⟩ : Addr).add q = ⟨g, o * 5 + q, none⟩ := by unfold Addr.add; split <;> simp_all
    rw [this, hq, show o * 5 + (m * 5 + r) = (o + m) * 5 + r by omega]
  rw [ea]
  rw [hq] at hu
  match r, hr with
  | 0, _ => exact c0.trans (h0.symm.trans hu)
  | 1, _ => exact c1.trans (h1.symm.trans hu)
  | 2, _ => exact c2.trans (h2.symm.trans hu)
  | 3, _ => exact c3.trans (h3.symm.trans hu)
  | 4, _ => exact c4.trans (h4.symm.trans hu)

/-- A list that is made and is empty. -/
theorem own_empty (W : World) (e : TypeId) (size B : Nat) (hB : B ≤ W.heap.size) : (W.alloc (.cells #[] e)).ownsRow B e size (.slice (some ⟨W.heap.size, 0, none⟩) 0 0) 0 [] :=
  ⟨by simp, .inr ⟨W.heap.size, 0, #[], rfl, hB, World.alloc_heap_new W _, Nat.le_refl _, Nat.zero_le _, by simp, by simp⟩⟩

theorem FiveAt.grown {w w' : World} {B : Nat} {row : Option Nat} {x0 x1 x2 x3 x4 : Value} (h : FiveAt w B x0 x1 x2 x3 x4) (hg : w.grownBy w' row) (hlt : B < w.heap.size) (hne : some B ≠ row) : FiveAt w' B x0 x1 x2 x3 x4 := by
  have e : ∀ o, w'.cell? ⟨B, o, none⟩ = w.cell? ⟨B, o, none⟩ := fun o => World.cell?_of_block (hg.block B hlt hne)
  have f : ∀ o, w'.frozen? ⟨B, o, none⟩ = w.frozen? ⟨B, o, none⟩ := fun o => World.frozen?_of_block (hg.block B hlt hne)
  obtain ⟨⟨a0, a1, a2, a3, a4⟩, f0, f1, f2, f3, f4⟩ := h
  exact ⟨⟨(e _).trans a0, (e _).trans a1, (e _).trans a2, (e _).trans a3, (e _).trans a4⟩, (f _).trans f0, (f _).trans f1, (f _).trans f2, (f _).trans f3, (f _).trans f4⟩

/-- A row of heads that may be written. -/
def RowAt (w : World) (g : Nat) (l : List Five) : Prop := (∀ (i : Nat) (f : Five), l[i]? = some f → w.cell? ⟨g, i * 5, none⟩ = some f.a ∧ w.cell? ⟨g, i * 5 + 1, none⟩ = some f.b ∧ w.cell? ⟨g, i * 5 + 2, none⟩ = some f.c ∧ w.cell? ⟨g, i * 5 + 3, none⟩ = some f.d ∧ w.cell? ⟨g, i * 5 + 4, none⟩ = some f.e) ∧ ∀ o, w.frozen? ⟨g, o, none⟩ = false
theorem row_at {w : World} {B cap : Nat} {g : Nat} {l : List Five} (h : w.ownsRow B 44 5 (.slice (some ⟨g, 0, none⟩) l.length cap) l.length (fiveCells l)) : RowAt w g l := by
  have hcells := @World.ownsRow.cells _ _ _ _ _ _ _ h
  refine ⟨fun i f hf => ?_, fun o => ?_⟩
  · obtain ⟨h0, h1, h2, h3, h4⟩ := five_get l i f hf
    have q : ∀ (j : Nat) (u : Value), (fiveCells l)[j]? = some u → w.cell? ⟨g, j, none⟩ = some u := fun j u hu => by
      have := hcells (g := g) rfl j u hu
      rwa [show ((⟨g, 0, none⟩ : Addr).add j) = ⟨g, j, none⟩ by unfold Addr.add; split <;> simp_all] at this
    exact ⟨q _ _ h0, q _ _ h1, q _ _ h2, q _ _ h3, q _ _ h4⟩
  · rcases h.2 with ⟨e, _⟩ | ⟨g', cap', cur, e, _, hh, _⟩
    · simp at e
    · obtain ⟨rfl, _⟩ : g = g' ∧ _ := by simpa using e
      simp [World.frozen?, hh]
theorem RowAt.but {w w' : World} {g C Z : Nat} {l : List Five} (h : RowAt w g l) (hb : BelowBut Z C w w') (hZ : g < Z) (hne : g ≠ C) : RowAt w' g l :=
  ⟨fun i f hf => by
    obtain ⟨c0, c1, c2, c3, c4⟩ := h.1 i f hf
    exact ⟨(hb.cell hZ hne).trans c0, (hb.cell hZ hne).trans c1, (hb.cell hZ hne).trans c2, (hb.cell hZ hne).trans c3, (hb.cell hZ hne).trans c4⟩, fun o => (hb.frozen hZ hne).trans (h.2 o)⟩
theorem RowAt.set {w : World} {g i : Nat} {l : List Five} (h : RowAt w g l) (hi : i < l.length) (y : Five) :
    RowAt (((((w.setCell ⟨g, i * 5, none⟩ y.a).setCell ⟨g, i * 5 + 1, none⟩ y.b).setCell ⟨g, i * 5 + 2, none⟩ y.c).setCell ⟨g, i * 5 + 3, none⟩ y.d).setCell ⟨g, i * 5 + 4, none⟩ y.e) g (l.set i y) ∧ ∀ Z, BelowBut Z g w (((((w.setCell ⟨g, i * 5, none⟩ y.a).setCell ⟨g, i * 5 + 1, none⟩ y.b).setCell ⟨g, i * 5 + 2, none⟩ y.c).setCell ⟨g, i * 5 + 3, none⟩ y.d).setCell ⟨g, i * 5 + 4, none⟩ y.e) := by
  obtain ⟨a0, a1, a2, a3, a4⟩ := h.1 i l[i] (List.getElem?_eq_getElem hi)
  have p : ∀ o, (((((w.setCell ⟨g, i * 5, none⟩ y.a).setCell ⟨g, i * 5 + 1, none⟩ y.b).setCell ⟨g, i * 5 + 2, none⟩ y.c).setCell ⟨g, i * 5 + 3, none⟩ y.d).setCell ⟨g, i * 5 + 4, none⟩ y.e).cell? ⟨g, o, none⟩ =
      if o = i * 5 + 4 then some y.e else if o = i * 5 + 3 then some y.d else if o = i * 5 + 2 then some y.c else if o = i * 5 + 1 then some y.b else if o = i * 5 then some y.a else w.cell? ⟨g, o, none⟩ := fun o => by
    have e0 : (w.cell? ⟨g, i * 5, none⟩).isSome = true := by rw [a0]; rfl
    have e1 : ((w.setCell ⟨g, i * 5, none⟩ y.a).cell? ⟨g, i * 5 + 1, none⟩).isSome = true := by rw [cell_set e0, if_neg (by omega), a1]; rfl
    have e2 : (((w.setCell ⟨g, i * 5, none⟩ y.a).setCell ⟨g, i * 5 + 1, none⟩ y.b).cell? ⟨g, i * 5 + 2, none⟩).isSome = true := by rw [cell_set e1, if_neg (by omega), cell_set e0, if_neg (by omega), a2]; rfl
    have e3 : ((((w.setCell ⟨g, i * 5, none⟩ y.a).setCell ⟨g, i * 5 + 1, none⟩ y.b).setCell ⟨g, i * 5 + 2, none⟩ y.c).cell? ⟨g, i * 5 + 3, none⟩).isSome = true := by rw [cell_set e2, if_neg (by omega), cell_set e1, if_neg (by omega), cell_set e0, if_neg (by omega), a3]; rfl
    have e4 : (((((w.setCell ⟨g, i * 5, none⟩ y.a).setCell ⟨g, i * 5 + 1, none⟩ y.b).setCell ⟨g, i * 5 + 2, none⟩ y.c).setCell ⟨g, i * 5 + 3, none⟩ y.d).cell? ⟨g, i * 5 + 4, none⟩).isSome = true := by rw [cell_set e3, if_neg (by omega), cell_set e2, if_neg (by omega), cell_set e1, if_neg (by omega), cell_set e0, if_neg (by omega), a4]; rfl
    rw [cell_set e4, cell_set e3, cell_set e2, cell_set e1, cell_set e0]
  refine ⟨⟨fun j f hf => ?_, fun o => ?_⟩, fun Z => ?_⟩
  · simp only [p]
    by_cases e : j = i
    · subst e
      rw [List.getElem?_set_self hi] at hf
      obtain rfl := Option.some.inj hf
      simp
    · rw [List.getElem?_set_ne (fun h => e h.symm)] at hf
      obtain ⟨c0, c1, c2, c3, c4⟩ := h.1 j f hf
      refine ⟨?_, ?_, ?_, ?_, ?_⟩
      · rw [if_neg (by omega), if_neg (by omega), if_neg (by omega), if_neg (by omega), if_neg (by omega), c0]
      · rw [if_neg (by omega), if_neg (by omega), if_neg (by omega), if_neg (by omega), if_neg (by omega), c1]
      · rw [if_neg (by omega), if_neg (by omega), if_neg (by omega), if_neg (by omega), if_neg (by omega), c2]
      · rw [if_neg (by omega), if_neg (by omega), if_neg (by omega), if_neg (by omega), if_neg (by omega), c3]
      · rw [if_neg (by omega), if_neg (by omega), if_neg (by omega), if_neg (by omega), if_neg (by omega), c4]
  · simp only [World.frozen?_setCell]
    exact h.2 o
  · exact ((((BelowBut.setCell w _ _).trans (BelowBut.setCell _ _ _)).trans (BelowBut.setCell _ _ _)).trans (BelowBut.setCell _ _ _)).trans (BelowBut.setCell _ _ _)

/-- A tree out of a row of heads. -/
theorem tree_row {w : World} {S : Nat → Prop} {k n : Int} {tx : ByteArray} {nm : List ByteArray} {ks : List Tr} {an : Option Addr} {cn g ck : Nat} {l : List Five} (hg : g < w.heap.size) (hSg : S g) (hn : NamsAt w S an nm) (hr : RowAt w g l) (hl : l.length = ks.length) (hT : ∀ (i : Nat) (x : Tr) (f : Five), ks[i]? = some x → l[i]? = some f → TreeIs w S x f.agg) (hcn : nm.length ≤ cn) (hck : ks.length ≤ ck) :
    TreeIs w S (.mk k n tx nm ks) (.agg #[.int .i64 k, .int .i64 n, .string tx, .slice an nm.length cn, .slice (some ⟨g, 0, none⟩) ks.length ck]) := by
  rw [TreeIs]
  refine ⟨an, cn, _, ck, rfl, hn, .inr ⟨g, rfl, hSg, hg, kidsAt_iff.2 fun i x hx => ?_⟩, hcn, hck⟩
  have hi : i < l.length := by rw [hl]; exact (List.getElem?_eq_some_iff.1 hx).1
  obtain ⟨c0, c1, c2, c3, c4⟩ := hr.1 i l[i] (List.getElem?_eq_getElem hi)
  rw [Nat.zero_add]
  exact ⟨_, _, _, _, _, c0, c1, c2, c3, c4, hT i x l[i] hx (List.getElem?_eq_getElem hi)⟩

theorem far_row (b g : Nat) (h : b ≠ g) {n c : Nat} : some b ≠ (Value.slice (some ⟨g, 0, none⟩) n c).ownBlock := fun e => by
  simp only [Value.ownBlock, Option.some.injEq] at e
  exact h e
theorem own_pos {w : World} {B : Nat} {e : TypeId} {size n : Nat} {v : Value} {xs : List Value} (h : w.ownsRow B e size v n xs) (hn : 0 < n) : ∃ g cap, v = .slice (some ⟨g, 0, none⟩) n cap := by
  rcases h.2 with ⟨_, h0⟩ | ⟨g, cap, cur, rfl, _⟩
  · omega
  · exact ⟨g, cap, rfl⟩

theorem infoV : (Tryz.prog.info? 44).map (fun i => (i.zero, i.size, i.bytes)) = some (some (.agg #[.int .i64 0, .int .i64 0, .string ⟨#[]⟩, .slice none 0 0, .slice none 0 0]), 5, 80) := by kernel_rfl

theorem FiveAt.set4 {w : World} {B : Nat} {x0 x1 x2 x3 x4 : Value} (h : FiveAt w B x0 x1 x2 x3 x4) (y : Value) : FiveAt (w.setCell ⟨B, 4, none⟩ y) B x0 x1 x2 x3 y := by
  obtain ⟨⟨a0, a1, a2, a3, a4⟩, f0, f1, f2, f3, f4⟩ := h
  have e : (w.cell? ⟨B, 4, none⟩).isSome = true := by rw [a4]; rfl
  refine ⟨⟨?_, ?_, ?_, ?_, ?_⟩, ?_⟩
  · rw [cell_set e, if_neg (by omega), a0]
  · rw [cell_set e, if_neg (by omega), a1]
  · rw [cell_set e, if_neg (by omega), a2]
  · rw [cell_set e, if_neg (by omega), a3]
  · rw [cell_set e, if_pos rfl]
  · simp only [World.frozen?_setCell]
    exact ⟨f0, f1, f2, f3, f4⟩

/-- What lies in memory behind the append. -/
theorem with_facts {w W1 w2 : World} {k0 k1 k2 k3 k4 z0 z1 z2 z3 z4 : Value} {y : Five} {g2 cap2 : Nat} {l : List Five} {rw_ : Value} (hs1 : W1.heap.size = w.heap.size + 4) (hV : FiveAt W1 w.heap.size k0 k1 k2 k3 k4) (hX : FiveAt W1 (w.heap.size + 1) y.a y.b y.c y.d y.e) (hZ : FiveAt W1 (w.heap.size + 1 + 1) z0 z1 z2 z3 z4)
    (hown : w2.ownsRow (w.heap.size + 3) 44 5 (.slice (some ⟨g2, 0, none⟩) l.length cap2) l.length (fiveCells l)) (hgrow : W1.grownBy w2 (Value.slice (some ⟨w.heap.size + 1 + 1 + 1, 0, none⟩) 0 0).ownBlock) (hB1 : Below w.heap.size w W1) :
    FiveAt (w2.setCell ⟨w.heap.size, 4, none⟩ rw_) w.heap.size k0 k1 k2 k3 rw_ ∧ FiveAt (w2.setCell ⟨w.heap.size, 4, none⟩ rw_) (w.heap.size + 1) y.a y.b y.c y.d y.e ∧ FiveAt (w2.setCell ⟨w.heap.size, 4, none⟩ rw_) (w.heap.size + 1 + 1) z0 z1 z2 z3 z4 ∧ RowAt (w2.setCell ⟨w.heap.size, 4, none⟩ rw_) g2 l ∧ w.heap.size + 4 ≤ (w2.setCell ⟨w.heap.size, 4, none⟩ rw_).heap.size ∧ (w.heap.size + 3 ≤ g2 ∧ g2 < (w2.setCell ⟨w.heap.size, 4, none⟩ rw_).heap.size) ∧ Below w.heap.size w (w2.setCell ⟨w.heap.size, 4, none⟩ rw_) := by
  have hz2 := hgrow.size
  have hlt := hown.lt g2 rfl
  have b4 : ∀ Z, BelowBut Z w.heap.size w2 (w2.setCell ⟨w.heap.size, 4, none⟩ rw_) := fun Z => BelowBut.setCell _ _ _
  have hsz : (w2.setCell ⟨w.heap.size, 4, none⟩ rw_).heap.size = w2.heap.size := by simp [World.setCell]
  refine ⟨(hV.grown hgrow (by omega) (far_row _ _ (by omega))).set4 _, (hX.grown hgrow (by omega) (far_row _ _ (by omega))).but (b4 w2.heap.size) (by omega) (by omega), (hZ.grown hgrow (by omega) (far_row _ _ (by omega))).but (b4 w2.heap.size) (by omega) (by omega), (row_at hown).but (b4 w2.heap.size) hlt.2 (by omega), by omega, ⟨hlt.1, by omega⟩, ?_⟩
  refine Below.trans (hB1.grown hgrow (by omega) (fun k hk => ?_)) ((b4 w.heap.size).below (Nat.le_refl _) (Nat.le_refl _))
  simp only [Value.ownBlock, Option.some.injEq] at hk
  omega

def withK : Tr → Nat → Tr → Tr
  | .mk k n t nm ks, i, x => .mk k n t nm (ks.set i x)

set_option maxRecDepth 100000 in
set_option maxHeartbeats 800000 in
theorem l3With_any (S : Nat → Prop) (t x : Tr) (v vx : Value) (i : Nat) (w : World) (ht : TreeIs w S t v) (hx : TreeIs w S x vx) (hi : i < t.kids.length) (hc : t.kids.length ≤ 2 ^ 20) :
    Calls Tryz.prog 39 #[v, .int .i64 (i : Int), vx] w fun e w' => ∃ (k n : Int) (tx : ByteArray) (an : Option Addr) (mn cn : Nat) (ak : Option Addr) (mk ck : Nat), e = .returned (.agg #[.int .i64 k, .int .i64 n, .string tx, .slice an mn cn, .slice ak mk ck]) ∧ TreeIs w' (fun b => S b ∨ w.heap.size ≤ b) (withK t i x) (.agg #[.int .i64 k, .int .i64 n, .string tx, .slice an mn cn, .slice ak mk ck]) ∧ Below w.heap.size w w' := by
  obtain ⟨k, n, tx, nm, ks⟩ := t
  dsimp only [Tr.kids] at hi hc
  obtain ⟨an, cn, ak, ck, rfl, hnm, hk⟩ := TreeIs.open ht
  have hcap : nm.length ≤ cn := (TreeIs.caps ht).1
  obtain ⟨xan, xcn, xak, xck, rfl⟩ := (TreeIs.any hx).head
  obtain ⟨g, rfl, hg, hkid⟩ : ∃ g, ak = some ⟨g, 0, none⟩ ∧ g < w.heap.size ∧ ∀ i x, ks[i]? = some x → KidAt w S x g i := by
    rcases hk with h0 | ⟨g, h1, _, h2, h3⟩
    · rw [h0] at hi; simp at hi
    · exact ⟨g, h1, h2, h3⟩
  obtain ⟨l, hl, hlc, hlT, hone⟩ := kids_list (j := 0) (kidsAt_iff.2 (fun i x hx => by rw [Nat.zero_add]; exact hkid i x hx))
  obtain ⟨i5, h50, h51, h52, h53⟩ := info_parts infoV
  have HI : Hid (Tryz.prog.info? 44 = some i5 ∧ i5.zero = some (.agg #[.int .i64 0, .int .i64 0, .string ⟨#[]⟩, .slice none 0 0, .slice none 0 0]) ∧ i5.size = 5 ∧ i5.bytes = 80) := ⟨h50, h51, h52, h53⟩
  have HNM : Hid (NamsAt w S an nm) := hnm
  have HX : Hid (TreeIs w S x (.agg #[.int .i64 x.kind, .int .i64 x.num, .string x.text, .slice xan x.names.length xcn, .slice xak x.kids.length xck])) := hx
  have HLC : Hid (∀ (q : Nat) (u : Value), (fiveCells l)[q]? = some u → w.cell? ((⟨g, 0 * 5, none⟩ : Addr).add q) = some u) := five_at hlc
  have HLT : Hid (∀ (i : Nat) (y : Tr), ks[i]? = some y → ∃ f, l[i]? = some f ∧ TreeIs w S y f.agg) := hlT
  have HONE : Hid (∀ u ∈ fiveCells l, u.oneCell' = true) := hone
  clear hnm hk hkid hlc hlT hone hx ht h50 h51 h52 h53
  obtain ⟨W1, hW1⟩ : ∃ W1, W1 = (((w.alloc (.cells #[.int .i64 k, .int .i64 n, .string tx, .slice an nm.length cn, .slice (some ⟨g, 0, none⟩) ks.length ck] 44)).alloc (.cells #[.int .i64 x.kind, .int .i64 x.num, .string x.text, .slice xan x.names.length xcn, .slice xak x.kids.length xck] 44)).alloc (.cells #[.int .i64 0, .int .i64 0, .string ⟨#[]⟩, .slice none 0 0, .slice none 0 0] 44)).alloc (.cells #[] 44) := ⟨_, rfl⟩
  have hs1 : W1.heap.size = w.heap.size + 4 := by rw [hW1]; simp
  have hB1 : Below w.heap.size w W1 := by rw [hW1]; exact ((((Below.refl _ w).alloc (Nat.le_refl _) _).alloc (by simp) _).alloc (by simp; omega) _).alloc (by simp; omega) _
  have HV : Hid (FiveAt W1 w.heap.size (.int .i64 k) (.int .i64 n) (.string tx) (.slice an nm.length cn) (.slice (some ⟨g, 0, none⟩) ks.length ck)) := by
    show FiveAt _ _ _ _ _ _ _
    rw [hW1]
    exact (fiveAt_new w _ _ _ _ _ _).below ((((Below.refl _ _).alloc (Nat.le_refl _) _).alloc (by simp) _).alloc (by simp) _) (by simp)
  have HXB : Hid (FiveAt W1 (w.heap.size + 1) (.int .i64 x.kind) (.int .i64 x.num) (.string x.text) (.slice xan x.names.length xcn) (.slice xak x.kids.length xck)) := by
    show FiveAt _ _ _ _ _ _ _
    rw [hW1]
    have := fiveAt_new (w.alloc (.cells #[.int .i64 k, .int .i64 n, .string tx, .slice an nm.length cn, .slice (some ⟨g, 0, none⟩) ks.length ck] 44)) (.int .i64 x.kind) (.int .i64 x.num) (.string x.text) (.slice xan x.names.length xcn) (.slice xak x.kids.length xck) 44
    rw [World.size_alloc] at this
    exact this.below (((Below.refl _ _).alloc (Nat.le_refl _) _).alloc (by simp) _) (by simp)
  have HZB : Hid (FiveAt W1 (w.heap.size + 1 + 1) (.int .i64 0) (.int .i64 0) (.string ⟨#[]⟩) (.slice none 0 0) (.slice none 0 0)) := by
    show FiveAt _ _ _ _ _ _ _
    rw [hW1]
    have := fiveAt_new ((w.alloc (.cells #[.int .i64 k, .int .i64 n, .string tx, .slice an nm.length cn, .slice (some ⟨g, 0, none⟩) ks.length ck] 44)).alloc (.cells #[.int .i64 x.kind, .int .i64 x.num, .string x.text, .slice xan x.names.length xcn, .slice xak x.kids.length xck] 44)) (.int .i64 0) (.int .i64 0) (.string ⟨#[]⟩) (.slice none 0 0) (.slice none 0 0) 44
    rw [World.size_alloc, World.size_alloc] at this
    exact this.below ((Below.refl _ _).alloc (Nat.le_refl _) _) (by simp)
  have HOE : Hid (W1.ownsRow (w.heap.size + 3) 44 5 (.slice (some ⟨w.heap.size + 1 + 1 + 1, 0, none⟩) 0 0) 0 []) := by
    show World.ownsRow _ _ _ _ _ _ _
    rw [hW1]
    have := own_empty (((w.alloc (.cells #[.int .i64 k, .int .i64 n, .string tx, .slice an nm.length cn, .slice (some ⟨g, 0, none⟩) ks.length ck] 44)).alloc (.cells #[.int .i64 x.kind, .int .i64 x.num, .string x.text, .slice xan x.names.length xcn, .slice xak x.kids.length xck] 44)).alloc (.cells #[.int .i64 0, .int .i64 0, .string ⟨#[]⟩, .slice none 0 0, .slice none 0 0] 44)) 44 5 (w.heap.size + 3) (by simp)
    simpa [World.size_alloc] using this
  have HNW : Hid (∀ (q : Nat) (u : Value), (fiveCells l)[q]? = some u → W1.cell? ((⟨g, 0, none⟩ : Addr).add q) = some u) := fun q u hu => by
    have := HLC.out q u hu
    rw [Nat.zero_mul] at this
    have ea : (⟨g, 0, none⟩ : Addr).add q = ⟨g, 0 + q, none⟩ := by unfold Addr.add; split <;> simp_all
    rw [ea] at this ⊢
    exact (hB1.cell hg).trans this
  have HB1 : Hid (Below w.heap.size w W1) := hB1
  clear HLC hB1
  go_enter Tryz.func39, Tryz.ntmps39
  go_upto_region 1 with fail
  go_cut [] (fun wx => ∃ g2 cap2, Hid (FiveAt wx w.heap.size (.int .i64 k) (.int .i64 n) (.string tx) (.slice an nm.length cn) (.slice (some ⟨g2, 0, none⟩) ks.length cap2) ∧ FiveAt wx (w.heap.size + 1) (.int .i64 x.kind) (.int .i64 x.num) (.string x.text) (.slice xan x.names.length xcn) (.slice xak x.kids.length xck) ∧ FiveAt wx (w.heap.size + 1 + 1) (.int .i64 0) (.int .i64 0) (.string ⟨#[]⟩) (.slice none 0 0) (.slice none 0 0) ∧ RowAt wx g2 l ∧ w.heap.size + 4 ≤ wx.heap.size ∧ (w.heap.size + 3 ≤ g2 ∧ g2 < wx.heap.size) ∧ Below w.heap.size w wx) ∧ ks.length ≤ cap2)
  case first =>
    go_wp2_with (first | (at_builtin; rw [← hW1]; refine wpList_append_own _ rfl _ _ 42 rfl (w.heap.size + 3) 44 i5 _ 5 80 Tryz.underlying42 HI.out.1 HI.out.2.1 HI.out.2.2.1 HI.out.2.2.2 rfl (by decide) (.slice (some ⟨w.heap.size + 1 + 1 + 1, 0, none⟩) 0 0) 0 [] rfl HOE.out ⟨g, 0, none⟩ ks.length ck (fiveCells l) rfl (by rw [five_len, hl]) HNW.out HONE.out (by unfold maxLen; omega) (by omega) (by omega) ?_))
    intro v2 w2 hown2 hgrow _
    rw [← hW1] at hgrow
    obtain ⟨g2, cap2, rfl⟩ := own_pos hown2 (by omega)
    have HO2 : w2.ownsRow (w.heap.size + 3) 44 5 (.slice (some ⟨g2, 0, none⟩) l.length cap2) l.length (fiveCells l) := by rw [hl]; simpa using hown2
    have hcp2 : ks.length ≤ cap2 := by
      rcases HO2.2 with ⟨e, _⟩ | ⟨g', cap', cur, e, _, _, hle, _⟩
      · simp at e
      · obtain ⟨_, rfl⟩ : _ ∧ cap2 = cap' := by simpa using e
        omega
    have HW : Hid _ := with_facts (y := ⟨.int .i64 x.kind, .int .i64 x.num, .string x.text, .slice xan x.names.length xcn, .slice xak x.kids.length xck⟩) (rw_ := .slice (some ⟨g2, 0, none⟩) ks.length cap2) hs1 HV.out HXB.out HZB.out HO2 hgrow HB1.out
    have hV2 := HV.out.grown hgrow (by omega) (far_row _ _ (by omega))
    obtain ⟨⟨_, _, _, _, a4⟩, _, _, _, _, f4⟩ := hV2
    clear hown2 hgrow HO2 HV HXB HZB HOE HNW HONE HB1 HI hW1 hs1
    go_wp2_with fail
    go_meet
    case rel => exact ⟨g2, cap2, HW, hcp2⟩
  case rest =>
    obtain ⟨g2, cap2, HF, hcp2⟩ := hcut
    clear hW1 hs1 HV HXB HZB HOE HNW HONE HB1 HI
    have hil : i < l.length := by omega
    have i0 : (0 : Int) ≤ (i : Int) := by omega
    have i1 : (i : Int) < (ks.length : Int) := by omega
    go_upto_region 2 with fail
    go_cut [] (fun wx => Hid (FiveAt wx w.heap.size (.int .i64 k) (.int .i64 n) (.string tx) (.slice an nm.length cn) (.slice (some ⟨g2, 0, none⟩) ks.length cap2) ∧ FiveAt wx (w.heap.size + 1 + 1) (.int .i64 0) (.int .i64 0) (.string ⟨#[]⟩) (.slice none 0 0) (.slice none 0 0) ∧ RowAt wx g2 (l.set i ⟨.int .i64 x.kind, .int .i64 x.num, .string x.text, .slice xan x.names.length xcn, .slice xak x.kids.length xck⟩) ∧ w.heap.size + 4 ≤ wx.heap.size ∧ (w.heap.size + 3 ≤ g2 ∧ g2 < wx.heap.size) ∧ Below w.heap.size w wx))
    case first =>
      obtain ⟨hV3, hX3, hZ3, hR3, hz3, hg2, hB3⟩ := HF.out
      have HQ := hR3.set hil ⟨.int .i64 x.kind, .int .i64 x.num, .string x.text, .slice xan x.names.length xcn, .slice xak x.kids.length xck⟩
      have HG : Hid (FiveAt _ w.heap.size (.int .i64 k) (.int .i64 n) (.string tx) (.slice an nm.length cn) (.slice (some ⟨g2, 0, none⟩) ks.length cap2) ∧ FiveAt _ (w.heap.size + 1 + 1) (.int .i64 0) (.int .i64 0) (.string ⟨#[]⟩) (.slice none 0 0) (.slice none 0 0) ∧ RowAt _ g2 (l.set i ⟨.int .i64 x.kind, .int .i64 x.num, .string x.text, .slice xan x.names.length xcn, .slice xak x.kids.length xck⟩) ∧ w.heap.size + 4 ≤ _ ∧ (w.heap.size + 3 ≤ g2 ∧ g2 < _) ∧ Below w.heap.size w _) := ⟨hV3.but (HQ.2 wc.heap.size) (by omega) (by omega), hZ3.but (HQ.2 wc.heap.size) (by omega) (by omega), HQ.1, Nat.le_trans hz3 (HQ.2 0).size, ⟨hg2.1, Nat.lt_of_lt_of_le hg2.2 (HQ.2 0).size⟩, hB3.trans ((HQ.2 w.heap.size).below (Nat.le_refl _) (by omega))⟩
      obtain ⟨⟨_, _, _, _, a4⟩, _⟩ := hV3
      obtain ⟨⟨p0, p1, p2, p3, p4⟩, _⟩ := hX3
      obtain ⟨c0, c1, c2, c3, c4⟩ := hR3.1 i l[i] (List.getElem?_eq_getElem hil)
      have d0 := hR3.2 (i * 5)
      have d1 := hR3.2 (i * 5 + 1)
      have d2 := hR3.2 (i * 5 + 2)
      have d3 := hR3.2 (i * 5 + 3)
      have d4 := hR3.2 (i * 5 + 4)
      clear hZ3 hR3 hz3 hg2 hB3 HQ HF
      go_wp2_with fail
      go_meet
      case rel => exact HG
    case rest =>
      have HF4 := hcut
      clear hcut HF
      obtain ⟨hV4, hZ4, hR4, hz4, hg4, hB4⟩ := HF4.out
      have HQ := hZ4.set (.int .i64 k) (.int .i64 n) (.string tx) (.slice an nm.length cn) (.slice (some ⟨g2, 0, none⟩) ks.length cap2)
      obtain ⟨⟨⟨s0, s1, s2, s3, s4⟩, _⟩, hbb⟩ := id HQ
      have HBF : Hid (Below w.heap.size w (((((wc.setCell ⟨w.heap.size + 1 + 1, 0, none⟩ (.int .i64 k)).setCell ⟨w.heap.size + 1 + 1, 1, none⟩ (.int .i64 n)).setCell ⟨w.heap.size + 1 + 1, 2, none⟩ (.string tx)).setCell ⟨w.heap.size + 1 + 1, 3, none⟩ (.slice an nm.length cn)).setCell ⟨w.heap.size + 1 + 1, 4, none⟩ (.slice (some ⟨g2, 0, none⟩) ks.length cap2))) := hB4.trans ((hbb w.heap.size).below (Nat.le_refl _) (by omega))
      have HTF : Hid (TreeIs (((((wc.setCell ⟨w.heap.size + 1 + 1, 0, none⟩ (.int .i64 k)).setCell ⟨w.heap.size + 1 + 1, 1, none⟩ (.int .i64 n)).setCell ⟨w.heap.size + 1 + 1, 2, none⟩ (.string tx)).setCell ⟨w.heap.size + 1 + 1, 3, none⟩ (.slice an nm.length cn)).setCell ⟨w.heap.size + 1 + 1, 4, none⟩ (.slice (some ⟨g2, 0, none⟩) ks.length cap2)) (fun b => S b ∨ w.heap.size ≤ b) (.mk k n tx nm (ks.set i x)) (.agg #[.int .i64 k, .int .i64 n, .string tx, .slice an nm.length cn, .slice (some ⟨g2, 0, none⟩) (ks.set i x).length cap2])) := by
        refine tree_row (l := l.set i ⟨.int .i64 x.kind, .int .i64 x.num, .string x.text, .slice xan x.names.length xcn, .slice xak x.kids.length xck⟩) (Nat.lt_of_lt_of_le hg4.2 (hbb 0).size) (.inr (by omega)) (HNM.out.keep (fun b _ hb => HBF.out.block b hb) (fun _ h _ => .inl h) HBF.out.size) (hR4.but (hbb wc.heap.size) hg4.2 (by omega)) (by simp [hl]) (fun j y f hy hf => ?_) hcap (by simpa using hcp2)
        by_cases e : j = i
        · subst e
          rw [List.getElem?_set_self (by omega)] at hy hf
          obtain rfl := Option.some.inj hy
          obtain rfl := Option.some.inj hf
          exact TreeIs.keep (fun b _ hb => HBF.out.block b hb) (fun _ h _ => .inl h) HBF.out.size _ _ HX.out
        · rw [List.getElem?_set_ne (fun h => e h.symm)] at hy hf
          obtain ⟨f', hf', htr⟩ := HLT.out j y hy
          obtain rfl := Option.some.inj (hf.symm.trans hf')
          exact TreeIs.keep (fun b _ hb => HBF.out.block b hb) (fun _ h _ => .inl h) HBF.out.size _ _ htr
      rw [List.length_set] at HTF
      obtain ⟨⟨t0, t1, t2, t3, t4⟩, _⟩ := hV4
      obtain ⟨⟨v0, v1, v2, v3, v4⟩, y0, y1, y2, y3, y4⟩ := hZ4
      clear hR4 HQ hbb hB4 hz4 hg4
      go_wp2_with fail
      exact bodyPost_ret (v := .agg #[.int .i64 k, .int .i64 n, .string tx, .slice an nm.length cn, .slice (some ⟨g2, 0, none⟩) ks.length cap2]) (by simp [results, Tryz.results39, go_sem, s0, s1, s2, s3, s4]) rfl ⟨_, _, _, _, _, _, _, _, _, rfl, HTF.out, HBF.out⟩

end Go.Proofs.YtcceaadidnmdaaaGreatDoor
namespace Go.Proofs.YtcceaadidnmdaaaGreatDoor
open Go.RowKit
set_option linter.unusedVariables false

/-- AT A STEP OF A REGION THAT DRAWS: cells that lie somewhere, none among them too, are put to an own row. -/
theorem step_append_at {w : World} {ops : Array Oper} {o : Oper} {a : Act} {K : Act → World → Prop} {Q : Exit → Act → World → Prop} {E : Prop} (hgd : o.guard = none) (s x : Operand) (t : TypeId)
    (ho : o.op = .call { callee := .builtin .append, args := #[s, x], argTypes := #[t, t] })
    (base : Nat) (e : TypeId) (i : TypeInfo) (z : Value) (size bytes : Nat) (ht : Tryz.prog.underlying t = some (.slice e)) (hi : Tryz.prog.info? e = some i) (hz : i.zero = some z)
    (hsize : i.size = size) (hby : i.bytes = bytes) (hzs : z.cells.size = size) (hsz : 0 < size)
    (v : Value) (n : Nat) (xs : List Value) (hs : a.eval s = v) (hown : w.ownsRow base e size v n xs)
    (ax : Option Addr) (ad : Addr) (m c : Nat) (news : List Value) (hx : a.eval x = .slice ax m c) (hax : ax = some ad) (hl : news.length = m * size) (hnews : ∀ j u, news[j]? = some u → w.cell? (ad.add j) = some u) (h1 : ∀ u ∈ news, u.oneCell' = true)
    (h63 : n + m ≤ maxLen) (hbytes : (n + m) * bytes ≤ 140737488355328) (hbase : base ≤ w.heap.size)
    (h : ∀ v' w', w'.ownsRow base e size v' (n + m) (xs ++ news) → w.grownBy w' v.ownBlock → K (a.put o.dst v') w') :
    if Region.wanted o (yielded ops a.tmps) = true then Oper.wp Tryz.prog o a w K Q else E := by
  have hw : Region.wanted o (yielded ops a.tmps) = true := by simp [Region.wanted, hgd]
  rw [if_pos hw]
  subst hax
  obtain ⟨v', w', hr, h4, h5, _, _⟩ := run_append_own_at (P := Tryz.prog) w base t o.type e i z size bytes ht hi hz hsize hby hzs hsz v n xs hown ad m c news hl hnews h1 h63 hbytes hbase
  unfold Oper.wp execOp
  simp only [ho, resolve, invoke, builtin, Sem.run_bind, Sem.run_pure, Result.andThen_ok, List.map_toArray, List.map_cons, List.map_nil, hs, hx, hr]
  exact h v' w' h4 h5

def cutK : Tr → Nat → Tr
  | .mk k n t nm ks, i => .mk k n t (if k = 7 then nm.eraseIdx i else nm) (ks.eraseIdx i)

theorem five_take (l : List Five) (i : Nat) : fiveCells (l.take i) ++ fiveCells (l.drop (i + 1)) = fiveCells (l.eraseIdx i) := by
  rw [List.eraseIdx_eq_take_drop_succ]
  simp [fiveCells]
theorem five_ones {l l' : List Five} (h : ∀ u ∈ fiveCells l, u.oneCell' = true) (hs : ∀ f ∈ l', f ∈ l) : ∀ u ∈ fiveCells l', u.oneCell' = true := by
  intro u hu
  simp only [fiveCells, List.mem_flatMap] at hu
  obtain ⟨f, hf, hu⟩ := hu
  exact h u (by simp only [fiveCells, List.mem_flatMap]; exact ⟨f, hs f hf, hu⟩)

theorem row_form {w : World} {B : Nat} {e : TypeId} {size n : Nat} {v : Value} {xs : List Value} (h : w.ownsRow B e size v n xs) : ∃ a c, v = .slice a n c := by
  rcases h.2 with ⟨rfl, e⟩ | ⟨g, cap, cur, rfl, _⟩
  · exact ⟨none, 0, by rw [e]⟩
  · exact ⟨_, _, rfl⟩

theorem cut_news {w W X : World} {row : Option Nat} {g o : Nat} {cs : List Value} (h : ∀ (q : Nat) (u : Value), cs[q]? = some u → w.cell? ((⟨g, o, none⟩ : Addr).add q) = some u) (hb : Below w.heap.size w W) (hg : W.grownBy X row) (hz : w.heap.size ≤ W.heap.size) (hl : g < w.heap.size) (hn : some g ≠ row) : ∀ (q : Nat) (u : Value), cs[q]? = some u → X.cell? ((⟨g, o, none⟩ : Addr).add q) = some u := by
  intro q u hu
  have := h q u hu
  have ea : (⟨g, o, none⟩ : Addr).add q = ⟨g, o + q, none⟩ := by unfold Addr.add; split <;> simp_all
  rw [ea] at this ⊢
  rw [hg.cell_far ⟨g, o + q, none⟩ (by show g < _; omega) hn, hb.cell hl]
  exact this
theorem cut_own {X : World} {B n i : Nat} {e : TypeId} {z : Nat} {v : Value} {l : List Five} (h : X.ownsRow B e z v (0 + i + (n - (i + 1))) ([] ++ fiveCells (l.take i) ++ fiveCells (l.drop (i + 1)))) (hi : i < n) : X.ownsRow B e z v (n - 1) (fiveCells (l.eraseIdx i)) := by
  rw [List.nil_append, five_take, show 0 + i + (n - (i + 1)) = n - 1 by omega] at h
  exact h

theorem FiveAt.set3 {w : World} {B : Nat} {x0 x1 x2 x3 x4 : Value} (h : FiveAt w B x0 x1 x2 x3 x4) (y : Value) : FiveAt (w.setCell ⟨B, 3, none⟩ y) B x0 x1 x2 y x4 := by
  obtain ⟨⟨a0, a1, a2, a3, a4⟩, f0, f1, f2, f3, f4⟩ := h
  have e : (w.cell? ⟨B, 3, none⟩).isSome = true := by rw [a3]; rfl
  refine ⟨⟨?_, ?_, ?_, ?_, ?_⟩, ?_⟩
  · rw [cell_set e, if_neg (by omega), a0]
  · rw [cell_set e, if_neg (by omega), a1]
  · rw [cell_set e, if_neg (by omega), a2]
  · rw [cell_set e, if_pos rfl]
  · rw [cell_set e, if_neg (by omega), a4]
  · simp only [World.frozen?_setCell]
    exact ⟨f0, f1, f2, f3, f4⟩
/-- What lies in memory behind two appends to a new row and one store ahead of it. -/
theorem cut_facts {w W0 w6 w7 : World} {E : Obj} {H : Nat} {v6 : Value} {e : TypeId} {z n6 n7 : Nat} {xs6 xs7 : List Value} {v7 : Value} (hs0 : W0.heap.size = H) (hB0 : Below w.heap.size w W0) (hwH : w.heap.size + 2 ≤ H)
    (hg6 : ((W0.alloc E).drew).grownBy w6 (some H)) (hown6 : w6.ownsRow H e z v6 n6 xs6) (hg7 : w6.grownBy w7 v6.ownBlock) (hown7 : w7.ownsRow H e z v7 n7 xs7) :
    (∀ {b : Nat} {x0 x1 x2 x3 x4 : Value}, b < H → FiveAt W0 b x0 x1 x2 x3 x4 → FiveAt w7 b x0 x1 x2 x3 x4) ∧ (∀ b, b < H → w7.heap[b]? = W0.heap[b]?) ∧ H ≤ w7.heap.size ∧ Below w.heap.size w w7 := by
  have z6 := hg6.size
  have z7 := hg7.size
  have ze : ((W0.alloc E).drew).heap.size = H + 1 := by show (W0.alloc E).heap.size = _; rw [World.size_alloc, hs0]
  have e1 : ∀ b, b < H → ((W0.alloc E).drew).heap[b]? = W0.heap[b]? := fun b hb => heap_alloc_old W0 E (by omega)
  have e2 : ∀ b, b < H → w6.heap[b]? = W0.heap[b]? := fun b hb => (hg6.block b (by omega) (fun e => by injection e with e; omega)).trans (e1 b hb)
  have e3 : ∀ b, b < H → w7.heap[b]? = W0.heap[b]? := fun b hb => (hg7.block b (by omega) (fun e => by have := own_lt hown6 e; omega)).trans (e2 b hb)
  refine ⟨fun {b x0 x1 x2 x3 x4} hb h => ?_, e3, by omega, ?_⟩
  · have c : ∀ o, w7.cell? ⟨b, o, none⟩ = W0.cell? ⟨b, o, none⟩ := fun o => World.cell?_of_block (e3 b hb)
    have f : ∀ o, w7.frozen? ⟨b, o, none⟩ = W0.frozen? ⟨b, o, none⟩ := fun o => World.frozen?_of_block (e3 b hb)
    obtain ⟨⟨a0, a1, a2, a3, a4⟩, f0, f1, f2, f3, f4⟩ := h
    exact ⟨⟨(c _).trans a0, (c _).trans a1, (c _).trans a2, (c _).trans a3, (c _).trans a4⟩, (f _).trans f0, (f _).trans f1, (f _).trans f2, (f _).trans f3, (f _).trans f4⟩
  · refine ⟨hg7.os.trans (hg6.os.trans hB0.os), hg7.tape.trans (hg6.tape.trans hB0.tape), hg7.output.trans (hg6.output.trans hB0.output), by omega, fun b hb => (e3 b (by omega)).trans (hB0.block b hb)⟩

theorem own_cap {w : World} {B m c z : Nat} {e : TypeId} {a : Option Addr} {xs : List Value} (h : w.ownsRow B e z (.slice a m c) m xs) : m ≤ c := by
  rcases h.2 with ⟨h1, h2⟩ | ⟨g, cap, cur, h1, _, _, hle, _⟩
  · omega
  · obtain ⟨_, rfl⟩ : _ ∧ c = cap := by simpa using h1
    exact hle
theorem nams_own {w : World} {B m c : Nat} {a : Option Addr} {l : List ByteArray} {S : Nat → Prop} (h : w.ownsRow B 9 1 (.slice a m c) m (l.map Value.string)) (hm : m = l.length) (hS : ∀ b, B ≤ b → S b) : NamsAt w S a l := by
  subst hm
  have hlt := h.lt
  have hcells := @World.ownsRow.cells _ _ _ _ _ _ _ h
  rcases h.2 with ⟨_, h2⟩ | ⟨g, cap, cur, h1, hBg, _⟩
  · exact .inl (List.eq_nil_of_length_eq_zero h2)
  · obtain ⟨rfl, rfl⟩ : a = some ⟨g, 0, none⟩ ∧ c = cap := by simpa using h1
    refine .inr ⟨g, rfl, hS g hBg, (hlt g rfl).2, fun j hj => ?_⟩
    have := hcells (g := g) rfl j (.string (l.getD j ByteArray.empty)) (by simp [List.getElem?_eq_getElem hj, List.getD_eq_getElem?_getD])
    rw [show ((⟨g, 0, none⟩ : Addr).add j) = ⟨g, j, none⟩ by unfold Addr.add; split <;> simp_all] at this
    exact this
theorem nams_cells {w : World} {gn : Nat} {nm : List ByteArray} (h : ∀ j, j < nm.length → w.cell? ⟨gn, j, none⟩ = some (.string (nm.getD j ByteArray.empty))) (o : Nat) (l : List ByteArray) (hl : ∀ q x, l[q]? = some x → nm[o + q]? = some x) : ∀ (q : Nat) (u : Value), (l.map Value.string)[q]? = some u → w.cell? ((⟨gn, o, none⟩ : Addr).add q) = some u := by
  intro q u hu
  rw [List.getElem?_map, Option.map_eq_some_iff] at hu
  obtain ⟨x, hx, rfl⟩ := hu
  have h1 := hl q x hx
  obtain ⟨hlt, _⟩ := List.getElem?_eq_some_iff.1 h1
  rw [show ((⟨gn, o, none⟩ : Addr).add q) = ⟨gn, o + q, none⟩ by unfold Addr.add; split <;> simp_all, h (o + q) hlt, List.getD_eq_getElem?_getD, h1]
  rfl
theorem cut_ownS {X : World} {B n i : Nat} {e : TypeId} {z : Nat} {v : Value} {l : List ByteArray} (h : X.ownsRow B e z v (0 + i + (n - (i + 1))) ([] ++ (l.take i).map Value.string ++ (l.drop (i + 1)).map Value.string)) (hi : i < n) : X.ownsRow B e z v (n - 1) ((l.eraseIdx i).map Value.string) := by
  rw [List.nil_append, ← List.map_append, ← List.eraseIdx_eq_take_drop_succ, show 0 + i + (n - (i + 1)) = n - 1 by omega] at h
  exact h
theorem str_ones (l : List ByteArray) : ∀ u ∈ l.map Value.string, u.oneCell' = true := by
  intro u hu
  obtain ⟨x, _, rfl⟩ := List.mem_map.1 hu
  rfl
/-- A tree out of an own row of heads. -/
theorem tree_own {w : World} {S : Nat → Prop} {B : Nat} {k n : Int} {tx : ByteArray} {nm : List ByteArray} {ks : List Tr} {an a2 : Option Addr} {cn c2 : Nat} {l : List Five} (ho : w.ownsRow B 44 5 (.slice a2 ks.length c2) ks.length (fiveCells l)) (hSB : ∀ b, B ≤ b → S b) (hn : NamsAt w S an nm) (hl : l.length = ks.length) (hT : ∀ (i : Nat) (x : Tr) (f : Five), ks[i]? = some x → l[i]? = some f → TreeIs w S x f.agg) (hcn : nm.length ≤ cn) :
    TreeIs w S (.mk k n tx nm ks) (.agg #[.int .i64 k, .int .i64 n, .string tx, .slice an nm.length cn, .slice a2 ks.length c2]) := by
  by_cases h0 : ks.length = 0
  · rw [TreeIs]
    exact ⟨an, cn, a2, c2, rfl, hn, .inl (List.eq_nil_of_length_eq_zero h0), hcn, own_cap ho⟩
  · obtain ⟨g, cap, e⟩ := own_pos ho (by omega)
    obtain ⟨rfl, rfl⟩ : a2 = some ⟨g, 0, none⟩ ∧ c2 = cap := by simpa using e
    have hr : RowAt w g l := by
      rw [← hl] at ho
      exact row_at ho
    exact tree_row ((ho.lt g rfl).2) (hSB g (ho.lt g rfl).1) hn hr hl hT hcn (own_cap ho)

set_option maxRecDepth 100000 in
set_option maxHeartbeats 12000000 in
theorem l3Cut_any (S : Nat → Prop) (t : Tr) (v : Value) (i : Nat) (w : World) (ht : TreeIs w S t v) (hnd : t.named) (hi : i < t.kids.length) (hc : t.kids.length ≤ 2 ^ 20) :
    Calls Tryz.prog 52 #[v, .int .i64 (i : Int)] w fun e w' => ∃ (k n : Int) (tx : ByteArray) (an : Option Addr) (mn cn : Nat) (ak : Option Addr) (mk ck : Nat), e = .returned (.agg #[.int .i64 k, .int .i64 n, .string tx, .slice an mn cn, .slice ak mk ck]) ∧ TreeIs w' (fun b => S b ∨ w.heap.size ≤ b) (cutK t i) (.agg #[.int .i64 k, .int .i64 n, .string tx, .slice an mn cn, .slice ak mk ck]) ∧ Below w.heap.size w w' := by
  obtain ⟨k, n, tx, nm, ks⟩ := t
  dsimp only [Tr.kids] at hi hc
  rw [Tr.named] at hnd
  obtain ⟨an, cn, ak, ck, rfl, hnm, hk⟩ := TreeIs.open ht
  have hcap : nm.length ≤ cn ∧ ks.length ≤ ck := TreeIs.caps ht
  obtain ⟨g, rfl, hg, hkid⟩ : ∃ g, ak = some ⟨g, 0, none⟩ ∧ g < w.heap.size ∧ ∀ i x, ks[i]? = some x → KidAt w S x g i := by
    rcases hk with h0 | ⟨g, h1, _, h2, h3⟩
    · rw [h0] at hi; simp at hi
    · exact ⟨g, h1, h2, h3⟩
  obtain ⟨l, hl, hlc, hlT, hone⟩ := kids_list (j := 0) (kidsAt_iff.2 (fun i x hx => by rw [Nat.zero_add]; exact hkid i x hx))
  obtain ⟨i5, h50, h51, h52, h53⟩ := info_parts infoV
  have HI : Hid (Tryz.prog.info? 44 = some i5 ∧ i5.zero = some (.agg #[.int .i64 0, .int .i64 0, .string ⟨#[]⟩, .slice none 0 0, .slice none 0 0]) ∧ i5.size = 5 ∧ i5.bytes = 80) := ⟨h50, h51, h52, h53⟩
  have HNM : Hid (NamsAt w S an nm) := hnm
  have HND : Hid (k = 7 → nm.length = ks.length) := hnd.1
  have HLT : Hid (∀ (i : Nat) (y : Tr), ks[i]? = some y → ∃ f, l[i]? = some f ∧ TreeIs w S y f.agg) := hlT
  have HO1 : Hid (∀ u ∈ fiveCells (l.take i), u.oneCell' = true) := five_ones hone (fun f hf => List.mem_of_mem_take hf)
  have HO2 : Hid (∀ u ∈ fiveCells (l.drop (i + 1)), u.oneCell' = true) := five_ones hone (fun f hf => List.mem_of_mem_drop hf)
  have HC1 : Hid (∀ (q : Nat) (u : Value), (fiveCells (l.take i))[q]? = some u → w.cell? ((⟨g, 0, none⟩ : Addr).add q) = some u) := by
    have := five_at (w := w) (g := g) (o := 0) (l := l.take i) (fun j f hf => hlc j f (by
      rw [List.getElem?_take] at hf
      split at hf
      · exact hf
      · simp at hf))
    rw [Nat.zero_mul] at this
    exact this
  have HC2 : Hid (∀ (q : Nat) (u : Value), (fiveCells (l.drop (i + 1)))[q]? = some u → w.cell? ((⟨g, (i + 1) * 5, none⟩ : Addr).add q) = some u) := five_at (w := w) (g := g) (o := i + 1) (l := l.drop (i + 1)) (fun j f hf => by
      rw [List.getElem?_drop] at hf
      have := hlc (i + 1 + j) f hf
      rwa [Nat.zero_add] at this)
  have HLN : Hid ((l.take i).length = i ∧ (l.drop (i + 1)).length = ks.length - (i + 1)) := ⟨by rw [List.length_take]; omega, by rw [List.length_drop]; omega⟩
  clear hnm hk hkid hlc hlT hone ht h50 h51 h52 h53 hnd
  go_enter Tryz.func52, Tryz.ntmps52
  go_upto_region 1 with fail
  generalize hW0 : (w.alloc (.cells #[.int .i64 k, .int .i64 n, .string tx, .slice an nm.length cn, .slice (some ⟨g, 0, none⟩) ks.length ck] 44)).alloc (.cells #[.int .i64 0, .int .i64 0, .string ⟨#[]⟩, .slice none 0 0, .slice none 0 0] 44) = W0
  have hs0 : W0.heap.size = w.heap.size + 2 := by rw [← hW0]; simp
  have HB0 : Hid (Below w.heap.size w W0) := by show Below _ _ _; rw [← hW0]; exact ((Below.refl _ w).alloc (Nat.le_refl _) _).alloc (by simp) _
  have HV : Hid (FiveAt W0 w.heap.size (.int .i64 k) (.int .i64 n) (.string tx) (.slice an nm.length cn) (.slice (some ⟨g, 0, none⟩) ks.length ck)) := by
    show FiveAt _ _ _ _ _ _ _
    rw [← hW0]
    exact (fiveAt_new w _ _ _ _ _ _).below ((Below.refl _ _).alloc (Nat.le_refl _) _) (by simp)
  have HZ : Hid (FiveAt W0 (w.heap.size + 1) (.int .i64 0) (.int .i64 0) (.string ⟨#[]⟩) (.slice none 0 0) (.slice none 0 0)) := by
    show FiveAt _ _ _ _ _ _ _
    rw [← hW0]
    have := fiveAt_new (w.alloc (.cells #[.int .i64 k, .int .i64 n, .string tx, .slice an nm.length cn, .slice (some ⟨g, 0, none⟩) ks.length ck] 44)) (.int .i64 0) (.int .i64 0) (.string ⟨#[]⟩) (.slice none 0 0) (.slice none 0 0) 44
    rw [World.size_alloc] at this
    exact this
  clear hW0
  go_cut [] (fun wx => ∃ a2 c2, Hid (FiveAt wx w.heap.size (.int .i64 k) (.int .i64 n) (.string tx) (.slice an nm.length cn) (.slice a2 (ks.length - 1) c2) ∧ FiveAt wx (w.heap.size + 1) (.int .i64 0) (.int .i64 0) (.string ⟨#[]⟩) (.slice none 0 0) (.slice none 0 0) ∧ wx.ownsRow (w.heap.size + 2) 44 5 (.slice a2 (ks.length - 1) c2) (ks.length - 1) (fiveCells (l.eraseIdx i)) ∧ w.heap.size + 2 ≤ wx.heap.size ∧ Below w.heap.size w wx))
  case first =>
    obtain ⟨⟨_, _, _, _, a4⟩, _, _, _, _, f4⟩ := HV.out
    have i0 : (0 : Int) ≤ (i : Int) := by omega
    have i1 : (i : Int) < (ks.length : Int) := by omega
    have i2 : (i : Int) ≤ (ck : Int) := by omega
    have i3 : (ks.length : Int) ≤ (ck : Int) := by omega
    have i4 : (i : Int) + 1 ≤ (ks.length : Int) := by omega
    have i5' : i ≤ ck := by omega
    have i6 : ks.length ≤ ck := by omega
    have i7 : i + 1 ≤ ks.length := by omega
    have i8 : (0 : Int) ≤ (i : Int) + 1 := by omega
    have i9 : ((i : Int) + 1).toNat = i + 1 := by omega
    have i10 : IntKind.i64.wrap ((i : Int) + 1) = (i : Int) + 1 := by rw [IntKind.wrap_i64]; omega
    obtain ⟨o2, HAX⟩ : ∃ o2, Hid ((if ck = i + 1 then some (⟨g, 0, none⟩ : Addr) else some ⟨g, (i + 1) * 5, none⟩) = some ⟨g, o2, none⟩ ∧ ∀ (q : Nat) (u : Value), (fiveCells (l.drop (i + 1)))[q]? = some u → w.cell? ((⟨g, o2, none⟩ : Addr).add q) = some u) := by
      by_cases e : ck = i + 1
      · refine ⟨0, by rw [if_pos e], fun q u hu => ?_⟩
        rw [List.drop_of_length_le (by omega)] at hu
        simp [fiveCells] at hu
      · exact ⟨(i + 1) * 5, by rw [if_neg e], HC2.out⟩
    have HOE : Hid (((W0.alloc (.cells #[] 44)).drew).ownsRow (w.heap.size + 2) 44 5 (.slice (some ⟨w.heap.size + 2, 0, none⟩) 0 0) 0 []) := by
      have := own_empty W0 44 5 (w.heap.size + 2) (by omega)
      rw [hs0] at this
      exact row_block this (fun _ _ _ _ => rfl)
    have HBE : Hid (Below w.heap.size w ((W0.alloc (.cells #[] 44)).drew)) := (HB0.out.alloc (by omega) _).drew
    have HSE : Hid (((W0.alloc (.cells #[] 44)).drew).heap.size = w.heap.size + 3) := by show (W0.alloc _).heap.size = _; rw [World.size_alloc, hs0]
    have HN1 : Hid (∀ (q : Nat) (u : Value), (fiveCells (l.take i))[q]? = some u → ((W0.alloc (.cells #[] 44)).drew).cell? ((⟨g, 0, none⟩ : Addr).add q) = some u) := fun q u hu => by
      have := HC1.out q u hu
      have ea : (⟨g, 0, none⟩ : Addr).add q = ⟨g, 0 + q, none⟩ := by unfold Addr.add; split <;> simp_all
      rw [ea] at this ⊢
      exact (HBE.out.cell hg).trans this
    have HL1 : Hid ((fiveCells (l.take i)).length = i * 5) := by show _ = _; rw [five_len, HLN.out.1]
    have HL2 : Hid ((fiveCells (l.drop (i + 1))).length = (ks.length - (i + 1)) * 5) := by show _ = _; rw [five_len, HLN.out.2]
    have HP4 : Hid (((W0.alloc (.cells #[] 44)).drew).frozen? ⟨w.heap.size, 4, none⟩ = false) := by
      show (W0.alloc _).frozen? _ = _
      rw [World.frozen?_of_block (heap_alloc_old _ _ (by show w.heap.size < _; omega))]
      exact f4
    have HF4 : Hid (((W0.alloc (.cells #[] 44)).drew).cell? ⟨w.heap.size, 4, none⟩ = some (.slice (some ⟨g, 0, none⟩) ks.length ck)) := by
      show (W0.alloc _).cell? _ = _
      rw [World.cell?_of_block (heap_alloc_old _ _ (by show w.heap.size < _; omega))]
      exact a4
    go_region_law (first | (refine step_append_at (by rfl) _ _ 42 (by rfl) (w.heap.size + 2) 44 i5 _ 5 80 Tryz.underlying42 HI.out.1 HI.out.2.1 HI.out.2.2.1 HI.out.2.2.2 rfl (by decide) (.slice (some ⟨w.heap.size + 2, 0, none⟩) 0 0) 0 [] (by rfl) HOE.out (some ⟨g, 0, none⟩) ⟨g, 0, none⟩ i ck (fiveCells (l.take i)) (by rfl) rfl HL1.out HN1.out HO1.out (by unfold maxLen; omega) (by omega) (by rw [HSE.out]; omega) ?_; intro v6 w6 hown6 hg6; have hne6 : some w.heap.size ≠ v6.ownBlock := fun e => (by have := own_lt hown6 e; omega); have z6 := hg6.size; rw [HSE.out] at z6; have q6 : w6.cell? ⟨w.heap.size, 4, none⟩ = some (.slice (some ⟨g, 0, none⟩) ks.length ck) := (hg6.cell_far ⟨w.heap.size, 4, none⟩ (by rw [HSE.out]; show w.heap.size < _; omega) (far_row w.heap.size (w.heap.size + 2) (by omega))).trans HF4.out) | (refine step_append_at (by rfl) _ _ 42 (by rfl) (w.heap.size + 2) 44 i5 _ 5 80 Tryz.underlying42 HI.out.1 HI.out.2.1 HI.out.2.2.1 HI.out.2.2.2 rfl (by decide) v6 (0 + i) ([] ++ fiveCells (l.take i)) (by rfl) hown6 (if ck = i + 1 then some ⟨g, 0, none⟩ else some ⟨g, (i + 1) * 5, none⟩) ⟨g, o2, none⟩ (ks.length - (i + 1)) (ck - (i + 1)) (fiveCells (l.drop (i + 1))) (by rfl) HAX.out.1 HL2.out (cut_news HAX.out.2 HBE.out hg6 (by rw [HSE.out]; omega) hg (far_row g (w.heap.size + 2) (by omega))) HO2.out (by unfold maxLen; omega) (by omega) (by omega) ?_; intro v7 w7 hown7 hg7; have hown8 := cut_own (n := ks.length) hown7 (by omega); obtain ⟨a7, c7, rfl⟩ := row_form hown8; have z7 := hg7.size; have q7 : w7.cell? ⟨w.heap.size, 4, none⟩ = some (.slice (some ⟨g, 0, none⟩) ks.length ck) := (hg7.cell_far ⟨w.heap.size, 4, none⟩ (by show w.heap.size < _; omega) hne6).trans q6; have p7 : w7.frozen? ⟨w.heap.size, 4, none⟩ = false := (hg7.frozen_far ⟨w.heap.size, 4, none⟩ (by show w.heap.size < _; omega) hne6).trans ((hg6.frozen_far ⟨w.heap.size, 4, none⟩ (by rw [HSE.out]; show w.heap.size < _; omega) (far_row w.heap.size (w.heap.size + 2) (by omega))).trans HP4.out)))
    all_goals
      have HFX := cut_facts hs0 HB0.out (Nat.le_refl _) hg6 hown6 hg7 hown8
      have HOUT : Hid (FiveAt (w7.setCell ⟨w.heap.size, 4, none⟩ (.slice a7 (ks.length - 1) c7)) w.heap.size (.int .i64 k) (.int .i64 n) (.string tx) (.slice an nm.length cn) (.slice a7 (ks.length - 1) c7) ∧ FiveAt (w7.setCell ⟨w.heap.size, 4, none⟩ (.slice a7 (ks.length - 1) c7)) (w.heap.size + 1) (.int .i64 0) (.int .i64 0) (.string ⟨#[]⟩) (.slice none 0 0) (.slice none 0 0) ∧ (w7.setCell ⟨w.heap.size, 4, none⟩ (.slice a7 (ks.length - 1) c7)).ownsRow (w.heap.size + 2) 44 5 (.slice a7 (ks.length - 1) c7) (ks.length - 1) (fiveCells (l.eraseIdx i)) ∧ w.heap.size + 2 ≤ (w7.setCell ⟨w.heap.size, 4, none⟩ (.slice a7 (ks.length - 1) c7)).heap.size ∧ Below w.heap.size w (w7.setCell ⟨w.heap.size, 4, none⟩ (.slice a7 (ks.length - 1) c7))) :=
        ⟨(HFX.1 (by omega) HV.out).set4 _, (HFX.1 (by omega) HZ.out).but (BelowBut.setCell (B := w7.heap.size) w7 _ _) (by omega) (by omega), row_block hown8 (fun b hb _ _ => Below.heap_setCell _ _ _ _ (by show b ≠ w.heap.size; omega)), by simpa [World.setCell] using HFX.2.2.1, HFX.2.2.2.setCell (p := ⟨w.heap.size, 4, none⟩) (Nat.le_refl _) _⟩
      clear HAX
      generalize (if ck = i + 1 then some (⟨g, 0, none⟩ : Addr) else some ⟨g, (i + 1) * 5, none⟩) = ax
      go_wp2_with fail
      go_meet
      case rel => exact ⟨a7, c7, HOUT⟩
  case rest =>
    obtain ⟨a2, c2, HF⟩ := hcut
    clear HV HZ HB0 hs0 HO1 HO2 HC1 HC2 HI
    have HNMX : Hid (k = 7 → ∃ gn, an = some ⟨gn, 0, none⟩ ∧ gn < w.heap.size ∧ ∀ j, j < nm.length → w.cell? ⟨gn, j, none⟩ = some (.string (nm.getD j ByteArray.empty))) := fun h7 => by
      rcases HNM.out with h0 | ⟨gn, rfl, _, h2, h3⟩
      · have := HND.out h7
        rw [h0] at this
        simp at this
        omega
      · exact ⟨gn, rfl, h2, h3⟩
    have b0 := HF.out.1.1.1
    go_upto_if 20 with fail
    go_cut [] (fun wx => ∃ an2 cn2, Hid (FiveAt wx w.heap.size (.int .i64 k) (.int .i64 n) (.string tx) (.slice an2 (if k = 7 then nm.eraseIdx i else nm).length cn2) (.slice a2 (ks.length - 1) c2) ∧ FiveAt wx (w.heap.size + 1) (.int .i64 0) (.int .i64 0) (.string ⟨#[]⟩) (.slice none 0 0) (.slice none 0 0) ∧ wx.ownsRow (w.heap.size + 2) 44 5 (.slice a2 (ks.length - 1) c2) (ks.length - 1) (fiveCells (l.eraseIdx i)) ∧ (NamsAt wx (fun b => (S b ∧ b < w.heap.size) ∨ w.heap.size + 2 ≤ b) an2 (if k = 7 then nm.eraseIdx i else nm) ∧ (if k = 7 then nm.eraseIdx i else nm).length ≤ cn2) ∧ w.heap.size + 2 ≤ wx.heap.size ∧ Below w.heap.size w wx))
    case first =>
      by_cases h7 : k = 7
      · subst h7
        obtain ⟨gn, rfl, hgn, hnc⟩ := HNMX.out rfl
        have HNL : Hid (nm.length = ks.length) := HND.out rfl
        have i1' : i < nm.length := by have := HNL.out; omega
        have i20 : nm.length ≤ 2 ^ 20 := by have := HNL.out; omega
        have hww : w.heap.size < wc.heap.size := by have := HF.out.2.2.2.1; omega
        obtain ⟨iS, h50, h51, h52, h53⟩ := info_parts infoStr
        have HI : Hid (Tryz.prog.info? 9 = some iS ∧ iS.zero = some (.string ⟨#[]⟩) ∧ iS.size = 1 ∧ iS.bytes = 16) := ⟨h50, h51, h52, h53⟩
        clear h50 h51 h52 h53
        have hws : w.heap.size + 2 ≤ wc.heap.size := HF.out.2.2.2.1
        have HBW : Hid (Below w.heap.size w wc) := HF.out.2.2.2.2
        have a3 := HF.out.1.1.2.2.2.1
        have f3 := HF.out.1.2.2.2.2.1
        have i0 : (0 : Int) ≤ (i : Int) := by omega
        have i1 : (i : Int) < (nm.length : Int) := by omega
        have i2 : (i : Int) ≤ (cn : Int) := by omega
        have i3 : (nm.length : Int) ≤ (cn : Int) := by omega
        have i4 : (i : Int) + 1 ≤ (nm.length : Int) := by omega
        have i5' : i ≤ cn := by omega
        have i6 : nm.length ≤ cn := by omega
        have i7 : i + 1 ≤ nm.length := by omega
        have i8 : (0 : Int) ≤ (i : Int) + 1 := by omega
        have i9 : ((i : Int) + 1).toNat = i + 1 := by omega
        have i10 : IntKind.i64.wrap ((i : Int) + 1) = (i : Int) + 1 := by rw [IntKind.wrap_i64]; omega
        obtain ⟨o2, HAX⟩ : ∃ o2, Hid ((if cn = i + 1 then some (⟨gn, 0, none⟩ : Addr) else some ⟨gn, i + 1, none⟩) = some ⟨gn, o2, none⟩ ∧ ∀ (q : Nat) (u : Value), ((nm.drop (i + 1)).map Value.string)[q]? = some u → w.cell? ((⟨gn, o2, none⟩ : Addr).add q) = some u) := by
          by_cases e : cn = i + 1
          · refine ⟨0, by rw [if_pos e], fun q u hu => ?_⟩
            rw [List.drop_of_length_le (by omega)] at hu
            simp at hu
          · exact ⟨i + 1, by rw [if_neg e], nams_cells hnc (i + 1) _ (fun q x hx => by rwa [List.getElem?_drop] at hx)⟩
        have HC1 : Hid (∀ (q : Nat) (u : Value), ((nm.take i).map Value.string)[q]? = some u → w.cell? ((⟨gn, 0, none⟩ : Addr).add q) = some u) := nams_cells hnc 0 _ (fun q x hx => by
          rw [List.getElem?_take] at hx
          rw [Nat.zero_add]
          split at hx
          · exact hx
          · simp at hx)
        have HO1 : Hid (∀ u ∈ (nm.take i).map Value.string, u.oneCell' = true) := str_ones _
        have HO2 : Hid (∀ u ∈ (nm.drop (i + 1)).map Value.string, u.oneCell' = true) := str_ones _
        have HOE : Hid (((wc.alloc (.cells #[] 9)).drew).ownsRow wc.heap.size 9 1 (.slice (some ⟨wc.heap.size, 0, none⟩) 0 0) 0 []) := row_block (own_empty wc 9 1 wc.heap.size (Nat.le_refl _)) (fun _ _ _ _ => rfl)
        have HBE : Hid (Below w.heap.size w ((wc.alloc (.cells #[] 9)).drew)) := (HBW.out.alloc (by omega) _).drew
        have HSE : Hid (((wc.alloc (.cells #[] 9)).drew).heap.size = wc.heap.size + 1) := by show (wc.alloc _).heap.size = _; rw [World.size_alloc]
        have HN1 : Hid (∀ (q : Nat) (u : Value), ((nm.take i).map Value.string)[q]? = some u → ((wc.alloc (.cells #[] 9)).drew).cell? ((⟨gn, 0, none⟩ : Addr).add q) = some u) := fun q u hu => by
          have := HC1.out q u hu
          have ea : (⟨gn, 0, none⟩ : Addr).add q = ⟨gn, 0 + q, none⟩ := by unfold Addr.add; split <;> simp_all
          rw [ea] at this ⊢
          exact (HBE.out.cell hgn).trans this
        have HL1 : Hid (((nm.take i).map Value.string).length = i * 1) := by show _ = _; rw [List.length_map, List.length_take]; omega
        have HL2 : Hid (((nm.drop (i + 1)).map Value.string).length = (nm.length - (i + 1)) * 1) := by show _ = _; rw [List.length_map, List.length_drop]; omega
        have HP4 : Hid (((wc.alloc (.cells #[] 9)).drew).frozen? ⟨w.heap.size, 3, none⟩ = false) := by
          show (wc.alloc _).frozen? _ = _
          rw [World.frozen?_of_block (heap_alloc_old _ _ (by show w.heap.size < _; omega))]
          exact f3
        have HF4 : Hid (((wc.alloc (.cells #[] 9)).drew).cell? ⟨w.heap.size, 3, none⟩ = some (.slice (some ⟨gn, 0, none⟩) nm.length cn)) := by
          show (wc.alloc _).cell? _ = _
          rw [World.cell?_of_block (heap_alloc_old _ _ (by show w.heap.size < _; omega))]
          exact a3
        clear hnc
        go_wp2_with fail
        go_region_law (first | (refine step_append_at (by rfl) _ _ 38 (by rfl) wc.heap.size 9 iS _ 1 16 Tryz.underlying38 HI.out.1 HI.out.2.1 HI.out.2.2.1 HI.out.2.2.2 rfl (by decide) (.slice (some ⟨wc.heap.size, 0, none⟩) 0 0) 0 [] (by rfl) HOE.out (some ⟨gn, 0, none⟩) ⟨gn, 0, none⟩ i cn ((nm.take i).map Value.string) (by rfl) rfl HL1.out HN1.out HO1.out (by unfold maxLen; omega) (by omega) (by rw [HSE.out]; omega) ?_; intro v6 w6 hown6 hg6; have hne6 : some w.heap.size ≠ v6.ownBlock := fun e => (by have := own_lt hown6 e; omega); have z6 := hg6.size; rw [HSE.out] at z6; have q6 : w6.cell? ⟨w.heap.size, 3, none⟩ = some (.slice (some ⟨gn, 0, none⟩) nm.length cn) := (hg6.cell_far ⟨w.heap.size, 3, none⟩ (by rw [HSE.out]; show w.heap.size < _; omega) (far_row w.heap.size wc.heap.size (by omega))).trans HF4.out) | (refine step_append_at (by rfl) _ _ 38 (by rfl) wc.heap.size 9 iS _ 1 16 Tryz.underlying38 HI.out.1 HI.out.2.1 HI.out.2.2.1 HI.out.2.2.2 rfl (by decide) v6 (0 + i) ([] ++ (nm.take i).map Value.string) (by rfl) hown6 (if cn = i + 1 then some ⟨gn, 0, none⟩ else some ⟨gn, i + 1, none⟩) ⟨gn, o2, none⟩ (nm.length - (i + 1)) (cn - (i + 1)) ((nm.drop (i + 1)).map Value.string) (by rfl) HAX.out.1 HL2.out (cut_news HAX.out.2 HBE.out hg6 (by rw [HSE.out]; omega) hgn (far_row gn wc.heap.size (by omega))) HO2.out (by unfold maxLen; omega) (by omega) (by omega) ?_; intro v7 w7 hown7 hg7; have hown8 := cut_ownS (n := nm.length) hown7 (by omega); obtain ⟨a7, c7, rfl⟩ := row_form hown8; have z7 := hg7.size; have q7 : w7.cell? ⟨w.heap.size, 3, none⟩ = some (.slice (some ⟨gn, 0, none⟩) nm.length cn) := (hg7.cell_far ⟨w.heap.size, 3, none⟩ (by show w.heap.size < _; omega) hne6).trans q6; have p7 : w7.frozen? ⟨w.heap.size, 3, none⟩ = false := (hg7.frozen_far ⟨w.heap.size, 3, none⟩ (by show w.heap.size < _; omega) hne6).trans ((hg6.frozen_far ⟨w.heap.size, 3, none⟩ (by rw [HSE.out]; show w.heap.size < _; omega) (far_row w.heap.size wc.heap.size (by omega))).trans HP4.out)))
        all_goals
          have HFX := cut_facts rfl HBW.out hws hg6 hown6 hg7 hown8
          have HOUT : Hid (FiveAt (w7.setCell ⟨w.heap.size, 3, none⟩ (.slice a7 (nm.length - 1) c7)) w.heap.size (.int .i64 7) (.int .i64 n) (.string tx) (.slice a7 (nm.length - 1) c7) (.slice a2 (ks.length - 1) c2) ∧ FiveAt (w7.setCell ⟨w.heap.size, 3, none⟩ (.slice a7 (nm.length - 1) c7)) (w.heap.size + 1) (.int .i64 0) (.int .i64 0) (.string ⟨#[]⟩) (.slice none 0 0) (.slice none 0 0) ∧ (w7.setCell ⟨w.heap.size, 3, none⟩ (.slice a7 (nm.length - 1) c7)).ownsRow (w.heap.size + 2) 44 5 (.slice a2 (ks.length - 1) c2) (ks.length - 1) (fiveCells (l.eraseIdx i)) ∧ (NamsAt (w7.setCell ⟨w.heap.size, 3, none⟩ (.slice a7 (nm.length - 1) c7)) (fun b => (S b ∧ b < w.heap.size) ∨ w.heap.size + 2 ≤ b) a7 (nm.eraseIdx i) ∧ (nm.eraseIdx i).length ≤ c7) ∧ w.heap.size + 2 ≤ (w7.setCell ⟨w.heap.size, 3, none⟩ (.slice a7 (nm.length - 1) c7)).heap.size ∧ Below w.heap.size w (w7.setCell ⟨w.heap.size, 3, none⟩ (.slice a7 (nm.length - 1) c7))) :=
            ⟨(HFX.1 (by omega) HF.out.1).set3 _, (HFX.1 (by omega) HF.out.2.1).but (BelowBut.setCell (B := w7.heap.size) w7 _ _) (by omega) (by omega), row_block HF.out.2.2.1 (fun b hb hlt _ => (Below.heap_setCell _ _ _ _ (by show b ≠ w.heap.size; omega)).trans (HFX.2.1 b hlt)), ⟨nams_own (row_block hown8 (fun b hb _ _ => Below.heap_setCell _ _ _ _ (by show b ≠ w.heap.size; omega))) (by rw [List.length_eraseIdx_of_lt (by omega)]) (fun b hb => .inr (by omega)), by rw [List.length_eraseIdx_of_lt (by omega)]; exact own_cap hown8⟩, by have := HFX.2.2.1; simp [World.setCell]; omega, HFX.2.2.2.setCell (p := ⟨w.heap.size, 3, none⟩) (Nat.le_refl _) _⟩
          clear HAX
          generalize (if cn = i + 1 then some (⟨gn, 0, none⟩ : Addr) else some ⟨gn, i + 1, none⟩) = ax
          go_wp2_with fail
          go_meet
          case rel =>
            refine ⟨a7, c7, ?_⟩
            show _ ∧ _
            rw [if_pos trivial, List.length_eraseIdx_of_lt i1']
            have := HOUT.out
            rw [List.length_eraseIdx_of_lt i1'] at this
            exact this
      · have h7' : (k == 7) = false := by simpa using h7
        have HG : Hid ((if k = 7 then nm.eraseIdx i else nm) = nm) := by show _ = _; rw [if_neg h7]
        go_wp2_with fail
        go_meet
        case rel =>
          refine ⟨an, cn, ?_⟩
          have h := HF.out
          show _ ∧ _
          rw [HG.out]
          exact ⟨h.1, h.2.1, h.2.2.1, ⟨HNM.out.keep (fun b _ hb => h.2.2.2.2.block b hb) (fun b hS hb => .inl ⟨hS, hb⟩) h.2.2.2.2.size, hcap.1⟩, h.2.2.2.1, h.2.2.2.2⟩
    case rest =>
      obtain ⟨an2, cn2, HF2⟩ := hcut
      clear HF HNMX b0
      obtain ⟨nm2, hnm2⟩ : ∃ nm2, nm2 = (if k = 7 then nm.eraseIdx i else nm) := ⟨_, rfl⟩
      rw [← hnm2] at HF2
      have HN2 : Hid (nm2 = (if k = 7 then nm.eraseIdx i else nm)) := hnm2
      clear hnm2
      obtain ⟨hV4, hZ4, hR4, hN4, hz4, hB4⟩ := HF2.out
      have HQ := hZ4.set (.int .i64 k) (.int .i64 n) (.string tx) (.slice an2 nm2.length cn2) (.slice a2 (ks.length - 1) c2)
      obtain ⟨W5, hW5⟩ : ∃ W5, W5 = (((((wc.setCell ⟨w.heap.size + 1, 0, none⟩ (.int .i64 k)).setCell ⟨w.heap.size + 1, 1, none⟩ (.int .i64 n)).setCell ⟨w.heap.size + 1, 2, none⟩ (.string tx)).setCell ⟨w.heap.size + 1, 3, none⟩ (.slice an2 nm2.length cn2)).setCell ⟨w.heap.size + 1, 4, none⟩ (.slice a2 (ks.length - 1) c2)) := ⟨_, rfl⟩
      rw [← hW5] at HQ
      obtain ⟨⟨⟨s0, s1, s2, s3, s4⟩, _⟩, hbb⟩ := HQ
      have HBF : Hid (Below w.heap.size w W5) := hB4.trans ((hbb w.heap.size).below (Nat.le_refl _) (by omega))
      have hle : (ks.eraseIdx i).length = ks.length - 1 := List.length_eraseIdx_of_lt hi
      have hblk : ∀ b, b < wc.heap.size → b ≠ w.heap.size + 1 → W5.heap[b]? = wc.heap[b]? := fun b h1 h2 => (hbb wc.heap.size).block b h1 h2
      have HTF : Hid (TreeIs W5 (fun b => S b ∨ w.heap.size ≤ b) (.mk k n tx nm2 (ks.eraseIdx i)) (.agg #[.int .i64 k, .int .i64 n, .string tx, .slice an2 nm2.length cn2, .slice a2 (ks.length - 1) c2])) := by
        have h1 : W5.ownsRow (w.heap.size + 2) 44 5 (.slice a2 (ks.eraseIdx i).length c2) (ks.eraseIdx i).length (fiveCells (l.eraseIdx i)) := by
          rw [hle]
          exact row_block hR4 (fun b hb hlt _ => hblk b hlt (by omega))
        have h2 : NamsAt W5 (fun b => S b ∨ w.heap.size ≤ b) an2 nm2 := hN4.1.keep (fun b hS hb => hblk b hb (by rcases hS with h | h <;> omega)) (fun b hS _ => by rcases hS with h | h; exact .inl h.1; exact .inr (by omega)) (hbb 0).size
        have h3 : (l.eraseIdx i).length = (ks.eraseIdx i).length := by rw [List.length_eraseIdx_of_lt (by omega), hle, hl]
        have h4 : ∀ (j : Nat) (y : Tr) (f : Five), (ks.eraseIdx i)[j]? = some y → (l.eraseIdx i)[j]? = some f → TreeIs W5 (fun b => S b ∨ w.heap.size ≤ b) y f.agg := fun j y f hy hf => by
          rw [List.getElem?_eraseIdx] at hy hf
          split at hy
          · rename_i hj
            rw [if_pos hj] at hf
            obtain ⟨f', hf', htr⟩ := HLT.out j y hy
            obtain rfl := Option.some.inj (hf.symm.trans hf')
            exact TreeIs.keep (fun b _ hb => HBF.out.block b hb) (fun _ h _ => .inl h) HBF.out.size _ _ htr
          · rename_i hj
            rw [if_neg hj] at hf
            obtain ⟨f', hf', htr⟩ := HLT.out (j + 1) y hy
            obtain rfl := Option.some.inj (hf.symm.trans hf')
            exact TreeIs.keep (fun b _ hb => HBF.out.block b hb) (fun _ h _ => .inl h) HBF.out.size _ _ htr
        have h5 := tree_own (k := k) (n := n) (tx := tx) (cn := cn2) h1 (fun b hb => .inr (by omega)) h2 h3 h4 hN4.2
        rw [hle] at h5
        exact h5
      subst hW5
      obtain ⟨⟨t0, t1, t2, t3, t4⟩, _⟩ := hV4
      obtain ⟨⟨v0, v1, v2, v3, v4⟩, y0, y1, y2, y3, y4⟩ := hZ4
      clear hR4 hbb hB4 hz4 hN4 hblk hle
      go_wp2_with fail
      exact bodyPost_ret (v := .agg #[.int .i64 k, .int .i64 n, .string tx, .slice an2 nm2.length cn2, .slice a2 (ks.length - 1) c2]) (by simp [results, Tryz.results52, go_sem, s0, s1, s2, s3, s4]) rfl ⟨_, _, _, _, _, _, _, _, _, rfl, by have := HTF.out; rw [HN2.out] at this ⊢; exact this, HBF.out⟩

end Go.Proofs.YtcceaadidnmdaaaGreatDoor
