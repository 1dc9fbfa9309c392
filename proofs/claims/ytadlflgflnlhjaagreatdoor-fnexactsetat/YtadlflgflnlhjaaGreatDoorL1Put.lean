/- A tree with another part in a place: the specification's l3With. A tree without one of its parts: the specification's l3Cut. A tree with one part more: the specification's l1Put. -/
import Derived.Test.YtadlflgflnlhjaaGreatDoorL3G0
import Derived.Test.YtadlflgflnlhjaaGreatDoorTrBld
import Derived.Test.YtadlflgflnlhjaaGreatDoorTreeF
import Derived.Deep.DeepCutAuto
import Derived.Deep.RegionLaw
import Derived.Deep.AppendLies
import Derived.Maps.AppendAt
namespace Go.Proofs.YtadlflgflnlhjaaGreatDoor
open Go.RowKit
set_option linter.unusedVariables false

/-- The parts' heads in a row. -/
theorem kids_list {w : World} {S : Nat → Prop} {ks : List Tr} {g : Nat} : ∀ {j : Nat}, KidsAt w S ks g j → ∃ l : List Five, l.length = ks.length ∧ (∀ (i : Nat) (f : Five), l[i]? = some f → w.cell? ⟨g, (j + i) * 5, none⟩ = some f.a ∧ w.cell? ⟨g, (j + i) * 5 + 1, none⟩ = some f.b ∧ w.cell? ⟨g, (j + i) * 5 + 2, none⟩ = some f.c ∧ w.cell? ⟨g, (j + i) * 5 + 3, none⟩ = some f.d ∧ w.cell? ⟨g, (j + i) * 5 + 4, none⟩ = some f.e) ∧
    (∀ (i : Nat) (x : Tr), ks[i]? = some x → ∃ f, l[i]? = some f ∧ TreeIs w S x f.agg) ∧ ∀ u ∈ fiveCells l, u.oneCell' = true := by
  induction ks with
  | nil => intro j _; exact ⟨[], rfl, fun i f h => by simp at h, fun i x h => by simp at h, fun u hu => by simp [fiveCells] at hu⟩
  | cons t ks ih =>
    intro j h
    rw [KidsAt] at h
    obtain ⟨⟨x0, x1, x2, x3, x4, c0, c1, c2, c3, c4, ht⟩, hr⟩ := h
    obtain ⟨l, hl, hc, hT, ho⟩ := ih hr
    obtain ⟨x, hx, hone⟩ := ht.five
    simp only [Five.agg, Value.agg.injEq, Array.mk.injEq, List.cons.injEq, and_true] at hx
    obtain ⟨rfl, rfl, rfl, rfl, rfl⟩ := hx
    refine ⟨x :: l, by simp [hl], fun i f hf => ?_, fun i y hy => ?_, fun u hu => ?_⟩
    · cases i with
      | zero => simp at hf; subst hf; exact ⟨c0, c1, c2, c3, c4⟩
      | succ i =>
        have := hc i f (by simpa using hf)
        rwa [show j + 1 + i = j + (i + 1) by omega] at this
    · cases i with
      | zero => simp at hy; subst hy; exact ⟨x, rfl, ht⟩
      | succ i => exact hT i y (by simpa using hy)
    · rw [show fiveCells (x :: l) = x.cells ++ fiveCells l by simp [fiveCells]] at hu
      rcases List.mem_append.1 hu with hu | hu
      · exact hone u hu
      · exact ho u hu

/-- The cells of a row of heads, one by one. -/
theorem five_at {w : World} {g o : Nat} {l : List Five} (h : ∀ (i : Nat) (f : Five), l[i]? = some f → w.cell? ⟨g, (o + i) * 5, none⟩ = some f.a ∧ w.cell? ⟨g, (o + i) * 5 + 1, none⟩ = some f.b ∧ w.cell? ⟨g, (o + i) * 5 + 2, none⟩ = some f.c ∧ w.cell? ⟨g, (o + i) * 5 + 3, none⟩ = some f.d ∧ w.cell? ⟨g, (o + i) * 5 + 4, none⟩ = some f.e) :
    ∀ (q : Nat) (u : Value), (fiveCells l)[q]? = some u → w.cell? ((⟨g, o * 5, none⟩ : Addr).add q) = some u := by
  intro q u hu
  have hlt := (List.getElem?_eq_some_iff.1 hu).1
  rw [five_len] at hlt
  obtain ⟨m, r, hq, hr⟩ : ∃ m r, q = m * 5 + r ∧ r < 5 := ⟨q / 5, q % 5, by omega, Nat.mod_lt _ (by omega)⟩
  obtain ⟨f, hf⟩ : ∃ f, l[m]? = some f := ⟨_, List.getElem?_eq_getElem (show m < l.length by omega)⟩
  obtain ⟨h0, h1, h2, h3, h4⟩ := five_get l m f hf
  obtain ⟨c0, c1, c2, c3, c4⟩ := h m f hf
  have ea : (⟨g, o * 5, none⟩ : Addr).add q = ⟨g, (o + m) * 5 + r, none⟩ := by
    have : (⟨g, o * 5, none⟩ : Addr).add q = ⟨g, o * 5 + q, none⟩ := by unfold Addr.add; split <;> simp_all
    rw [this, hq, show o * 5 + (m * 5 + r) = (o + m) * 5 + r by omega]
  rw [ea]
  rw [hq] at hu
  match r, hr with
  | 0, _ => exact c0.trans (h0.symm.trans hu)
  | 1, _ => exact c1.trans (h1.symm.trans hu)
  | 2, _ => exact c2.trans (h2.symm.trans hu)
  | 3, _ => exact c3.trans (h3.symm.trans hu)
  | 4, _ => exact c4.trans (h4.symm.trans hu)

/-- A list that is made and is empty. -/
theorem own_empty (W : World) (e : TypeId) (size B : Nat) (hB : B ≤ W.heap.size) : (W.alloc (.cells #[] e)).ownsRow B e size (.slice (some ⟨W.heap.size, 0, none⟩) 0 0) 0 [] :=
  ⟨by simp, .inr ⟨W.heap.size, 0, #[], rfl, hB, World.alloc_heap_new W _, Nat.le_refl _, Nat.zero_le _, by simp, by simp⟩⟩

theorem FiveAt.grown {w w' : World} {B : Nat} {row : Option Nat} {x0 x1 x2 x3 x4 : Value} (h : FiveAt w B x0 x1 x2 x3 x4) (hg : w.grownBy w' row) (hlt : B < w.heap.size) (hne : some B ≠ row) : FiveAt w' B x0 x1 x2 x3 x4 := by
  have e : ∀ o, w'.cell? ⟨B, o, none⟩ = w.cell? ⟨B, o, none⟩ := fun o => World.cell?_of_block (hg.block B hlt hne)
  have f : ∀ o, w'.frozen? ⟨B, o, none⟩ = w.frozen? ⟨B, o, none⟩ := fun o => World.frozen?_of_block (hg.block B hlt hne)
  obtain ⟨⟨a0, a1, a2, a3, a4⟩, f0, f1, f2, f3, f4⟩ := h
  exact ⟨⟨(e _).trans a0, (e _).trans a1, (e _).trans a2, (e _).trans a3, (e _).trans a4⟩, (f _).trans f0, (f _).trans f1, (f _).trans f2, (f _).trans f3, (f _).trans f4⟩

/-- A row of heads that may be written. -/
def RowAt (w : World) (g : Nat) (l : List Five) : Prop := (∀ (i : Nat) (f : Five), l[i]? = some f → w.cell? ⟨g, i * 5, none⟩ = some f.a ∧ w.cell? ⟨g, i * 5 + 1, none⟩ = some f.b ∧ w.cell? ⟨g, i * 5 + 2, none⟩ = some f.c ∧ w.cell? ⟨g, i * 5 + 3, none⟩ = some f.d ∧ w.cell? ⟨g, i * 5 + 4, none⟩ = some f.e) ∧ ∀ o, w.frozen? ⟨g, o, none⟩ = false
theorem row_at {w : World} {B cap : Nat} {g : Nat} {l : List Five} (h : w.ownsRow B 60 5 (.slice (some ⟨g, 0, none⟩) l.length cap) l.length (fiveCells l)) : RowAt w g l := by
  have hcells := @World.ownsRow.cells _ _ _ _ _ _ _ h
  refine ⟨fun i f hf => ?_, fun o => ?_⟩
  · obtain ⟨h0, h1, h2, h3, h4⟩ := five_get l i f hf
    have q : ∀ (j : Nat) (u : Value), (fiveCells l)[j]? = some u → w.cell? ⟨g, j, none⟩ = some u := fun j u hu => by
      have := hcells (g := g) rfl j u hu
      rwa [show ((⟨g, 0, none⟩ : Addr).add j) = ⟨g, j, none⟩ by unfold Addr.add; split <;> simp_all] at this
    exact ⟨q _ _ h0, q _ _ h1, q _ _ h2, q _ _ h3, q _ _ h4⟩
  · rcases h.2 with ⟨e, _⟩ | ⟨g', cap', cur, e, _, hh, _⟩
    · simp at e
    · obtain ⟨rfl, _⟩ : g = g' ∧ _ := by simpa using e
      simp [World.frozen?, hh]
theorem RowAt.but {w w' : World} {g C Z : Nat} {l : List Five} (h : RowAt w g l) (hb : BelowBut Z C w w') (hZ : g < Z) (hne : g ≠ C) : RowAt w' g l :=
  ⟨fun i f hf => by
    obtain ⟨c0, c1, c2, c3, c4⟩ := h.1 i f hf
    exact ⟨(hb.cell hZ hne).trans c0, (hb.cell hZ hne).trans c1, (hb.cell hZ hne).trans c2, (hb.cell hZ hne).trans c3, (hb.cell hZ hne).trans c4⟩, fun o => (hb.frozen hZ hne).trans (h.2 o)⟩
theorem RowAt.set {w : World} {g i : Nat} {l : List Five} (h : RowAt w g l) (hi : i < l.length) (y : Five) :
    RowAt (((((w.setCell ⟨g, i * 5, none⟩ y.a).setCell ⟨g, i * 5 + 1, none⟩ y.b).setCell ⟨g, i * 5 + 2, none⟩ y.c).setCell ⟨g, i * 5 + 3, none⟩ y.d).setCell ⟨g, i * 5 + 4, none⟩ y.e) g (l.set i y) ∧ ∀ Z, BelowBut Z g w (((((w.setCell ⟨g, i * 5, none⟩ y.a).setCell ⟨g, i * 5 + 1, none⟩ y.b).setCell ⟨g, i * 5 + 2, none⟩ y.c).setCell ⟨g, i * 5 + 3, none⟩ y.d).setCell ⟨g, i * 5 + 4, none⟩ y.e) := by
  obtain ⟨a0, a1, a2, a3, a4⟩ := h.1 i l[i] (List.getElem?_eq_getElem hi)
  have p : ∀ o, (((((w.setCell ⟨g, i * 5, none⟩ y.a).setCell ⟨g, i * 5 + 1, none⟩ y.b).setCell ⟨g, i * 5 + 2, none⟩ y.c).setCell ⟨g, i * 5 + 3, none⟩ y.d).setCell ⟨g, i * 5 + 4, none⟩ y.e).cell? ⟨g, o, none⟩ =
      if o = i * 5 + 4 then some y.e else if o = i * 5 + 3 then some y.d else if o = i * 5 + 2 then some y.c else if o = i * 5 + 1 then some y.b else if o = i * 5 then some y.a else w.cell? ⟨g, o, none⟩ := fun o => by
    have e0 : (w.cell? ⟨g, i * 5, none⟩).isSome = true := by rw [a0]; rfl
    have e1 : ((w.setCell ⟨g, i * 5, none⟩ y.a).cell? ⟨g, i * 5 + 1, none⟩).isSome = true := by rw [cell_set e0, if_neg (by omega), a1]; rfl
    have e2 : (((w.setCell ⟨g, i * 5, none⟩ y.a).setCell ⟨g, i * 5 + 1, none⟩ y.b).cell? ⟨g, i * 5 + 2, none⟩).isSome = true := by rw [cell_set e1, if_neg (by omega), cell_set e0, if_neg (by omega), a2]; rfl
    have e3 : ((((w.setCell ⟨g, i * 5, none⟩ y.a).setCell ⟨g, i * 5 + 1, none⟩ y.b).setCell ⟨g, i * 5 + 2, none⟩ y.c).cell? ⟨g, i * 5 + 3, none⟩).isSome = true := by rw [cell_set e2, if_neg (by omega), cell_set e1, if_neg (by omega), cell_set e0, if_neg (by omega), a3]; rfl
    have e4 : (((((w.setCell ⟨g, i * 5, none⟩ y.a).setCell ⟨g, i * 5 + 1, none⟩ y.b).setCell ⟨g, i * 5 + 2, none⟩ y.c).setCell ⟨g, i * 5 + 3, none⟩ y.d).cell? ⟨g, i * 5 + 4, none⟩).isSome = true := by rw [cell_set e3, if_neg (by omega), cell_set e2, if_neg (by omega), cell_set e1, if_neg (by omega), cell_set e0, if_neg (by omega), a4]; rfl
    rw [cell_set e4, cell_set e3, cell_set e2, cell_set e1, cell_set e0]
  refine ⟨⟨fun j f hf => ?_, fun o => ?_⟩, fun Z => ?_⟩
  · simp only [p]
    by_cases e : j = i
    · subst e
      rw [List.getElem?_set_self hi] at hf
      obtain rfl := Option.some.inj hf
      simp
    · rw [List.getElem?_set_ne (fun h => e h.symm)] at hf
      obtain ⟨c0, c1, c2, c3, c4⟩ := h.1 j f hf
      refine ⟨?_, ?_, ?_, ?_, ?_⟩
      · rw [if_neg (by omega), if_neg (by omega), if_neg (by omega), if_neg (by omega), if_neg (by omega), c0]
      · rw [if_neg (by omega), if_neg (by omega), if_neg (by omega), if_neg (by omega), if_neg (by omega), c1]
      · rw [if_neg (by omega), if_neg (by omega), if_neg (by omega), if_neg (by omega), if_neg (by omega), c2]
      · rw [if_neg (by omega), if_neg (by omega), if_neg (by omega), if_neg (by omega), if_neg (by omega), c3]
      · rw [if_neg (by omega), if_neg (by omega), if_neg (by omega), if_neg (by omega), if_neg (by omega), c4]
  · simp only [World.frozen?_setCell]
    exact h.2 o
  · exact ((((BelowBut.setCell w _ _).trans (BelowBut.setCell _ _ _)).trans (BelowBut.setCell _ _ _)).trans (BelowBut.setCell _ _ _)).trans (BelowBut.setCell _ _ _)

/-- A tree out of a row of heads. -/
theorem tree_row {w : World} {S : Nat → Prop} {k n : Int} {tx : ByteArray} {nm : List ByteArray} {ks : List Tr} {an : Option Addr} {cn g ck : Nat} {l : List Five} (hg : g < w.heap.size) (hSg : S g) (hn : NamsAt w S an nm) (hr : RowAt w g l) (hl : l.length = ks.length) (hT : ∀ (i : Nat) (x : Tr) (f : Five), ks[i]? = some x → l[i]? = some f → TreeIs w S x f.agg) (hcn : nm.length ≤ cn) (hck : ks.length ≤ ck) (hpn : PN an cn) :
    TreeIs w S (.mk k n tx nm ks) (.agg #[.int .i64 k, .int .i64 n, .string tx, .slice an nm.length cn, .slice (some ⟨g, 0, none⟩) ks.length ck]) := by
  rw [TreeIs]
  refine ⟨an, cn, _, ck, rfl, hn, .inr ⟨g, rfl, hSg, hg, kidsAt_iff.2 fun i x hx => ?_⟩, hcn, hck, hpn, .inr ⟨g, rfl⟩⟩
  have hi : i < l.length := by rw [hl]; exact (List.getElem?_eq_some_iff.1 hx).1
  obtain ⟨c0, c1, c2, c3, c4⟩ := hr.1 i l[i] (List.getElem?_eq_getElem hi)
  rw [Nat.zero_add]
  exact ⟨_, _, _, _, _, c0, c1, c2, c3, c4, hT i x l[i] hx (List.getElem?_eq_getElem hi)⟩

theorem far_row (b g : Nat) (h : b ≠ g) {n c : Nat} : some b ≠ (Value.slice (some ⟨g, 0, none⟩) n c).ownBlock := fun e => by
  simp only [Value.ownBlock, Option.some.injEq] at e
  exact h e
theorem own_pos {w : World} {B : Nat} {e : TypeId} {size n : Nat} {v : Value} {xs : List Value} (h : w.ownsRow B e size v n xs) (hn : 0 < n) : ∃ g cap, v = .slice (some ⟨g, 0, none⟩) n cap := by
  rcases h.2 with ⟨_, h0⟩ | ⟨g, cap, cur, rfl, _⟩
  · omega
  · exact ⟨g, cap, rfl⟩

theorem infoV : (Tryz.prog.info? 60).map (fun i => (i.zero, i.size, i.bytes)) = some (some (.agg #[.int .i64 0, .int .i64 0, .string ⟨#[]⟩, .slice none 0 0, .slice none 0 0]), 5, 80) := by kernel_rfl

theorem FiveAt.set4 {w : World} {B : Nat} {x0 x1 x2 x3 x4 : Value} (h : FiveAt w B x0 x1 x2 x3 x4) (y : Value) : FiveAt (w.setCell ⟨B, 4, none⟩ y) B x0 x1 x2 x3 y := by
  obtain ⟨⟨a0, a1, a2, a3, a4⟩, f0, f1, f2, f3, f4⟩ := h
  have e : (w.cell? ⟨B, 4, none⟩).isSome = true := by rw [a4]; rfl
  refine ⟨⟨?_, ?_, ?_, ?_, ?_⟩, ?_⟩
  · rw [cell_set e, if_neg (by omega), a0]
  · rw [cell_set e, if_neg (by omega), a1]
  · rw [cell_set e, if_neg (by omega), a2]
  · rw [cell_set e, if_neg (by omega), a3]
  · rw [cell_set e, if_pos rfl]
  · simp only [World.frozen?_setCell]
    exact ⟨f0, f1, f2, f3, f4⟩

/-- What lies in memory behind the append. -/
theorem with_facts {w W1 w2 : World} {k0 k1 k2 k3 k4 z0 z1 z2 z3 z4 : Value} {y : Five} {g2 cap2 : Nat} {l : List Five} {rw_ : Value} (hs1 : W1.heap.size = w.heap.size + 4) (hV : FiveAt W1 w.heap.size k0 k1 k2 k3 k4) (hX : FiveAt W1 (w.heap.size + 1) y.a y.b y.c y.d y.e) (hZ : FiveAt W1 (w.heap.size + 1 + 1) z0 z1 z2 z3 z4)
    (hown : w2.ownsRow (w.heap.size + 3) 60 5 (.slice (some ⟨g2, 0, none⟩) l.length cap2) l.length (fiveCells l)) (hgrow : W1.grownBy w2 (Value.slice (some ⟨w.heap.size + 1 + 1 + 1, 0, none⟩) 0 0).ownBlock) (hB1 : Below w.heap.size w W1) :
    FiveAt (w2.setCell ⟨w.heap.size, 4, none⟩ rw_) w.heap.size k0 k1 k2 k3 rw_ ∧ FiveAt (w2.setCell ⟨w.heap.size, 4, none⟩ rw_) (w.heap.size + 1) y.a y.b y.c y.d y.e ∧ FiveAt (w2.setCell ⟨w.heap.size, 4, none⟩ rw_) (w.heap.size + 1 + 1) z0 z1 z2 z3 z4 ∧ RowAt (w2.setCell ⟨w.heap.size, 4, none⟩ rw_) g2 l ∧ w.heap.size + 4 ≤ (w2.setCell ⟨w.heap.size, 4, none⟩ rw_).heap.size ∧ (w.heap.size + 3 ≤ g2 ∧ g2 < (w2.setCell ⟨w.heap.size, 4, none⟩ rw_).heap.size) ∧ Below w.heap.size w (w2.setCell ⟨w.heap.size, 4, none⟩ rw_) := by
  have hz2 := hgrow.size
  have hlt := hown.lt g2 rfl
  have b4 : ∀ Z, BelowBut Z w.heap.size w2 (w2.setCell ⟨w.heap.size, 4, none⟩ rw_) := fun Z => BelowBut.setCell _ _ _
  have hsz : (w2.setCell ⟨w.heap.size, 4, none⟩ rw_).heap.size = w2.heap.size := by simp [World.setCell]
  refine ⟨(hV.grown hgrow (by omega) (far_row _ _ (by omega))).set4 _, (hX.grown hgrow (by omega) (far_row _ _ (by omega))).but (b4 w2.heap.size) (by omega) (by omega), (hZ.grown hgrow (by omega) (far_row _ _ (by omega))).but (b4 w2.heap.size) (by omega) (by omega), (row_at hown).but (b4 w2.heap.size) hlt.2 (by omega), by omega, ⟨hlt.1, by omega⟩, ?_⟩
  refine Below.trans (hB1.grown hgrow (by omega) (fun k hk => ?_)) ((b4 w.heap.size).below (Nat.le_refl _) (Nat.le_refl _))
  simp only [Value.ownBlock, Option.some.injEq] at hk
  omega

def withK : Tr → Nat → Tr → Tr
  | .mk k n t nm ks, i, x => .mk k n t nm (ks.set i x)

set_option maxRecDepth 100000 in
set_option maxHeartbeats 800000 in
theorem l3With_any (S : Nat → Prop) (t x : Tr) (v vx : Value) (i : Nat) (w : World) (ht : TreeIs w S t v) (hx : TreeIs w S x vx) (hi : i < t.kids.length) (hc : t.kids.length ≤ 2 ^ 20) :
    Calls Tryz.prog 63 #[v, .int .i64 (i : Int), vx] w fun e w' => ∃ (k n : Int) (tx : ByteArray) (an : Option Addr) (mn cn : Nat) (ak : Option Addr) (mk ck : Nat), e = .returned (.agg #[.int .i64 k, .int .i64 n, .string tx, .slice an mn cn, .slice ak mk ck]) ∧ TreeIs w' (fun b => S b ∨ w.heap.size ≤ b) (withK t i x) (.agg #[.int .i64 k, .int .i64 n, .string tx, .slice an mn cn, .slice ak mk ck]) ∧ Below w.heap.size w w' := by
  obtain ⟨k, n, tx, nm, ks⟩ := t
  dsimp only [Tr.kids] at hi hc
  obtain ⟨an, cn, ak, ck, rfl, hnm, hk⟩ := TreeIs.open ht
  have hcap : nm.length ≤ cn := (TreeIs.caps ht).1
  have HPN : Hid (PN an cn) := (TreeIs.pns ht).1
  obtain ⟨xan, xcn, xak, xck, rfl⟩ := (TreeIs.any hx).head
  obtain ⟨g, rfl, hg, hkid⟩ : ∃ g, ak = some ⟨g, 0, none⟩ ∧ g < w.heap.size ∧ ∀ i x, ks[i]? = some x → KidAt w S x g i := by
    rcases hk with h0 | ⟨g, h1, _, h2, h3⟩
    · rw [h0] at hi; simp at hi
    · exact ⟨g, h1, h2, h3⟩
  obtain ⟨l, hl, hlc, hlT, hone⟩ := kids_list (j := 0) (kidsAt_iff.2 (fun i x hx => by rw [Nat.zero_add]; exact hkid i x hx))
  obtain ⟨i5, h50, h51, h52, h53⟩ := info_parts infoV
  have HI : Hid (Tryz.prog.info? 60 = some i5 ∧ i5.zero = some (.agg #[.int .i64 0, .int .i64 0, .string ⟨#[]⟩, .slice none 0 0, .slice none 0 0]) ∧ i5.size = 5 ∧ i5.bytes = 80) := ⟨h50, h51, h52, h53⟩
  have HNM : Hid (NamsAt w S an nm) := hnm
  have HX : Hid (TreeIs w S x (.agg #[.int .i64 x.kind, .int .i64 x.num, .string x.text, .slice xan x.names.length xcn, .slice xak x.kids.length xck])) := hx
  have HLC : Hid (∀ (q : Nat) (u : Value), (fiveCells l)[q]? = some u → w.cell? ((⟨g, 0 * 5, none⟩ : Addr).add q) = some u) := five_at hlc
  have HLT : Hid (∀ (i : Nat) (y : Tr), ks[i]? = some y → ∃ f, l[i]? = some f ∧ TreeIs w S y f.agg) := hlT
  have HONE : Hid (∀ u ∈ fiveCells l, u.oneCell' = true) := hone
  clear hnm hk hkid hlc hlT hone hx ht h50 h51 h52 h53
  obtain ⟨W1, hW1⟩ : ∃ W1, W1 = (((w.alloc (.cells #[.int .i64 k, .int .i64 n, .string tx, .slice an nm.length cn, .slice (some ⟨g, 0, none⟩) ks.length ck] 60)).alloc (.cells #[.int .i64 x.kind, .int .i64 x.num, .string x.text, .slice xan x.names.length xcn, .slice xak x.kids.length xck] 60)).alloc (.cells #[.int .i64 0, .int .i64 0, .string ⟨#[]⟩, .slice none 0 0, .slice none 0 0] 60)).alloc (.cells #[] 60) := ⟨_, rfl⟩
  have hs1 : W1.heap.size = w.heap.size + 4 := by rw [hW1]; simp
  have hB1 : Below w.heap.size w W1 := by rw [hW1]; exact ((((Below.refl _ w).alloc (Nat.le_refl _) _).alloc (by simp) _).alloc (by simp; omega) _).alloc (by simp; omega) _
  have HV : Hid (FiveAt W1 w.heap.size (.int .i64 k) (.int .i64 n) (.string tx) (.slice an nm.length cn) (.slice (some ⟨g, 0, none⟩) ks.length ck)) := by
    show FiveAt _ _ _ _ _ _ _
    rw [hW1]
    exact (fiveAt_new w _ _ _ _ _ _).below ((((Below.refl _ _).alloc (Nat.le_refl _) _).alloc (by simp) _).alloc (by simp) _) (by simp)
  have HXB : Hid (FiveAt W1 (w.heap.size + 1) (.int .i64 x.kind) (.int .i64 x.num) (.string x.text) (.slice xan x.names.length xcn) (.slice xak x.kids.length xck)) := by
    show FiveAt _ _ _ _ _ _ _
    rw [hW1]
    have := fiveAt_new (w.alloc (.cells #[.int .i64 k, .int .i64 n, .string tx, .slice an nm.length cn, .slice (some ⟨g, 0, none⟩) ks.length ck] 60)) (.int .i64 x.kind) (.int .i64 x.num) (.string x.text) (.slice xan x.names.length xcn) (.slice xak x.kids.length xck) 60
    rw [World.size_alloc] at this
    exact this.below (((Below.refl _ _).alloc (Nat.le_refl _) _).alloc (by simp) _) (by simp)
  have HZB : Hid (FiveAt W1 (w.heap.size + 1 + 1) (.int .i64 0) (.int .i64 0) (.string ⟨#[]⟩) (.slice none 0 0) (.slice none 0 0)) := by
    show FiveAt _ _ _ _ _ _ _
    rw [hW1]
    have := fiveAt_new ((w.alloc (.cells #[.int .i64 k, .int .i64 n, .string tx, .slice an nm.length cn, .slice (some ⟨g, 0, none⟩) ks.length ck] 60)).alloc (.cells #[.int .i64 x.kind, .int .i64 x.num, .string x.text, .slice xan x.names.length xcn, .slice xak x.kids.length xck] 60)) (.int .i64 0) (.int .i64 0) (.string ⟨#[]⟩) (.slice none 0 0) (.slice none 0 0) 60
    rw [World.size_alloc, World.size_alloc] at this
    exact this.below ((Below.refl _ _).alloc (Nat.le_refl _) _) (by simp)
  have HOE : Hid (W1.ownsRow (w.heap.size + 3) 60 5 (.slice (some ⟨w.heap.size + 1 + 1 + 1, 0, none⟩) 0 0) 0 []) := by
    show World.ownsRow _ _ _ _ _ _ _
    rw [hW1]
    have := own_empty (((w.alloc (.cells #[.int .i64 k, .int .i64 n, .string tx, .slice an nm.length cn, .slice (some ⟨g, 0, none⟩) ks.length ck] 60)).alloc (.cells #[.int .i64 x.kind, .int .i64 x.num, .string x.text, .slice xan x.names.length xcn, .slice xak x.kids.length xck] 60)).alloc (.cells #[.int .i64 0, .int .i64 0, .string ⟨#[]⟩, .slice none 0 0, .slice none 0 0] 60)) 60 5 (w.heap.size + 3) (by simp)
    simpa [World.size_alloc] using this
  have HNW : Hid (∀ (q : Nat) (u : Value), (fiveCells l)[q]? = some u → W1.cell? ((⟨g, 0, none⟩ : Addr).add q) = some u) := fun q u hu => by
    have := HLC.out q u hu
    rw [Nat.zero_mul] at this
    have ea : (⟨g, 0, none⟩ : Addr).add q = ⟨g, 0 + q, none⟩ := by unfold Addr.add; split <;> simp_all
    rw [ea] at this ⊢
    exact (hB1.cell hg).trans this
  have HB1 : Hid (Below w.heap.size w W1) := hB1
  clear HLC hB1
  go_enter Tryz.func63, Tryz.ntmps63
  go_upto_region 1 with fail
  go_cut [] (fun wx => ∃ g2 cap2, Hid (FiveAt wx w.heap.size (.int .i64 k) (.int .i64 n) (.string tx) (.slice an nm.length cn) (.slice (some ⟨g2, 0, none⟩) ks.length cap2) ∧ FiveAt wx (w.heap.size + 1) (.int .i64 x.kind) (.int .i64 x.num) (.string x.text) (.slice xan x.names.length xcn) (.slice xak x.kids.length xck) ∧ FiveAt wx (w.heap.size + 1 + 1) (.int .i64 0) (.int .i64 0) (.string ⟨#[]⟩) (.slice none 0 0) (.slice none 0 0) ∧ RowAt wx g2 l ∧ w.heap.size + 4 ≤ wx.heap.size ∧ (w.heap.size + 3 ≤ g2 ∧ g2 < wx.heap.size) ∧ Below w.heap.size w wx) ∧ ks.length ≤ cap2)
  case first =>
    go_wp2_with (first | (at_builtin; rw [← hW1]; refine wpList_append_own _ rfl _ _ 58 rfl (w.heap.size + 3) 60 i5 _ 5 80 Tryz.underlying58 HI.out.1 HI.out.2.1 HI.out.2.2.1 HI.out.2.2.2 rfl (by decide) (.slice (some ⟨w.heap.size + 1 + 1 + 1, 0, none⟩) 0 0) 0 [] rfl HOE.out ⟨g, 0, none⟩ ks.length ck (fiveCells l) rfl (by rw [five_len, hl]) HNW.out HONE.out (by unfold maxLen; omega) (by omega) (by omega) ?_))
    intro v2 w2 hown2 hgrow _
    rw [← hW1] at hgrow
    obtain ⟨g2, cap2, rfl⟩ := own_pos hown2 (by omega)
    have HO2 : w2.ownsRow (w.heap.size + 3) 60 5 (.slice (some ⟨g2, 0, none⟩) l.length cap2) l.length (fiveCells l) := by rw [hl]; simpa using hown2
    have hcp2 : ks.length ≤ cap2 := by
      rcases HO2.2 with ⟨e, _⟩ | ⟨g', cap', cur, e, _, _, hle, _⟩
      · simp at e
      · obtain ⟨_, rfl⟩ : _ ∧ cap2 = cap' := by simpa using e
        omega
    have HW : Hid _ := with_facts (y := ⟨.int .i64 x.kind, .int .i64 x.num, .string x.text, .slice xan x.names.length xcn, .slice xak x.kids.length xck⟩) (rw_ := .slice (some ⟨g2, 0, none⟩) ks.length cap2) hs1 HV.out HXB.out HZB.out HO2 hgrow HB1.out
    have hV2 := HV.out.grown hgrow (by omega) (far_row _ _ (by omega))
    obtain ⟨⟨_, _, _, _, a4⟩, _, _, _, _, f4⟩ := hV2
    clear hown2 hgrow HO2 HV HXB HZB HOE HNW HONE HB1 HI hW1 hs1
    go_wp2_with fail
    go_meet
    case rel => exact ⟨g2, cap2, HW, hcp2⟩
  case rest =>
    obtain ⟨g2, cap2, HF, hcp2⟩ := hcut
    clear hW1 hs1 HV HXB HZB HOE HNW HONE HB1 HI
    have hil : i < l.length := by omega
    have i0 : (0 : Int) ≤ (i : Int) := by omega
    have i1 : (i : Int) < (ks.length : Int) := by omega
    go_upto_region 2 with fail
    go_cut [] (fun wx => Hid (FiveAt wx w.heap.size (.int .i64 k) (.int .i64 n) (.string tx) (.slice an nm.length cn) (.slice (some ⟨g2, 0, none⟩) ks.length cap2) ∧ FiveAt wx (w.heap.size + 1 + 1) (.int .i64 0) (.int .i64 0) (.string ⟨#[]⟩) (.slice none 0 0) (.slice none 0 0) ∧ RowAt wx g2 (l.set i ⟨.int .i64 x.kind, .int .i64 x.num, .string x.text, .slice xan x.names.length xcn, .slice xak x.kids.length xck⟩) ∧ w.heap.size + 4 ≤ wx.heap.size ∧ (w.heap.size + 3 ≤ g2 ∧ g2 < wx.heap.size) ∧ Below w.heap.size w wx))
    case first =>
      obtain ⟨hV3, hX3, hZ3, hR3, hz3, hg2, hB3⟩ := HF.out
      have HQ := hR3.set hil ⟨.int .i64 x.kind, .int .i64 x.num, .string x.text, .slice xan x.names.length xcn, .slice xak x.kids.length xck⟩
      have HG : Hid (FiveAt _ w.heap.size (.int .i64 k) (.int .i64 n) (.string tx) (.slice an nm.length cn) (.slice (some ⟨g2, 0, none⟩) ks.length cap2) ∧ FiveAt _ (w.heap.size + 1 + 1) (.int .i64 0) (.int .i64 0) (.string ⟨#[]⟩) (.slice none 0 0) (.slice none 0 0) ∧ RowAt _ g2 (l.set i ⟨.int .i64 x.kind, .int .i64 x.num, .string x.text, .slice xan x.names.length xcn, .slice xak x.kids.length xck⟩) ∧ w.heap.size + 4 ≤ _ ∧ (w.heap.size + 3 ≤ g2 ∧ g2 < _) ∧ Below w.heap.size w _) := ⟨hV3.but (HQ.2 wc.heap.size) (by omega) (by omega), hZ3.but (HQ.2 wc.heap.size) (by omega) (by omega), HQ.1, Nat.le_trans hz3 (HQ.2 0).size, ⟨hg2.1, Nat.lt_of_lt_of_le hg2.2 (HQ.2 0).size⟩, hB3.trans ((HQ.2 w.heap.size).below (Nat.le_refl _) (by omega))⟩
      obtain ⟨⟨_, _, _, _, a4⟩, _⟩ := hV3
      obtain ⟨⟨p0, p1, p2, p3, p4⟩, _⟩ := hX3
      obtain ⟨c0, c1, c2, c3, c4⟩ := hR3.1 i l[i] (List.getElem?_eq_getElem hil)
      have d0 := hR3.2 (i * 5)
      have d1 := hR3.2 (i * 5 + 1)
      have d2 := hR3.2 (i * 5 + 2)
      have d3 := hR3.2 (i * 5 + 3)
      have d4 := hR3.2 (i * 5 + 4)
      clear hZ3 hR3 hz3 hg2 hB3 HQ HF
      go_wp2_with fail
      go_meet
      case rel => exact HG
    case rest =>
      have HF4 := hcut
      clear hcut HF
      obtain ⟨hV4, hZ4, hR4, hz4, hg4, hB4⟩ := HF4.out
      have HQ := hZ4.set (.int .i64 k) (.int .i64 n) (.string tx) (.slice an nm.length cn) (.slice (some ⟨g2, 0, none⟩) ks.length cap2)
      obtain ⟨⟨⟨s0, s1, s2, s3, s4⟩, _⟩, hbb⟩ := id HQ
      have HBF : Hid (Below w.heap.size w (((((wc.setCell ⟨w.heap.size + 1 + 1, 0, none⟩ (.int .i64 k)).setCell ⟨w.heap.size + 1 + 1, 1, none⟩ (.int .i64 n)).setCell ⟨w.heap.size + 1 + 1, 2, none⟩ (.string tx)).setCell ⟨w.heap.size + 1 + 1, 3, none⟩ (.slice an nm.length cn)).setCell ⟨w.heap.size + 1 + 1, 4, none⟩ (.slice (some ⟨g2, 0, none⟩) ks.length cap2))) := hB4.trans ((hbb w.heap.size).below (Nat.le_refl _) (by omega))
      have HTF : Hid (TreeIs (((((wc.setCell ⟨w.heap.size + 1 + 1, 0, none⟩ (.int .i64 k)).setCell ⟨w.heap.size + 1 + 1, 1, none⟩ (.int .i64 n)).setCell ⟨w.heap.size + 1 + 1, 2, none⟩ (.string tx)).setCell ⟨w.heap.size + 1 + 1, 3, none⟩ (.slice an nm.length cn)).setCell ⟨w.heap.size + 1 + 1, 4, none⟩ (.slice (some ⟨g2, 0, none⟩) ks.length cap2)) (fun b => S b ∨ w.heap.size ≤ b) (.mk k n tx nm (ks.set i x)) (.agg #[.int .i64 k, .int .i64 n, .string tx, .slice an nm.length cn, .slice (some ⟨g2, 0, none⟩) (ks.set i x).length cap2])) := by
        refine tree_row (l := l.set i ⟨.int .i64 x.kind, .int .i64 x.num, .string x.text, .slice xan x.names.length xcn, .slice xak x.kids.length xck⟩) (Nat.lt_of_lt_of_le hg4.2 (hbb 0).size) (.inr (by omega)) (HNM.out.keep (fun b _ hb => HBF.out.block b hb) (fun _ h _ => .inl h) HBF.out.size) (hR4.but (hbb wc.heap.size) hg4.2 (by omega)) (by simp [hl]) (fun j y f hy hf => ?_) hcap (by simpa using hcp2) HPN.out
        by_cases e : j = i
        · subst e
          rw [List.getElem?_set_self (by omega)] at hy hf
          obtain rfl := Option.some.inj hy
          obtain rfl := Option.some.inj hf
          exact TreeIs.keep (fun b _ hb => HBF.out.block b hb) (fun _ h _ => .inl h) HBF.out.size _ _ HX.out
        · rw [List.getElem?_set_ne (fun h => e h.symm)] at hy hf
          obtain ⟨f', hf', htr⟩ := HLT.out j y hy
          obtain rfl := Option.some.inj (hf.symm.trans hf')
          exact TreeIs.keep (fun b _ hb => HBF.out.block b hb) (fun _ h _ => .inl h) HBF.out.size _ _ htr
      rw [List.length_set] at HTF
      obtain ⟨⟨t0, t1, t2, t3, t4⟩, _⟩ := hV4
      obtain ⟨⟨v0, v1, v2, v3, v4⟩, y0, y1, y2, y3, y4⟩ := hZ4
      clear hR4 HQ hbb hB4 hz4 hg4
      go_wp2_with fail
      exact bodyPost_ret (v := .agg #[.int .i64 k, .int .i64 n, .string tx, .slice an nm.length cn, .slice (some ⟨g2, 0, none⟩) ks.length cap2]) (by simp [results, Tryz.results63, go_sem, s0, s1, s2, s3, s4]) rfl ⟨_, _, _, _, _, _, _, _, _, rfl, HTF.out, HBF.out⟩

end Go.Proofs.YtadlflgflnlhjaaGreatDoor
namespace Go.Proofs.YtadlflgflnlhjaaGreatDoor
open Go.RowKit
set_option linter.unusedVariables false

/-- AT A STEP OF A REGION THAT DRAWS: cells that lie somewhere, none among them too, are put to an own row. -/
theorem step_append_at {w : World} {ops : Array Oper} {o : Oper} {a : Act} {K : Act → World → Prop} {Q : Exit → Act → World → Prop} {E : Prop} (hgd : o.guard = none) (s x : Operand) (t : TypeId)
    (ho : o.op = .call { callee := .builtin .append, args := #[s, x], argTypes := #[t, t] })
    (base : Nat) (e : TypeId) (i : TypeInfo) (z : Value) (size bytes : Nat) (ht : Tryz.prog.underlying t = some (.slice e)) (hi : Tryz.prog.info? e = some i) (hz : i.zero = some z)
    (hsize : i.size = size) (hby : i.bytes = bytes) (hzs : z.cells.size = size) (hsz : 0 < size)
    (v : Value) (n : Nat) (xs : List Value) (hs : a.eval s = v) (hown : w.ownsRow base e size v n xs)
    (ax : Option Addr) (ad : Addr) (m c : Nat) (news : List Value) (hx : a.eval x = .slice ax m c) (hax : ax = some ad) (hl : news.length = m * size) (hnews : ∀ j u, news[j]? = some u → w.cell? (ad.add j) = some u) (h1 : ∀ u ∈ news, u.oneCell' = true)
    (h63 : n + m ≤ maxLen) (hbytes : (n + m) * bytes ≤ 140737488355328) (hbase : base ≤ w.heap.size)
    (h : ∀ v' w', w'.ownsRow base e size v' (n + m) (xs ++ news) → w.grownBy w' v.ownBlock → K (a.put o.dst v') w') :
    if Region.wanted o (yielded ops a.tmps) = true then Oper.wp Tryz.prog o a w K Q else E := by
  have hw : Region.wanted o (yielded ops a.tmps) = true := by simp [Region.wanted, hgd]
  rw [if_pos hw]
  subst hax
  obtain ⟨v', w', hr, h4, h5, _, _⟩ := run_append_own_at (P := Tryz.prog) w base t o.type e i z size bytes ht hi hz hsize hby hzs hsz v n xs hown ad m c news hl hnews h1 h63 hbytes hbase
  unfold Oper.wp execOp
  simp only [ho, resolve, invoke, builtin, Sem.run_bind, Sem.run_pure, Result.andThen_ok, List.map_toArray, List.map_cons, List.map_nil, hs, hx, hr]
  exact h v' w' h4 h5

def cutK : Tr → Nat → Tr
  | .mk k n t nm ks, i => .mk k n t (if k = 7 then nm.eraseIdx i else nm) (ks.eraseIdx i)

theorem five_take (l : List Five) (i : Nat) : fiveCells (l.take i) ++ fiveCells (l.drop (i + 1)) = fiveCells (l.eraseIdx i) := by
  rw [List.eraseIdx_eq_take_drop_succ]
  simp [fiveCells]
theorem five_ones {l l' : List Five} (h : ∀ u ∈ fiveCells l, u.oneCell' = true) (hs : ∀ f ∈ l', f ∈ l) : ∀ u ∈ fiveCells l', u.oneCell' = true := by
  intro u hu
  simp only [fiveCells, List.mem_flatMap] at hu
  obtain ⟨f, hf, hu⟩ := hu
  exact h u (by simp only [fiveCells, List.mem_flatMap]; exact ⟨f, hs f hf, hu⟩)

theorem row_form {w : World} {B : Nat} {e : TypeId} {size n : Nat} {v : Value} {xs : List Value} (h : w.ownsRow B e size v n xs) : ∃ a c, v = .slice a n c := by
  rcases h.2 with ⟨rfl, e⟩ | ⟨g, cap, cur, rfl, _⟩
  · exact ⟨none, 0, by rw [e]⟩
  · exact ⟨_, _, rfl⟩

theorem cut_news {w W X : World} {row : Option Nat} {g o : Nat} {cs : List Value} (h : ∀ (q : Nat) (u : Value), cs[q]? = some u → w.cell? ((⟨g, o, none⟩ : Addr).add q) = some u) (hb : Below w.heap.size w W) (hg : W.grownBy X row) (hz : w.heap.size ≤ W.heap.size) (hl : g < w.heap.size) (hn : some g ≠ row) : ∀ (q : Nat) (u : Value), cs[q]? = some u → X.cell? ((⟨g, o, none⟩ : Addr).add q) = some u := by
  intro q u hu
  have := h q u hu
  have ea : (⟨g, o, none⟩ : Addr).add q = ⟨g, o + q, none⟩ := by unfold Addr.add; split <;> simp_all
  rw [ea] at this ⊢
  rw [hg.cell_far ⟨g, o + q, none⟩ (by show g < _; omega) hn, hb.cell hl]
  exact this
theorem cut_own {X : World} {B n i : Nat} {e : TypeId} {z : Nat} {v : Value} {l : List Five} (h : X.ownsRow B e z v (0 + i + (n - (i + 1))) ([] ++ fiveCells (l.take i) ++ fiveCells (l.drop (i + 1)))) (hi : i < n) : X.ownsRow B e z v (n - 1) (fiveCells (l.eraseIdx i)) := by
  rw [List.nil_append, five_take, show 0 + i + (n - (i + 1)) = n - 1 by omega] at h
  exact h

theorem FiveAt.set3 {w : World} {B : Nat} {x0 x1 x2 x3 x4 : Value} (h : FiveAt w B x0 x1 x2 x3 x4) (y : Value) : FiveAt (w.setCell ⟨B, 3, none⟩ y) B x0 x1 x2 y x4 := by
  obtain ⟨⟨a0, a1, a2, a3, a4⟩, f0, f1, f2, f3, f4⟩ := h
  have e : (w.cell? ⟨B, 3, none⟩).isSome = true := by rw [a3]; rfl
  refine ⟨⟨?_, ?_, ?_, ?_, ?_⟩, ?_⟩
  · rw [cell_set e, if_neg (by omega), a0]
  · rw [cell_set e, if_neg (by omega), a1]
  · rw [cell_set e, if_neg (by omega), a2]
  · rw [cell_set e, if_pos rfl]
  · rw [cell_set e, if_neg (by omega), a4]
  · simp only [World.frozen?_setCell]
    exact ⟨f0, f1, f2, f3, f4⟩
/-- What lies in memory behind two appends to a new row and one store ahead of it. -/
theorem cut_facts {w W0 w6 w7 : World} {E : Obj} {H : Nat} {v6 : Value} {e : TypeId} {z n6 n7 : Nat} {xs6 xs7 : List Value} {v7 : Value} (hs0 : W0.heap.size = H) (hB0 : Below w.heap.size w W0) (hwH : w.heap.size + 2 ≤ H)
    (hg6 : ((W0.alloc E).drew).grownBy w6 (some H)) (hown6 : w6.ownsRow H e z v6 n6 xs6) (hg7 : w6.grownBy w7 v6.ownBlock) (hown7 : w7.ownsRow H e z v7 n7 xs7) :
    (∀ {b : Nat} {x0 x1 x2 x3 x4 : Value}, b < H → FiveAt W0 b x0 x1 x2 x3 x4 → FiveAt w7 b x0 x1 x2 x3 x4) ∧ (∀ b, b < H → w7.heap[b]? = W0.heap[b]?) ∧ H ≤ w7.heap.size ∧ Below w.heap.size w w7 := by
  have z6 := hg6.size
  have z7 := hg7.size
  have ze : ((W0.alloc E).drew).heap.size = H + 1 := by show (W0.alloc E).heap.size = _; rw [World.size_alloc, hs0]
  have e1 : ∀ b, b < H → ((W0.alloc E).drew).heap[b]? = W0.heap[b]? := fun b hb => heap_alloc_old W0 E (by omega)
  have e2 : ∀ b, b < H → w6.heap[b]? = W0.heap[b]? := fun b hb => (hg6.block b (by omega) (fun e => by injection e with e; omega)).trans (e1 b hb)
  have e3 : ∀ b, b < H → w7.heap[b]? = W0.heap[b]? := fun b hb => (hg7.block b (by omega) (fun e => by have := own_lt hown6 e; omega)).trans (e2 b hb)
  refine ⟨fun {b x0 x1 x2 x3 x4} hb h => ?_, e3, by omega, ?_⟩
  · have c : ∀ o, w7.cell? ⟨b, o, none⟩ = W0.cell? ⟨b, o, none⟩ := fun o => World.cell?_of_block (e3 b hb)
    have f : ∀ o, w7.frozen? ⟨b, o, none⟩ = W0.frozen? ⟨b, o, none⟩ := fun o => World.frozen?_of_block (e3 b hb)
    obtain ⟨⟨a0, a1, a2, a3, a4⟩, f0, f1, f2, f3, f4⟩ := h
    exact ⟨⟨(c _).trans a0, (c _).trans a1, (c _).trans a2, (c _).trans a3, (c _).trans a4⟩, (f _).trans f0, (f _).trans f1, (f _).trans f2, (f _).trans f3, (f _).trans f4⟩
  · refine ⟨hg7.os.trans (hg6.os.trans hB0.os), hg7.tape.trans (hg6.tape.trans hB0.tape), hg7.output.trans (hg6.output.trans hB0.output), by omega, fun b hb => (e3 b (by omega)).trans (hB0.block b hb)⟩

theorem own_cap {w : World} {B m c z : Nat} {e : TypeId} {a : Option Addr} {xs : List Value} (h : w.ownsRow B e z (.slice a m c) m xs) : m ≤ c := by
  rcases h.2 with ⟨h1, h2⟩ | ⟨g, cap, cur, h1, _, _, hle, _⟩
  · omega
  · obtain ⟨_, rfl⟩ : _ ∧ c = cap := by simpa using h1
    exact hle
theorem nams_own {w : World} {B m c : Nat} {a : Option Addr} {l : List ByteArray} {S : Nat → Prop} (h : w.ownsRow B 9 1 (.slice a m c) m (l.map Value.string)) (hm : m = l.length) (hS : ∀ b, B ≤ b → S b) : NamsAt w S a l := by
  subst hm
  have hlt := h.lt
  have hcells := @World.ownsRow.cells _ _ _ _ _ _ _ h
  rcases h.2 with ⟨_, h2⟩ | ⟨g, cap, cur, h1, hBg, _⟩
  · exact .inl (List.eq_nil_of_length_eq_zero h2)
  · obtain ⟨rfl, rfl⟩ : a = some ⟨g, 0, none⟩ ∧ c = cap := by simpa using h1
    refine .inr ⟨g, rfl, hS g hBg, (hlt g rfl).2, fun j hj => ?_⟩
    have := hcells (g := g) rfl j (.string (l.getD j ByteArray.empty)) (by simp [List.getElem?_eq_getElem hj, List.getD_eq_getElem?_getD])
    rw [show ((⟨g, 0, none⟩ : Addr).add j) = ⟨g, j, none⟩ by unfold Addr.add; split <;> simp_all] at this
    exact this
theorem nams_cells {w : World} {gn : Nat} {nm : List ByteArray} (h : ∀ j, j < nm.length → w.cell? ⟨gn, j, none⟩ = some (.string (nm.getD j ByteArray.empty))) (o : Nat) (l : List ByteArray) (hl : ∀ q x, l[q]? = some x → nm[o + q]? = some x) : ∀ (q : Nat) (u : Value), (l.map Value.string)[q]? = some u → w.cell? ((⟨gn, o, none⟩ : Addr).add q) = some u := by
  intro q u hu
  rw [List.getElem?_map, Option.map_eq_some_iff] at hu
  obtain ⟨x, hx, rfl⟩ := hu
  have h1 := hl q x hx
  obtain ⟨hlt, _⟩ := List.getElem?_eq_some_iff.1 h1
  rw [show ((⟨gn, o, none⟩ : Addr).add q) = ⟨gn, o + q, none⟩ by unfold Addr.add; split <;> simp_all, h (o + q) hlt, List.getD_eq_getElem?_getD, h1]
  rfl
theorem cut_ownS {X : World} {B n i : Nat} {e : TypeId} {z : Nat} {v : Value} {l : List ByteArray} (h : X.ownsRow B e z v (0 + i + (n - (i + 1))) ([] ++ (l.take i).map Value.string ++ (l.drop (i + 1)).map Value.string)) (hi : i < n) : X.ownsRow B e z v (n - 1) ((l.eraseIdx i).map Value.string) := by
  rw [List.nil_append, ← List.map_append, ← List.eraseIdx_eq_take_drop_succ, show 0 + i + (n - (i + 1)) = n - 1 by omega] at h
  exact h
theorem str_ones (l : List ByteArray) : ∀ u ∈ l.map Value.string, u.oneCell' = true := by
  intro u hu
  obtain ⟨x, _, rfl⟩ := List.mem_map.1 hu
  rfl
/-- A tree out of an own row of heads. -/
theorem tree_own {w : World} {S : Nat → Prop} {B : Nat} {k n : Int} {tx : ByteArray} {nm : List ByteArray} {ks : List Tr} {an a2 : Option Addr} {cn c2 : Nat} {l : List Five} (ho : w.ownsRow B 60 5 (.slice a2 ks.length c2) ks.length (fiveCells l)) (hSB : ∀ b, B ≤ b → S b) (hn : NamsAt w S an nm) (hl : l.length = ks.length) (hT : ∀ (i : Nat) (x : Tr) (f : Five), ks[i]? = some x → l[i]? = some f → TreeIs w S x f.agg) (hcn : nm.length ≤ cn) (hpn : PN an cn) :
    TreeIs w S (.mk k n tx nm ks) (.agg #[.int .i64 k, .int .i64 n, .string tx, .slice an nm.length cn, .slice a2 ks.length c2]) := by
  by_cases h0 : ks.length = 0
  · rw [TreeIs]
    exact ⟨an, cn, a2, c2, rfl, hn, .inl (List.eq_nil_of_length_eq_zero h0), hcn, own_cap ho, hpn, own_pn ho⟩
  · obtain ⟨g, cap, e⟩ := own_pos ho (by omega)
    obtain ⟨rfl, rfl⟩ : a2 = some ⟨g, 0, none⟩ ∧ c2 = cap := by simpa using e
    have hr : RowAt w g l := by
      rw [← hl] at ho
      exact row_at ho
    exact tree_row ((ho.lt g rfl).2) (hSB g (ho.lt g rfl).1) hn hr hl hT hcn (own_cap ho) hpn

end Go.Proofs.YtadlflgflnlhjaaGreatDoor
namespace Go.Proofs.YtadlflgflnlhjaaGreatDoor
open Go.RowKit
set_option linter.unusedVariables false

theorem add_none (b o j : Nat) : ((⟨b, o, none⟩ : Addr).add j) = ⟨b, o + j, none⟩ := by unfold Addr.add; split <;> simp_all
/-- Cells that are put to an own row: none at all, or cells that lie somewhere. -/
def PartF (w : World) (ax : Option Addr) (m c size : Nat) (news : List Value) : Prop :=
  news.length = m * size ∧ (∀ u ∈ news, u.oneCell' = true) ∧ ((m = 0 ∧ ax = none ∧ c = 0) ∨ ∃ ad, ax = some ad ∧ ∀ j u, news[j]? = some u → w.cell? (ad.add j) = some u)

/-- AT A STEP OF A REGION THAT DRAWS: a part is put to an own row. -/
theorem step_append_part {w : World} {ops : Array Oper} {o : Oper} {a : Act} {K : Act → World → Prop} {Q : Exit → Act → World → Prop} {E : Prop} (hgd : o.guard = none) (s x : Operand) (t : TypeId)
    (ho : o.op = .call { callee := .builtin .append, args := #[s, x], argTypes := #[t, t] })
    (base : Nat) (e : TypeId) (i : TypeInfo) (z : Value) (size bytes : Nat) (ht : Tryz.prog.underlying t = some (.slice e)) (hi : Tryz.prog.info? e = some i) (hz : i.zero = some z)
    (hsize : i.size = size) (hby : i.bytes = bytes) (hzs : z.cells.size = size) (hsz : 0 < size)
    (v : Value) (n : Nat) (xs : List Value) (hs : a.eval s = v) (hown : w.ownsRow base e size v n xs)
    (ax : Option Addr) (m c : Nat) (news : List Value) (hx : a.eval x = .slice ax m c) (hp : PartF w ax m c size news)
    (h63 : n + m ≤ maxLen) (hbytes : (n + m) * bytes ≤ 140737488355328) (hbase : base ≤ w.heap.size)
    (h : ∀ v' w', w'.ownsRow base e size v' (n + m) (xs ++ news) → w.grownBy w' v.ownBlock → K (a.put o.dst v') w') :
    if Region.wanted o (yielded ops a.tmps) = true then Oper.wp Tryz.prog o a w K Q else E := by
  obtain ⟨hl, h1, ⟨rfl, rfl, rfl⟩ | ⟨ad, rfl, hc⟩⟩ := hp
  · have hw : Region.wanted o (yielded ops a.tmps) = true := by simp [Region.wanted, hgd]
    rw [if_pos hw]
    obtain rfl : news = [] := List.eq_nil_of_length_eq_zero (by simpa using hl)
    subst hsize
    have hr := run_append_owned_none (P := Tryz.prog) (w := w) base t o.type e i i.size ht hi v n xs hown
    unfold Oper.wp execOp
    simp only [ho, resolve, invoke, builtin, Sem.run_bind, Sem.run_pure, Result.andThen_ok, List.map_toArray, List.map_cons, List.map_nil, hs, hx, hr]
    exact h v w (by simpa using hown) ⟨rfl, rfl, rfl, Nat.le_refl _, fun _ _ _ => rfl⟩
  · exact step_append_at hgd s x t ho base e i z size bytes ht hi hz hsize hby hzs hsz v n xs hs hown (some ad) ad m c news hx rfl hl hc h1 h63 hbytes hbase h

def leB (a b : ByteArray) : Bool := Op.bytesLess a.toList b.toList || a.toList == b.toList
/-- Where a name is put: behind all that are no greater. -/
def putPos : List ByteArray → ByteArray → Nat
  | [], _ => 0
  | x :: l, name => if leB x name then putPos l name + 1 else 0
theorem putPos_le (l : List ByteArray) (name : ByteArray) : putPos l name ≤ l.length := by
  induction l with
  | nil => exact Nat.le_refl _
  | cons x l ih =>
    rw [putPos]
    split
    · rw [List.length_cons]; omega
    · omega
theorem putPos_at {l : List ByteArray} {name : ByteArray} {p : Nat} (h : ∀ i x, i < p → l[i]? = some x → leB x name = true) (hp : p ≤ l.length) (he : ∀ x, l[p]? = some x → leB x name = false) : putPos l name = p := by
  induction l generalizing p with
  | nil => simp at hp; rw [hp]; rfl
  | cons y l ih =>
    rw [putPos]
    cases p with
    | zero =>
      rw [he y (by simp)]
      simp
    | succ p =>
      rw [h 0 y (by omega) (by simp), if_pos rfl, ih (p := p) (fun i x hi hx => h (i + 1) x (by omega) (by simpa using hx)) (by simpa using hp) (fun x hx => he x (by simpa using hx))]

def putAt : Tr → ByteArray → Nat
  | .mk k _ _ nm ks, name => if k = 7 then putPos nm name else ks.length
/-- A tree with one part more. -/
def putK : Tr → ByteArray → Tr → Tr
  | .mk k n tx nm ks, name, x => .mk k 0 ⟨#[]⟩ (if k = 7 then nm.take (putAt (.mk k n tx nm ks) name) ++ name :: nm.drop (putAt (.mk k n tx nm ks) name) else []) (ks.take (putAt (.mk k n tx nm ks) name) ++ x :: ks.drop (putAt (.mk k n tx nm ks) name))

/-- What lies in memory while the parts are put together. -/
def PutSt (w wx : World) (V X : Five) (kv nv : Value) (a2 : Option Addr) (c2 : Nat) (l : List Five) : Prop :=
  FiveAt wx w.heap.size V.a V.b V.c V.d V.e ∧ FiveAt wx (w.heap.size + 1) X.a X.b X.c X.d X.e ∧ FiveAt wx (w.heap.size + 1 + 1) (.int .i64 0) (.int .i64 0) (.string ⟨#[]⟩) (.slice none 0 0) (.slice none 0 0) ∧
  FiveAt wx (w.heap.size + 1 + 1 + 1) kv (.int .i64 0) (.string ⟨#[]⟩) nv (.slice a2 l.length c2) ∧ wx.ownsRow (w.heap.size + 4) 60 5 (.slice a2 l.length c2) l.length (fiveCells l) ∧ w.heap.size + 4 ≤ wx.heap.size ∧ Below w.heap.size w wx
theorem five_append (l m : List Five) : fiveCells l ++ fiveCells m = fiveCells (l ++ m) := by simp [fiveCells]
/-- Parts are put to the row, and the row into its place. -/
theorem put_grow {w wx wy w' : World} {V X : Five} {kv nv : Value} {a2 : Option Addr} {c2 m : Nat} {l l' : List Five} {v' : Value} (h : PutSt w wx V X kv nv a2 c2 l) (hy : Below wx.heap.size wx wy) (hg : wy.grownBy w' (Value.slice a2 l.length c2).ownBlock)
    (ho : w'.ownsRow (w.heap.size + 4) 60 5 v' (l.length + m) (fiveCells l ++ fiveCells l')) (hm : l'.length = m) : ∃ (a3 : Option Addr) (c3 : Nat) (L : List Five), v' = .slice a3 L.length c3 ∧ Hid (L = l ++ l') ∧ Hid (PutSt w (w'.setCell ⟨w.heap.size + 1 + 1 + 1, 4, none⟩ (.slice a3 L.length c3)) V X kv nv a3 c3 L) := by
  obtain ⟨h0, h1, h2, h3, h4, h5, h6⟩ := h
  rw [five_append] at ho
  have hlen : l.length + m = (l ++ l').length := by rw [List.length_append, hm]
  rw [hlen] at ho
  obtain ⟨a3, c3, rfl⟩ := row_form ho
  refine ⟨a3, c3, l ++ l', rfl, rfl, ?_⟩
  have zy := hy.size
  have zg := hg.size
  have hne : ∀ b, b < w.heap.size + 4 → some b ≠ (Value.slice a2 l.length c2).ownBlock := fun b hb e => by have := own_lt h4 e; omega
  have gr : ∀ {b : Nat} {x0 x1 x2 x3 x4 : Value}, b < w.heap.size + 4 → FiveAt wx b x0 x1 x2 x3 x4 → FiveAt w' b x0 x1 x2 x3 x4 := fun hb hf => (hf.below hy (by omega)).grown hg (by omega) (hne _ hb)
  have bt : ∀ {b : Nat} {x0 x1 x2 x3 x4 : Value}, b < w.heap.size + 4 → b ≠ w.heap.size + 1 + 1 + 1 → FiveAt wx b x0 x1 x2 x3 x4 → FiveAt (w'.setCell ⟨w.heap.size + 1 + 1 + 1, 4, none⟩ (.slice a3 (l ++ l').length c3)) b x0 x1 x2 x3 x4 := fun hb hn hf => (gr hb hf).but (BelowBut.setCell (B := w'.heap.size) w' _ _) (by omega) hn
  refine ⟨bt (by omega) (by omega) h0, bt (by omega) (by omega) h1, bt (by omega) (by omega) h2, (gr (by omega) h3).set4 _, row_block ho (fun b hb _ _ => Below.heap_setCell _ _ _ _ (by show b ≠ w.heap.size + 1 + 1 + 1; omega)), by simp [World.setCell]; omega, ?_⟩
  have hB : Below w.heap.size w w' := ⟨hg.os.trans (hy.os.trans h6.os), hg.tape.trans (hy.tape.trans h6.tape), hg.output.trans (hy.output.trans h6.output), by have := h6.size; omega, fun b hb => (hg.block b (by omega) (hne b (by omega))).trans ((hy.block b (by omega)).trans (h6.block b hb))⟩
  exact hB.setCell (p := ⟨w.heap.size + 1 + 1 + 1, 4, none⟩) (by show w.heap.size ≤ w.heap.size + 1 + 1 + 1; omega) _

theorem put_cell {w wx wy w' : World} {V X : Five} {kv nv : Value} {a2 : Option Addr} {c2 : Nat} {l : List Five} (h : PutSt w wx V X kv nv a2 c2 l) (hy : Below wx.heap.size wx wy) (hg : wy.grownBy w' (Value.slice a2 l.length c2).ownBlock) :
    w'.cell? ⟨w.heap.size + 1 + 1 + 1, 4, none⟩ = some (.slice a2 l.length c2) ∧ w'.frozen? ⟨w.heap.size + 1 + 1 + 1, 4, none⟩ = false := by
  obtain ⟨h0, h1, h2, h3, h4, h5, h6⟩ := h
  have zy := hy.size
  have := (h3.below hy (by omega)).grown hg (by omega) (fun e => by have := own_lt h4 e; omega)
  exact ⟨this.1.2.2.2.2, this.2.2.2.2.2⟩

/-- What lies in memory while the names are put together; wb: as it was when the parts were done. -/
def PutN (w wb wx : World) (V : Five) (kv kvs : Value) (a1 : Option Addr) (c1 : Nat) (nms : List ByteArray) : Prop :=
  FiveAt wx w.heap.size V.a V.b V.c V.d V.e ∧ FiveAt wx (w.heap.size + 1 + 1) (.int .i64 0) (.int .i64 0) (.string ⟨#[]⟩) (.slice none 0 0) (.slice none 0 0) ∧
  FiveAt wx (w.heap.size + 1 + 1 + 1) kv (.int .i64 0) (.string ⟨#[]⟩) (.slice a1 nms.length c1) kvs ∧ wx.ownsRow wb.heap.size 9 1 (.slice a1 nms.length c1) nms.length (nms.map Value.string) ∧
  (∀ b, b < wb.heap.size → b ≠ w.heap.size + 1 + 1 + 1 → wx.heap[b]? = wb.heap[b]?) ∧ wb.heap.size ≤ wx.heap.size ∧ w.heap.size + 4 ≤ wb.heap.size ∧ Below w.heap.size w wx
theorem PutSt.names {w wx : World} {V X : Five} {kv : Value} {a2 : Option Addr} {c2 : Nat} {l : List Five} (h : PutSt w wx V X kv (.slice none 0 0) a2 c2 l) : PutN w wx wx V kv (.slice a2 l.length c2) none 0 [] := by
  obtain ⟨h0, h1, h2, h3, h4, h5, h6⟩ := h
  exact ⟨h0, h2, h3, World.ownsRow_nil _ _ _ _, fun _ _ _ => rfl, Nat.le_refl _, h5, h6⟩
theorem putN_cell {w wb wx wy w' : World} {V : Five} {kv kvs : Value} {a1 : Option Addr} {c1 : Nat} {nms : List ByteArray} (h : PutN w wb wx V kv kvs a1 c1 nms) (hy : Below wx.heap.size wx wy) (hg : wy.grownBy w' (Value.slice a1 nms.length c1).ownBlock) :
    w'.cell? ⟨w.heap.size + 1 + 1 + 1, 3, none⟩ = some (.slice a1 nms.length c1) ∧ w'.frozen? ⟨w.heap.size + 1 + 1 + 1, 3, none⟩ = false := by
  obtain ⟨h0, h2, h3, h4, h5, h6, h7, h8⟩ := h
  have zy := hy.size
  have := (h3.below hy (by omega)).grown hg (by omega) (fun e => by have := own_lt h4 e; omega)
  exact ⟨this.1.2.2.2.1, this.2.2.2.2.1⟩
theorem putN_grow {w wb wx wy w' : World} {V : Five} {kv kvs : Value} {a1 : Option Addr} {c1 m : Nat} {nms l' : List ByteArray} {v' : Value} (h : PutN w wb wx V kv kvs a1 c1 nms) (hy : Below wx.heap.size wx wy) (hg : wy.grownBy w' (Value.slice a1 nms.length c1).ownBlock)
    (ho : w'.ownsRow wb.heap.size 9 1 v' (nms.length + m) (nms.map Value.string ++ l'.map Value.string)) (hm : l'.length = m) : ∃ (a3 : Option Addr) (c3 : Nat) (L : List ByteArray), v' = .slice a3 L.length c3 ∧ Hid (L = nms ++ l') ∧ Hid (PutN w wb (w'.setCell ⟨w.heap.size + 1 + 1 + 1, 3, none⟩ (.slice a3 L.length c3)) V kv kvs a3 c3 L) := by
  obtain ⟨h0, h2, h3, h4, h5, h6, h7, h8⟩ := h
  rw [← List.map_append] at ho
  have hlen : nms.length + m = (nms ++ l').length := by rw [List.length_append, hm]
  rw [hlen] at ho
  obtain ⟨a3, c3, rfl⟩ := row_form ho
  refine ⟨a3, c3, nms ++ l', rfl, rfl, ?_⟩
  have zy := hy.size
  have zg := hg.size
  have hne : ∀ b, b < wb.heap.size → some b ≠ (Value.slice a1 nms.length c1).ownBlock := fun b hb e => by have := own_lt h4 e; omega
  have gr : ∀ {b : Nat} {x0 x1 x2 x3 x4 : Value}, b < w.heap.size + 4 → FiveAt wx b x0 x1 x2 x3 x4 → FiveAt w' b x0 x1 x2 x3 x4 := fun hb hf => (hf.below hy (by omega)).grown hg (by omega) (hne _ (by omega))
  have bt : ∀ {b : Nat} {x0 x1 x2 x3 x4 : Value}, b < w.heap.size + 4 → b ≠ w.heap.size + 1 + 1 + 1 → FiveAt wx b x0 x1 x2 x3 x4 → FiveAt (w'.setCell ⟨w.heap.size + 1 + 1 + 1, 3, none⟩ (.slice a3 (nms ++ l').length c3)) b x0 x1 x2 x3 x4 := fun hb hn hf => (gr hb hf).but (BelowBut.setCell (B := w'.heap.size) w' _ _) (by omega) hn
  have hbl : ∀ b, b < wb.heap.size → w'.heap[b]? = wx.heap[b]? := fun b hb => (hg.block b (by omega) (hne b hb)).trans (hy.block b (by omega))
  refine ⟨bt (by omega) (by omega) h0, bt (by omega) (by omega) h2, (gr (by omega) h3).set3 _, row_block ho (fun b hb _ _ => Below.heap_setCell _ _ _ _ (by show b ≠ w.heap.size + 1 + 1 + 1; omega)), fun b hb hn => (Below.heap_setCell _ _ _ _ hn).trans ((hbl b hb).trans (h5 b hb hn)), by simp [World.setCell]; omega, h7, ?_⟩
  have hB : Below w.heap.size w w' := ⟨hg.os.trans (hy.os.trans h8.os), hg.tape.trans (hy.tape.trans h8.tape), hg.output.trans (hy.output.trans h8.output), by have := h8.size; omega, fun b hb => (hbl b (by omega)).trans (h8.block b hb)⟩
  exact hB.setCell (p := ⟨w.heap.size + 1 + 1 + 1, 3, none⟩) (by show w.heap.size ≤ w.heap.size + 1 + 1 + 1; omega) _

/-- What is told: the tree, in the world in which the head has been copied. -/
theorem put_done {w wb wx : World} {S : Nat → Prop} {V X : Five} {k : Int} {nv0 : Value} {a1 a2 : Option Addr} {c1 c2 : Nat} {nms : List ByteArray} {L : List Five} {ts : List Tr} (hb : PutSt w wb V X (.int .i64 k) nv0 a2 c2 L) (h : PutN w wb wx V (.int .i64 k) (.slice a2 L.length c2) a1 c1 nms) (hL : L.length = ts.length) (hT : ∀ (i : Nat) (y : Tr) (f : Five), ts[i]? = some y → L[i]? = some f → TreeIs w S y f.agg) :
    ∀ W5, W5 = (((((wx.setCell ⟨w.heap.size + 1 + 1, 0, none⟩ (.int .i64 k)).setCell ⟨w.heap.size + 1 + 1, 1, none⟩ (.int .i64 0)).setCell ⟨w.heap.size + 1 + 1, 2, none⟩ (.string ⟨#[]⟩)).setCell ⟨w.heap.size + 1 + 1, 3, none⟩ (.slice a1 nms.length c1)).setCell ⟨w.heap.size + 1 + 1, 4, none⟩ (.slice a2 L.length c2)) →
      FiveAt W5 (w.heap.size + 1 + 1) (.int .i64 k) (.int .i64 0) (.string ⟨#[]⟩) (.slice a1 nms.length c1) (.slice a2 L.length c2) ∧ TreeIs W5 (fun b => S b ∨ w.heap.size ≤ b) (.mk k 0 ⟨#[]⟩ nms ts) (.agg #[.int .i64 k, .int .i64 0, .string ⟨#[]⟩, .slice a1 nms.length c1, .slice a2 L.length c2]) ∧ Below w.heap.size w W5 := by
  intro W5 hW5
  obtain ⟨_, _, _, _, hrow, _, _⟩ := hb
  obtain ⟨h0, h2, h3, h4, h5, h6, h7, h8⟩ := h
  have HQ := h2.set (.int .i64 k) (.int .i64 0) (.string ⟨#[]⟩) (.slice a1 nms.length c1) (.slice a2 L.length c2)
  rw [← hW5] at HQ
  obtain ⟨hF, hbb⟩ := HQ
  have hblk : ∀ b, b < wx.heap.size → b ≠ w.heap.size + 1 + 1 → W5.heap[b]? = wx.heap[b]? := fun b h1 h2 => (hbb wx.heap.size).block b h1 h2
  have HBF : Below w.heap.size w W5 := h8.trans ((hbb w.heap.size).below (Nat.le_refl _) (by omega))
  refine ⟨hF, ?_, HBF⟩
  have r1 : W5.ownsRow (w.heap.size + 4) 60 5 (.slice a2 L.length c2) L.length (fiveCells L) := row_block hrow (fun b hb hlt _ => (hblk b (by omega) (by omega)).trans (h5 b hlt (by omega)))
  rw [hL] at r1 ⊢
  have r2 : NamsAt W5 (fun b => S b ∨ w.heap.size ≤ b) a1 nms := nams_own (row_block h4 (fun b hb hlt _ => hblk b hlt (by omega))) rfl (fun b hb => .inr (by omega))
  exact tree_own (l := L) r1 (fun b hb => .inr (by omega)) r2 hL (fun i y f hy hf => TreeIs.keep (fun b _ hb => HBF.block b hb) (fun _ h _ => .inl h) HBF.size _ _ (hT i y f hy hf)) (own_cap h4) (own_pn h4)

end Go.Proofs.YtadlflgflnlhjaaGreatDoor
