/- A tree's limbs told in a row: the program's appendLimbs. -/
import Derived.Test.YtnmbnebofbdmfaaTpG
import Derived.Laws.OwnMore
import Derived.Deep.AppendLies
import Derived.Deep.RegionLaw
import Derived.Deep.Slices
import Derived.Deep.DeepCutAuto
namespace Go.Proofs.Ytnmbnebofbdmfaa
open Go.RowKit
set_option linter.unusedVariables false

theorem infoLimb4 : (Try.prog.info? 55).map (fun i => (i.zero, i.size, i.bytes)) = some (some (.agg #[.string ⟨#[]⟩, .string ⟨#[]⟩, .int .i64 0, .int .i64 0]), 4, 48) := by kernel_rfl
/-- The cells of limbs in a row. -/
def lbCells (l : List Lb) : List Value := l.flatMap fun x => [.string x.key, .string x.val, .int .i64 x.left, .int .i64 x.right]
theorem lb_snoc (l : List Lb) (x : Lb) : lbCells (l ++ [x]) = lbCells l ++ [.string x.key, .string x.val, .int .i64 x.left, .int .i64 x.right] := by simp [lbCells]
theorem lb_app (l m : List Lb) : lbCells (l ++ m) = lbCells l ++ lbCells m := by simp [lbCells]
theorem lb_len (l : List Lb) : (lbCells l).length = l.length * 4 := by
  induction l with
  | nil => rfl
  | cons x l ih => rw [show lbCells (x :: l) = [.string x.key, .string x.val, .int .i64 x.left, .int .i64 x.right] ++ lbCells l from rfl, List.length_append, ih]; simp; omega
theorem lb_get (l : List Lb) (i : Nat) (x : Lb) (h : l[i]? = some x) : (lbCells l)[i * 4]? = some (.string x.key) ∧ (lbCells l)[i * 4 + 1]? = some (.string x.val) ∧ (lbCells l)[i * 4 + 2]? = some (.int .i64 x.left) ∧ (lbCells l)[i * 4 + 3]? = some (.int .i64 x.right) := by
  induction l generalizing i with
  | nil => simp at h
  | cons y l ih =>
    rw [show lbCells (y :: l) = [.string y.key, .string y.val, .int .i64 y.left, .int .i64 y.right] ++ lbCells l from rfl]
    cases i with
    | zero => simp at h; subst h; simp
    | succ i =>
      have := ih i (by simpa using h)
      refine ⟨?_, ?_, ?_, ?_⟩
      all_goals rw [List.getElem?_append_right (by simp; omega)]
      · rw [show (i + 1) * 4 - [Value.string y.key, .string y.val, .int .i64 y.left, .int .i64 y.right].length = i * 4 by simp; omega]; exact this.1
      · rw [show (i + 1) * 4 + 1 - [Value.string y.key, .string y.val, .int .i64 y.left, .int .i64 y.right].length = i * 4 + 1 by simp; omega]; exact this.2.1
      · rw [show (i + 1) * 4 + 2 - [Value.string y.key, .string y.val, .int .i64 y.left, .int .i64 y.right].length = i * 4 + 2 by simp; omega]; exact this.2.2.1
      · rw [show (i + 1) * 4 + 3 - [Value.string y.key, .string y.val, .int .i64 y.left, .int .i64 y.right].length = i * 4 + 3 by simp; omega]; exact this.2.2.2
/-- Left and Right of one limb set. -/
theorem lb_set (a b : List Lb) (x : Lb) (l r : Int) : ((lbCells (a ++ x :: b)).set (a.length * 4 + 2) (.int .i64 l)).set (a.length * 4 + 3) (.int .i64 r) = lbCells (a ++ ⟨x.key, x.val, l, r⟩ :: b) := by
  rw [lb_app, lb_app, show lbCells (x :: b) = [.string x.key, .string x.val, .int .i64 x.left, .int .i64 x.right] ++ lbCells b from rfl, show lbCells (⟨x.key, x.val, l, r⟩ :: b) = [.string x.key, .string x.val, .int .i64 l, .int .i64 r] ++ lbCells b from rfl]
  have h2 : a.length * 4 + 2 - (lbCells a).length = 2 := by rw [lb_len]; omega
  have h3 : a.length * 4 + 3 - (lbCells a).length = 3 := by rw [lb_len]; omega
  rw [List.set_append_right _ _ (by rw [lb_len]; omega), h2, List.set_append_right _ _ (by rw [lb_len]; omega), h3]
  rfl
def OwnsL (w : World) (B : Nat) (v : Value) (l : List Lb) : Prop := w.ownsRow B 55 4 v l.length (lbCells l)
theorem OwnsL.form {w : World} {B : Nat} {v : Value} {l : List Lb} (h : OwnsL w B v l) : ∃ a c, v = .slice a l.length c := by
  rcases h.2 with ⟨rfl, e⟩ | ⟨g, cap, cur, rfl, _⟩
  · exact ⟨none, 0, by rw [e]⟩
  · exact ⟨_, _, rfl⟩
/-- The row is where it was, or in a new block from H on. -/
def MovedT (H : Nat) (lv lv' : Value) : Prop := lv'.ownBlock = lv.ownBlock ∨ ∃ g, lv'.ownBlock = some g ∧ H ≤ g
theorem MovedT.ne {H k : Nat} {lv lv' : Value} (h : MovedT H lv lv') (hk : k < H) (hn : some k ≠ lv.ownBlock) : some k ≠ lv'.ownBlock := fun e => by
  rcases h with h | ⟨g, h, hg⟩
  · rw [h] at e; exact hn e
  · rw [h] at e; injection e with e; omega
theorem MovedT.trans {H H' : Nat} {a b c : Value} (h : MovedT H a b) (k : MovedT H' b c) (hH : H ≤ H') : MovedT H a c := by
  rcases k with k | ⟨g, k, hg⟩
  · rcases h with h | ⟨g, h, hg⟩
    · exact .inl (k.trans h)
    · exact .inr ⟨g, k.trans h, hg⟩
  · exact .inr ⟨g, k, by omega⟩
theorem grown_onT {w wr w2 : World} {lv q : Value} (h : w.grownBy wr lv.ownBlock) (hm : MovedT w.heap.size lv q) (k : wr.grownBy w2 q.ownBlock) : w.grownBy w2 lv.ownBlock :=
  ⟨k.os.trans h.os, k.tape.trans h.tape, k.output.trans h.output, Nat.le_trans h.size k.size, fun b hb hn => (k.block b (Nat.lt_of_lt_of_le hb h.size) (hm.ne hb hn)).trans (h.block b hb hn)⟩
theorem F5.far {W W' : World} {row : Option Nat} {B : Nat} {x0 x1 x2 x3 x4 : Value} (h : F5 W B x0 x1 x2 x3 x4) (hg : W.grownBy W' row) (hne : some B ≠ row) : F5 W' B x0 x1 x2 x3 x4 := by
  have hlt : B < W.heap.size := World.block_lt_of_cell? _ _ h.1.1
  obtain ⟨⟨a0, a1, a2, a3, a4⟩, f0, f1, f2, f3, f4⟩ := h
  exact ⟨⟨(hg.cell_far ⟨B, 0, none⟩ hlt hne).trans a0, (hg.cell_far ⟨B, 1, none⟩ hlt hne).trans a1, (hg.cell_far ⟨B, 2, none⟩ hlt hne).trans a2, (hg.cell_far ⟨B, 3, none⟩ hlt hne).trans a3, (hg.cell_far ⟨B, 4, none⟩ hlt hne).trans a4⟩, (hg.frozen_far ⟨B, 0, none⟩ hlt hne).trans f0, (hg.frozen_far ⟨B, 1, none⟩ hlt hne).trans f1, (hg.frozen_far ⟨B, 2, none⟩ hlt hne).trans f2, (hg.frozen_far ⟨B, 3, none⟩ hlt hne).trans f3, (hg.frozen_far ⟨B, 4, none⟩ hlt hne).trans f4⟩
theorem BrAt.far {W W' : World} {row : Option Nat} (hg : W.grownBy W' row) : ∀ t : Bt, BrAt W t → (∀ b ∈ t.bs, some b ≠ row) → BrAt W' t
  | .nil, _, _ => trivial
  | .node b k v l r, ⟨h1, h2, h3⟩, hd => ⟨h1.far hg (hd b (by simp [Bt.bs])), BrAt.far hg l h2 (fun x hx => hd x (by simp [Bt.bs, hx])), BrAt.far hg r h3 (fun x hx => hd x (by simp [Bt.bs, hx]))⟩
theorem lb_news (W : World) (k v : ByteArray) (l r : Int) (T : TypeId) (H : Nat) (hH : W.heap.size = H) : ∀ (j : Nat) (u : Value), [Value.string k, .string v, .int .i64 l, .int .i64 r][j]? = some u → (W.alloc (.cells #[.string k, .string v, .int .i64 l, .int .i64 r] T)).cell? ((⟨H, 0, none⟩ : Addr).add j) = some u := by
  intro j u h
  subst hH
  have e : (⟨W.heap.size, 0, none⟩ : Addr).add j = ⟨W.heap.size, j, none⟩ := by unfold Addr.add; split <;> simp_all
  rw [e, World.cell?_alloc_new]
  simpa using h
theorem lb_one (k v : ByteArray) (l r : Int) : ∀ x : Value, x ∈ [Value.string k, .string v, .int .i64 l, .int .i64 r] → x.oneCell' = true := by
  intro x hx
  simp at hx
  rcases hx with rfl | rfl | rfl | rfl <;> rfl
theorem own_ltT {w : World} {B k : Nat} {v : Value} {l : List Lb} (h : OwnsL w B v l) (e : some k = v.ownBlock) : k < w.heap.size := (World.ownsRow.lt h k e.symm).2

theorem grown_past {w w5 : World} {o : Obj} {row : Option Nat} (h : (w.alloc o).drew.grownBy w5 row) : w.grownBy w5 row :=
  ⟨h.os, h.tape, h.output, Nat.le_trans (by show w.heap.size ≤ (w.alloc o).heap.size; rw [World.size_alloc]; exact Nat.le_succ _) h.size, fun x hx hn => (h.block x (by show x < (w.alloc o).heap.size; rw [World.size_alloc]; exact Nat.lt_succ_of_lt hx) hn).trans (Below.heap_alloc w o x hx)⟩

/-- What appendLimbs answers. -/
def AppSaid (t : Bt) : Prop := ∀ (lv : Value) (l : List Lb) (B : Nat) (w : World), BrAt w t → (∀ b ∈ t.bs, some b ≠ lv.ownBlock) → OwnsL w B lv l → B ≤ w.heap.size → l.length + t.sz ≤ 2 ^ 20 →
    Calls Try.prog 33 #[lv, .pointer t.pa] w fun e w' => ∃ lv', e = .returned (.tuple #[lv', .int .i64 (t.top l.length)]) ∧ OwnsL w' B lv' (l ++ t.limbs l.length) ∧ w.grownBy w' lv.ownBlock ∧ MovedT w.heap.size lv lv'

set_option maxRecDepth 100000 in
set_option maxHeartbeats 4000000 in
theorem app_node (b : Nat) (k v : ByteArray) (l r : Bt) (ihl : AppSaid l) (ihr : AppSaid r) : AppSaid (.node b k v l r) := by
  intro lv L B w h hd hown hB hlen
  obtain ⟨la, lc, rfl⟩ := hown.form
  have HT : Hid (BrAt w (.node b k v l r) ∧ ∀ x ∈ (Bt.node b k v l r).bs, some x ≠ (Value.slice la L.length lc).ownBlock) := ⟨h, hd⟩
  have HO : Hid (OwnsL w B (.slice la L.length lc) L) := hown
  obtain ⟨iN, hi, hz0, hz1, hz2⟩ := info_parts infoLimb4
  have HI : Hid (Try.prog.info? 55 = some iN ∧ iN.zero = some (.agg #[.string ⟨#[]⟩, .string ⟨#[]⟩, .int .i64 0, .int .i64 0]) ∧ iN.size = 4 ∧ iN.bytes = 48) := ⟨hi, hz0, hz1, hz2⟩
  obtain ⟨⟨a0, a1, a2, a3, a4⟩, f0, f1, f2, f3, f4⟩ := h.1
  have hbl : b < w.heap.size := World.block_lt_of_cell? _ _ a0
  have hsz : L.length + 1 + l.sz + r.sz ≤ 2 ^ 20 := by rw [Bt.sz] at hlen; omega
  clear h hd hown hi hz0 hz1 hz2 f0 f1 f2 f3 f4 hlen
  show Calls _ _ #[_, .pointer (some ⟨b, 0, none⟩)] w _
  go_enter Try.func33, Try.ntmps33
  go_upto_region 4 with fail
  go_cut [0] (fun q wx => ∃ (g1 cap1 : Nat), q = .slice (some ⟨g1, 0, none⟩) (L.length + 1) cap1 ∧ Hid (OwnsL wx B (.slice (some ⟨g1, 0, none⟩) (L.length + 1) cap1) (L ++ [⟨k, v, 0, 0⟩]) ∧ w.grownBy wx (Value.slice la L.length lc).ownBlock ∧ MovedT w.heap.size (.slice la L.length lc) (.slice (some ⟨g1, 0, none⟩) (L.length + 1) cap1)))
  case first =>
    have HON : Hid (∀ o, (w.drew.alloc o).ownsRow B 55 4 (.slice la L.length lc) L.length (lbCells L)) := fun o => World.ownsRow.alloc (World.ownsRow.drew HO.out) o
    have HNW : Hid (∀ T : TypeId, ∀ (j : Nat) (u : Value), [Value.string k, .string v, .int .i64 0, .int .i64 0][j]? = some u → (w.drew.alloc (.cells #[.string k, .string v, .int .i64 0, .int .i64 0] T)).cell? ((⟨w.heap.size, 0, none⟩ : Addr).add j) = some u) := fun T => lb_news w.drew k v 0 0 T w.heap.size rfl
    go_region_law (refine step_append_lies _ (by rfl) _ _ 26 (by rfl) B 55 iN _ 4 48 Try.underlying26 HI.out.1 HI.out.2.1 HI.out.2.2.1 HI.out.2.2.2 rfl (by decide) (.slice la L.length lc) L.length (lbCells L) (by rfl) (HON.out _) ⟨w.heap.size, 0, none⟩ 1 1 [.string k, .string v, .int .i64 0, .int .i64 0] (by rfl) rfl (HNW.out _) (lb_one k v 0 0) (by decide) (by unfold maxLen; omega) (by omega) (by show B ≤ (w.drew.alloc _).heap.size; rw [World.size_alloc]; show B ≤ w.heap.size + 1; omega) (w.heap.size + 1) (World.size_alloc w.drew _) ?_; intro g5 cap5 w5 hown5 hgrow5 hat5 hlt5)
    all_goals
      have HQ : Hid (OwnsL w5 B (.slice (some ⟨g5, 0, none⟩) (L.length + 1) cap5) (L ++ [⟨k, v, 0, 0⟩]) ∧ w.grownBy w5 (Value.slice la L.length lc).ownBlock ∧ MovedT w.heap.size (.slice la L.length lc) (.slice (some ⟨g5, 0, none⟩) (L.length + 1) cap5)) := by
        refine ⟨?_, ?_, ?_⟩
        · unfold OwnsL
          rw [lb_snoc, List.length_append]
          exact hown5
        · exact grown_past hgrow5
        · rcases hat5 with e | e
          · exact .inl e.symm
          · exact .inr ⟨g5, rfl, by omega⟩
      clear hown5 hgrow5 hat5 hlt5
      go_wp2_with fail
      go_meet
      case rel => exact ⟨g5, cap5, rfl, HQ⟩
  case rest =>
    obtain ⟨g1, cap1, rfl, HQ⟩ := hcut
    have HBT : Hid (BrAt wc (.node b k v l r) ∧ ∀ x ∈ (Bt.node b k v l r).bs, some x ≠ (Value.slice (some ⟨g1, 0, none⟩) (L.length + 1) cap1).ownBlock) :=
      ⟨BrAt.far HQ.out.2.1 _ HT.out.1 HT.out.2, fun x hx => HQ.out.2.2.ne (HT.out.1.lt hx) (HT.out.2 x hx)⟩
    obtain ⟨⟨e0, e1, e2, e3, e4⟩, _⟩ := HBT.out.1.1
    have zc := HQ.out.2.1.size
    have hlc : (L ++ [(⟨k, v, 0, 0⟩ : Lb)]).length = L.length + 1 := by simp
    have HLC : Hid ((L ++ [(⟨k, v, 0, 0⟩ : Lb)]).length = L.length + 1) := hlc
    clear hlc a0 a1 a2 a3 a4
    go_wp2_with fail
    refine (ihl _ (L ++ [⟨k, v, 0, 0⟩]) B wc HBT.out.1.2.1 (fun x hx => HBT.out.2 x (by simp [Bt.bs, hx])) HQ.out.1 (by omega) (by rw [HLC.out]; omega)).mono ?_
    rintro e w2 ⟨lv2, rfl, ho2, hg2, hm2⟩
    rw [HLC.out] at ho2
    have HQ2 : Hid (OwnsL w2 B lv2 (L ++ [⟨k, v, 0, 0⟩] ++ l.limbs (L.length + 1)) ∧ wc.grownBy w2 (Value.slice (some ⟨g1, 0, none⟩) (L.length + 1) cap1).ownBlock ∧ MovedT wc.heap.size (.slice (some ⟨g1, 0, none⟩) (L.length + 1) cap1) lv2) := ⟨ho2, hg2, hm2⟩
    obtain ⟨la2, lc2, rfl⟩ := ho2.form
    have HL2 : Hid ((L ++ [(⟨k, v, 0, 0⟩ : Lb)] ++ l.limbs (L.length + 1)).length = L.length + 1 + l.sz) := by show _ = _; rw [List.length_append, HLC.out, Bt.limbs_len]
    rw [HLC.out]
    have HB2 : Hid (BrAt w2 (.node b k v l r) ∧ ∀ x ∈ (Bt.node b k v l r).bs, some x ≠ (Value.slice la2 (L ++ [(⟨k, v, 0, 0⟩ : Lb)] ++ l.limbs (L.length + 1)).length lc2).ownBlock) :=
      ⟨BrAt.far HQ2.out.2.1 _ HBT.out.1 HBT.out.2, fun x hx => HQ2.out.2.2.ne (HBT.out.1.lt hx) (HBT.out.2 x hx)⟩
    obtain ⟨⟨e0', e1', e2', e3', e4'⟩, _⟩ := HB2.out.1.1
    have z2 := HQ2.out.2.1.size
    obtain ⟨n2, hn2⟩ : ∃ n, n = (L ++ [(⟨k, v, 0, 0⟩ : Lb)] ++ l.limbs (L.length + 1)).length := ⟨_, rfl⟩
    have HN2 : Hid (n2 = L.length + 1 + l.sz ∧ n2 = (L ++ [(⟨k, v, 0, 0⟩ : Lb)] ++ l.limbs (L.length + 1)).length) := ⟨hn2.trans HL2.out, hn2⟩
    rw [← hn2] at HQ2 HB2 ⊢
    clear ho2 hg2 hm2 e0 e1 e2 e3 e4 hn2
    obtain ⟨lt, hlt⟩ : ∃ t, t = l.top (L.length + 1) := ⟨_, rfl⟩
    have HLT : Hid (lt = l.top (L.length + 1)) := hlt
    rw [← hlt]
    clear hlt
    go_wp2_with fail
    refine (ihr _ (L ++ [⟨k, v, 0, 0⟩] ++ l.limbs (L.length + 1)) B w2 HB2.out.1.2.2 (fun x hx => HB2.out.2 x (by simp [Bt.bs, hx])) HQ2.out.1 (by omega) (by rw [HL2.out]; omega)).mono ?_
    rintro e w3 ⟨lv3, rfl, ho3, hg3, hm3⟩
    rw [HL2.out] at ho3 ⊢
    obtain ⟨R, hR⟩ : ∃ R, R = l.limbs (L.length + 1) ++ r.limbs (L.length + 1 + l.sz) := ⟨_, rfl⟩
    have hM : L ++ [(⟨k, v, 0, 0⟩ : Lb)] ++ l.limbs (L.length + 1) ++ r.limbs (L.length + 1 + l.sz) = L ++ ⟨k, v, 0, 0⟩ :: R := by rw [hR]; simp
    have HR : Hid (R = l.limbs (L.length + 1) ++ r.limbs (L.length + 1 + l.sz)) := hR
    rw [hM] at ho3
    obtain ⟨g3, cap3, rfl, hb3, hlt3⟩ := World.ownsRow.form ho3 (by simp; omega)
    have hget := lb_get (L ++ ⟨k, v, 0, 0⟩ :: R) L.length ⟨k, v, 0, 0⟩ (by simp)
    have c2 : w3.cell? ⟨g3, L.length * 4 + 2, none⟩ = some (.int .i64 0) := (World.ownsRow.cellAt ho3 _ (by simp; omega)).trans hget.2.2.1
    have c3 : w3.cell? ⟨g3, L.length * 4 + 3, none⟩ = some (.int .i64 0) := (World.ownsRow.cellAt ho3 _ (by simp; omega)).trans hget.2.2.2
    have q2 : w3.frozen? ⟨g3, L.length * 4 + 2, none⟩ = false := World.ownsRow.frozenAt ho3 _
    have q3 : w3.frozen? ⟨g3, L.length * 4 + 3, none⟩ = false := World.ownsRow.frozenAt ho3 _
    have HQ3 : Hid (OwnsL w3 B (.slice (some ⟨g3, 0, none⟩) (L ++ (⟨k, v, 0, 0⟩ : Lb) :: R).length cap3) (L ++ ⟨k, v, 0, 0⟩ :: R) ∧ w2.grownBy w3 (Value.slice la2 n2 lc2).ownBlock ∧ MovedT w2.heap.size (.slice la2 n2 lc2) (.slice (some ⟨g3, 0, none⟩) (L ++ (⟨k, v, 0, 0⟩ : Lb) :: R).length cap3)) := ⟨ho3, hg3, hm3⟩
    obtain ⟨n3, hn3⟩ : ∃ n, n = (L ++ (⟨k, v, 0, 0⟩ : Lb) :: R).length := ⟨_, rfl⟩
    have HN3 : Hid (n3 = (L ++ (⟨k, v, 0, 0⟩ : Lb) :: R).length) := hn3
    have i1 : (L.length : Int) < (n3 : Int) := by rw [hn3]; simp; omega
    have i0 : (0 : Int) ≤ (L.length : Int) := by omega
    rw [← hn3] at HQ3 ⊢
    obtain ⟨rt, hrt⟩ : ∃ t, t = r.top (L.length + 1 + l.sz) := ⟨_, rfl⟩
    have HRT : Hid (rt = r.top (L.length + 1 + l.sz)) := hrt
    rw [← hrt]
    clear hrt hn3 hget ho3 hg3 hm3 hM hR e0' e1' e2' e3' e4'
    go_wp2_with fail
    have A2 := grown_onT HQ.out.2.1 HQ.out.2.2 HQ2.out.2.1
    have M2 := HQ.out.2.2.trans HQ2.out.2.2 zc
    have A3 := grown_onT A2 M2 HQ3.out.2.1
    have M3 := M2.trans HQ3.out.2.2 (by omega)
    obtain ⟨s1, t1⟩ := World.ownsRow.stored (g := g3) (cap := cap3) (by have := HQ3.out.1; rw [HN3.out] at this; exact this) (L.length * 4 + 2) (.int .i64 lt)
    obtain ⟨s2, t2⟩ := s1.stored (L.length * 4 + 3) (.int .i64 rt)
    have A4 := grown_onT A3 M3 (t1 : w3.grownBy _ (Value.slice (some ⟨g3, 0, none⟩) n3 cap3).ownBlock)
    have A5 := grown_onT A4 M3 (t2 : World.grownBy _ _ (Value.slice (some ⟨g3, 0, none⟩) n3 cap3).ownBlock)
    refine bodyPost_ret (v := .tuple #[.slice (some ⟨g3, 0, none⟩) n3 cap3, .int .i64 L.length]) (by simp [results, Try.results33, go_sem]) rfl ⟨_, rfl, ?_, A5, M3⟩
    rw [lb_set] at s2
    rw [Bt.limbs, ← HLT.out, ← HRT.out, ← HR.out]
    unfold OwnsL
    rw [HN3.out]
    rw [show (L ++ (⟨k, v, lt, rt⟩ : Lb) :: R).length = (L ++ (⟨k, v, 0, 0⟩ : Lb) :: R).length by simp]
    exact s2

set_option maxHeartbeats 400000 in
theorem app_any (t : Bt) : AppSaid t := by
  induction t with
  | nil =>
    intro lv L B w _ _ hown hB _
    have HO : Hid (OwnsL w B lv L) := hown
    obtain ⟨la, lc, rfl⟩ := hown.form
    clear hown
    show Calls _ _ #[_, .pointer none] w _
    go_enter Try.func33, Try.ntmps33
    go_wp2
    refine bodyPost_ret (v := .tuple #[.slice la L.length lc, .int .i64 (-1)]) (by simp [results, Try.results33, go_sem]) rfl ⟨_, rfl, ?_, World.grownBy.refl _ _, .inl rfl⟩
    rw [Bt.limbs, List.append_nil]
    exact HO.out
  | node b k v l r ihl ihr => exact app_node b k v l r ihl ihr

/-- limbsOf: a row of one's own. -/
theorem own_of_row {w : World} {B : Nat} {v : Value} {l : List Lb} (h : OwnsL w B v l) (hl : l.length ≤ 2 ^ 20) (d : Lb) : ∃ b, (l ≠ [] → B ≤ b) ∧ OwnR w b v l.length (fun i => l.getD i d) := by
  rcases h.2 with ⟨rfl, e⟩ | ⟨g, cap, cur, rfl, hb, hh, _⟩
  · exact ⟨B, fun _ => Nat.le_refl _, ⟨none, 0, 0, by rw [e], by omega, .inl e⟩⟩
  · have hh' : OwnsL w B (.slice (some ⟨g, 0, none⟩) l.length cap) l := h
    refine ⟨g, fun _ => hb, ⟨_, cap, 0, rfl, by omega, .inr ⟨rfl, (Array.getElem?_eq_some_iff.1 hh).1, fun i hi => ?_, fun o ho => ?_⟩⟩⟩
    · have hx : l[i]? = some l[i] := List.getElem?_eq_getElem hi
      have hg := lb_get l i _ hx
      have hd : l.getD i d = l[i] := by rw [List.getD_eq_getElem?_getD, hx]; rfl
      dsimp only
      rw [hd, Nat.zero_add]
      exact ⟨(World.ownsRow.cellAt hh' _ (by omega)).trans hg.1, (World.ownsRow.cellAt hh' _ (by omega)).trans hg.2.1, (World.ownsRow.cellAt hh' _ (by omega)).trans hg.2.2.1, (World.ownsRow.cellAt hh' _ (by omega)).trans hg.2.2.2⟩
    · exact World.ownsRow.frozenAt hh' _

set_option maxHeartbeats 400000 in
theorem limbsOf_any (t : Bt) (w : World) (h : BrAt w t) (hs : t.sz ≤ 2 ^ 20) :
    Calls Try.prog 17 #[.pointer t.pa] w fun e w' => ∃ v, e = .returned v ∧ OwnsL w' w.heap.size v (t.limbs 0) ∧ Below w.heap.size w w' := by
  have HT : Hid (BrAt w t) := h
  clear h
  go_enter Try.func17, Try.ntmps17
  go_wp2_with fail
  refine (app_any t (.slice none 0 0) [] w.heap.size w HT.out (fun b _ e => by simp [Value.ownBlock] at e) (World.ownsRow_nil _ _ _ _) (Nat.le_refl _) (by simpa using hs)).mono ?_
  rintro e w1 ⟨lv, rfl, ho, hg, _⟩
  obtain ⟨la, lc, rfl⟩ := ho.form
  have HO : Hid (OwnsL w1 w.heap.size (.slice la ([] ++ t.limbs 0).length lc) (t.limbs 0)) := ho
  have HB : Hid (Below w.heap.size w w1) := ⟨hg.os, hg.tape, hg.output, hg.size, fun k hk => hg.block k hk (by simp [Value.ownBlock])⟩
  clear ho hg
  go_wp2
  refine bodyPost_ret (v := .slice la ([] ++ t.limbs 0).length lc) (by simp [results, Try.results17, go_sem]) rfl ⟨_, rfl, HO.out, HB.out⟩
end Go.Proofs.Ytnmbnebofbdmfaa
