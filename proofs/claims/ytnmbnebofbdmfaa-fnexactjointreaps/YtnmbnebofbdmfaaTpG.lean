/- A tree grown of a row's entries: the program's grown. -/
import Derived.Test.YtnmbnebofbdmfaaTpE
import Derived.Test.YtnmbnebofbdmfaaRndM
namespace Go.Proofs.Ytnmbnebofbdmfaa
open Go.RowKit Go.Shelf
set_option linter.unusedVariables false
attribute [local go_sem] Oper.semAt_some

/-- What grown answers. -/
def GrownIs (m : Nat) (N : Nat → Lb) (w : World) (e : Ending) (w' : World) : Prop :=
  ∃ T : Bt, e = .returned (.pointer T.pa) ∧ BrAt w' T ∧ T.bs.Nodup ∧ T.ok ∧ T.ino = (prs m N).foldl insP [] ∧ (∀ b ∈ T.bs, w.heap.size ≤ b) ∧ Below w.heap.size w w'

theorem BrAt.cell0 {w : World} : ∀ t : Bt, BrAt w t → ∀ b ∈ t.bs, ∃ v, w.cell? ⟨b, 0, none⟩ = some v
  | .nil, _, b, hb => by simp [Bt.bs] at hb
  | .node b' k v l r, ⟨h1, h2, h3⟩, b, hb => by
    simp only [Bt.bs, List.mem_cons, List.mem_append] at hb
    rcases hb with rfl | hb | hb
    · exact ⟨_, h1.1.1⟩
    · exact BrAt.cell0 l h2 b hb
    · exact BrAt.cell0 r h3 b hb
theorem BrAt.lt {w : World} {t : Bt} (h : BrAt w t) {b : Nat} (hb : b ∈ t.bs) : b < w.heap.size := by
  obtain ⟨v, hv⟩ := BrAt.cell0 t h b hb
  exact World.block_lt_of_cell? _ _ hv
theorem Only.others {P : Nat → Prop} {w w' : World} (h : Only P w w') (hc : ∀ b, P b → ∃ v, w.cell? ⟨b, 0, none⟩ = some v) : KeepsOthers w w' :=
  ⟨Nat.le_of_eq h.size.symm, fun k o hk ho => by
    by_cases hp : P k
    · obtain ⟨v, hv⟩ := hc k hp
      obtain ⟨o', ho', hcc⟩ := cells_of_cell hv
      rw [hk] at ho'
      cases ho'
      rw [ho] at hcc
      cases hcc
    · exact (h.block k hp).trans hk⟩
theorem F5.kept {W W' : World} {row : Option Nat} {B : Nat} {x0 x1 x2 x3 x4 : Value} (h : F5 W B x0 x1 x2 x3 x4) (hg : W.grownBy W' row) (hrow : ∀ r, row = some r → ∃ o : Obj, W.heap[r]? = some o ∧ o.isCells = false) : F5 W' B x0 x1 x2 x3 x4 := by
  obtain ⟨⟨a0, a1, a2, a3, a4⟩, f0, f1, f2, f3, f4⟩ := h
  exact ⟨⟨cell_kept a0 hg hrow, cell_kept a1 hg hrow, cell_kept a2 hg hrow, cell_kept a3 hg hrow, cell_kept a4 hg hrow⟩, (frozen_kept a0 hg hrow).trans f0, (frozen_kept a1 hg hrow).trans f1, (frozen_kept a2 hg hrow).trans f2, (frozen_kept a3 hg hrow).trans f3, (frozen_kept a4 hg hrow).trans f4⟩
theorem BrAt.kept {W W' : World} {row : Option Nat} (hg : W.grownBy W' row) (hrow : ∀ r, row = some r → ∃ o : Obj, W.heap[r]? = some o ∧ o.isCells = false) : ∀ t : Bt, BrAt W t → BrAt W' t
  | .nil, _ => trivial
  | .node b k v l r, ⟨h1, h2, h3⟩ => ⟨h1.kept hg hrow, BrAt.kept hg hrow l h2, BrAt.kept hg hrow r h3⟩
theorem BrAt.below {w w' : World} {t : Bt} (h : BrAt w t) (hb : Below w.heap.size w w') : BrAt w' t := BrAt.kept (grow_ofT hb) (fun r e => by cases e) t h
theorem br_new (w : World) (k v : ByteArray) (T : TypeId) : BrAt (w.alloc (.cells #[.string k, .string v, .int .i64 (wt k), .pointer none, .pointer none] T)) (.node w.heap.size k v .nil .nil) :=
  ⟨⟨⟨by rw [World.cell?_alloc_new]; rfl, by rw [World.cell?_alloc_new]; rfl, by rw [World.cell?_alloc_new]; rfl, by rw [World.cell?_alloc_new]; rfl, by rw [World.cell?_alloc_new]; rfl⟩, World.frozen?_alloc_new _ _ _ _, World.frozen?_alloc_new _ _ _ _, World.frozen?_alloc_new _ _ _ _, World.frozen?_alloc_new _ _ _ _, World.frozen?_alloc_new _ _ _ _⟩, trivial, trivial⟩

def kvAt (N : Nat → Lb) (i : Nat) : Pr := ((N i).key, (N i).val)
/-- What holds in each round. -/
def GrI (w : World) (N : Nat → Lb) (pre : List Nat) (W : World) : Prop :=
  (∃ T : Bt, Boxed W (w.heap.size + 1) 43 (.pointer T.pa) ∧ BrAt W T ∧ T.bs.Nodup ∧ T.ok ∧ T.ino = (pre.map (kvAt N)).foldl insP [] ∧ (∀ b ∈ T.bs, w.heap.size + 1 + 1 ≤ b)) ∧ Boxed W w.heap.size 64 (.func (.func 29) #[] #[]) ∧ Below w.heap.size w W
theorem GrI.own (w : World) (N : Nat → Lb) (B : Nat) (hB : w.heap.size ≤ B) : OwnFrom B (GrI w N) := fun pre W W' row ⟨⟨T, h1, h2, h3, h4, h5, h6⟩, h7, h8⟩ hg hr =>
  ⟨⟨T, boxed_own (β := Unit) _ _ (fun _ => _) () W W' row h1 hg (fun r e => (hr r e).2), BrAt.kept hg (fun r e => (hr r e).2) T h2, h3, h4, h5, h6⟩, boxed_own (β := Unit) _ _ (fun _ => _) () W W' row h7 hg (fun r e => (hr r e).2), ownFrom_below (β := Unit) (Nat.le_refl _) hB () W W' row h8 hg hr⟩

/-- A round is done. -/
theorem grown_fin {w W : World} {N : Nat → Lb} {pre : List Nat} {x : Nat} {T : Bt} (hbR : Boxed W (w.heap.size + 1) 43 (.pointer T.pa)) (hT : BrAt W T) (hTn : T.bs.Nodup) (hTo : T.ok) (hTi : T.ino = (pre.map (kvAt N)).foldl insP []) (hTb : ∀ b ∈ T.bs, w.heap.size + 1 + 1 ≤ b)
    (hbG : Boxed W w.heap.size 64 (.func (.func 29) #[] #[])) (hB : Below w.heap.size w W) (hz : w.heap.size + 1 + 1 ≤ W.heap.size) (w3 : World)
    (ho : Only (fun y => y ∈ T.bs ∨ y = W.heap.size) (W.drew.alloc (.cells #[.string (N x).key, .string (N x).val, .int .i64 (wt (N x).key), .pointer none, .pointer none] 74)) w3) (h3 : BrAt w3 (T.put W.heap.size (N x).key (N x).val)) (B : Nat) :
    KeepsFrom B W (w3.setCell ⟨w.heap.size + 1, 0, none⟩ (.pointer (T.put W.heap.size (N x).key (N x).val).pa)) ∧ Below w.heap.size W (w3.setCell ⟨w.heap.size + 1, 0, none⟩ (.pointer (T.put W.heap.size (N x).key (N x).val).pa)) ∧ GrI w N (pre ++ [x]) (w3.setCell ⟨w.heap.size + 1, 0, none⟩ (.pointer (T.put W.heap.size (N x).key (N x).val).pa)) := by
  obtain ⟨W2, hW2⟩ : ∃ W2, W2 = W.drew.alloc (.cells #[.string (N x).key, .string (N x).val, .int .i64 (wt (N x).key), .pointer none, .pointer none] 74) := ⟨_, rfl⟩
  have hn : BrAt W2 (.node W.heap.size (N x).key (N x).val .nil .nil) := by rw [hW2]; exact br_new W.drew _ _ _
  have hb2 : Below W.heap.size W W2 := by rw [hW2]; exact (Below.refl _ W).drew.alloc (Nat.le_refl _) _
  have hk2 : KeepsOthers W W2 := by
    rw [hW2]
    exact (show KeepsOthers W W.drew from ⟨Nat.le_refl _, fun _ _ h _ => h⟩).trans (KeepsOthers.alloc _ _)
  rw [← hW2] at ho
  have hT2 := hT.below hb2
  have hnb : ∀ y, (y ∈ T.bs ∨ y = W.heap.size) → w.heap.size + 1 + 1 ≤ y := fun y h => h.elim (hTb y) (fun e => by omega)
  have hk3 : KeepsOthers W2 w3 := ho.others (fun y hy => by
    rcases hy with hy | rfl
    · exact BrAt.cell0 T hT2 y hy
    · exact ⟨_, hn.1.1.1⟩)
  have hR3 : Boxed w3 (w.heap.size + 1) 43 (.pointer T.pa) := (ho.block _ (fun h => by have := hnb _ h; omega)).trans ((hb2.block _ hbR.lt).trans hbR)
  have hG3 : Boxed w3 w.heap.size 64 (.func (.func 29) #[] #[]) := (ho.block _ (fun h => by have := hnb _ h; omega)).trans ((hb2.block _ hbG.lt).trans hbG)
  have hB3 : Below w.heap.size W w3 := (hb2.mono hB.size).trans (ho.below (fun y h => by have := hnb y h; omega))
  have hB4 : Below w.heap.size W (w3.setCell ⟨w.heap.size + 1, 0, none⟩ (.pointer (T.put W.heap.size (N x).key (N x).val).pa)) := hB3.setCell (by simp) _
  have hlt : ∀ y ∈ T.bs, y < W.heap.size := fun y hy => hT.lt hy
  refine ⟨((hk2.trans hk3).trans (KeepsOthers.setCell _ _ _)).from B, hB4, ⟨T.put W.heap.size (N x).key (N x).val, hR3.set _, ?_, put_nodup T _ _ _ hTn (fun h => by have := hlt _ h; omega), put_ok T _ _ _ hTo, ?_, fun y hy => ?_⟩, hG3.other (by omega) _, hB.trans hB4⟩
  · refine BrAt.only (Only.set w3 (w.heap.size + 1) 0 _) _ h3 (fun y hy e => ?_)
    have := hnb y ((put_bs T _ _ _ y hy).symm)
    omega
  · rw [put_ino T _ _ _ hTo.1, hTi, List.map_append, List.foldl_append]
    rfl
  · exact hnb y ((put_bs T _ _ _ y hy).symm)

set_option maxRecDepth 100000 in
set_option maxHeartbeats 4000000 in
theorem grown_in (Bs m c : Nat) (a : Option Addr) (N : Nat → Lb) (hm : m ≤ 60) (w : World) (hBs : Bs < w.heap.size) (hc : w.cell? ⟨Bs, 0, none⟩ = some (.slice a m c)) (hrow : m = 0 ∨ ∃ g off, a = some ⟨g, off, none⟩ ∧ g < w.heap.size ∧ LimbsAt w g off m N) (hsz : ∀ i, (N i).key.size ≤ 2 ^ 20) :
    CallsIn Fence.wide 5 Try.prog 28 #[.func (.func 29) #[] #[], .func (.func 38) #[] #[.pointer (some ⟨Bs, 0, none⟩)]] w (GrownIs m N w) := by
  have HROW : Hid (m = 0 ∨ ∃ g off, a = some ⟨g, off, none⟩ ∧ g < w.heap.size ∧ LimbsAt w g off m N) := hrow
  have HSZ : Hid (∀ i, (N i).key.size ≤ 2 ^ 20) := hsz
  clear hrow hsz
  refine callsIn_of_wp_marks Try.func28 rfl trivial ?_ rfl
  simp only [Try.ntmps28, List.size_toArray, List.length_cons, List.length_nil, Nat.reduceAdd, Nat.reduceSub, Array.replicate_succ, Array.replicate_zero, List.push_toArray, List.append_toArray, List.nil_append, List.cons_append]
  gi_wp2_with fail
  have bG := Boxed.new w 64 (.func (.func 29) #[] #[])
  have bR := Boxed.new (w.alloc (.cells #[.func (.func 29) #[] #[]] 64)) 43 (.pointer none)
  simp only [World.size_alloc] at bR
  obtain ⟨W0, hW0⟩ : ∃ W0, W0 = (w.alloc (.cells #[.func (.func 29) #[] #[]] 64)).alloc (.cells #[.pointer none] 43) := ⟨_, rfl⟩
  have hB0 : Below w.heap.size w W0 := by rw [hW0]; exact ((Below.refl _ w).alloc (Nat.le_refl _) _).alloc (by simp) _
  have z0 : W0.heap.size = w.heap.size + 1 + 1 := by rw [hW0]; simp
  replace bG := bG.alloc (.cells #[.pointer none] 43)
  rw [← hW0] at bG bR ⊢
  clear hW0
  refine wpIn_rangeFunc_ownG rfl (by decide) (gf := 38) (lb := #[.pointer (some ⟨Bs, 0, none⟩)]) rfl trivial (enters_of Try.func38 (by kernel_rfl) rfl)
    (entries_stops 4 Bs w.heap.size m c a N (by decide) hm W0 (by omega) (by omega) ((hB0.cell (p := ⟨Bs, 0, none⟩) hBs).trans hc) (HROW.out.imp id (fun ⟨g, off, e, hg, hat⟩ => ⟨g, off, e, hg, hat.below hB0 hg⟩))) belowK_t (belowK_b (by omega)) (Below.refl _ _) (fun _ => rfl)
    (fun pre W => GrI w N pre W ∧ w.heap.size + 1 + 1 ≤ W.heap.size)
    (fun c pre W => False)
    (OwnFrom.and (GrI.own w N _ (by omega)) (fun _ W W' _ h hg _ => Nat.le_trans h hg.size)) (fun c _ _ _ _ h _ _ => h.elim)
    ⟨⟨⟨.nil, bR, trivial, List.nodup_nil, ⟨List.Pairwise.nil, trivial⟩, rfl, fun b hb => by simp [Bt.bs] at hb⟩, bG, hB0⟩, by omega⟩
    (fun x => { tmps := #[.func (.func 29) #[] #[], .func (.func 38) #[] #[.pointer (some ⟨Bs, 0, none⟩)], .pointer (some ⟨w.heap.size, 0, none⟩), undef, .pointer none, .pointer (some ⟨w.heap.size + 1, 0, none⟩), .string (N x).key, .string (N x).val, .func (.func 38) #[] #[.pointer (some ⟨Bs, 0, none⟩)], .string (N x).key, .string (N x).val, undef, undef, undef, undef, undef, undef, undef, undef, undef, undef], defers := [] })
    ?assign ?body ?done ?stop
  case assign =>
    intro l x W K hK
    dsimp only [encPr]
    gi_wp2
    exact hK
  case body =>
    rintro l pre x W ⟨⟨⟨T, hbR, hT, hTn, hTo, hTi, hTb⟩, hbG, hB⟩, hz⟩ hlt
    have cR := hbR.cell
    have cG := hbG.cell
    have qR : w.heap.size + 1 < W.heap.size := by omega
    have qG : w.heap.size < W.heap.size := by omega
    have hks : (N x).key.size ≤ 2 ^ 40 := by have := HSZ.out x; omega
    have HTN : Hid T.bs.Nodup := hTn
    have HNB : Hid (W.heap.size ∉ T.bs) := fun h => by have := hT.lt h; omega
    have HT2 : Hid (∀ o, BrAt (W.drew.alloc o) T) := fun o => hT.below ((Below.refl _ W).drew.alloc (Nat.le_refl _) o)
    have HN2 : Hid (∀ ty, BrAt (W.drew.alloc (.cells #[.string (N x).key, .string (N x).val, .int .i64 (wt (N x).key), .pointer none, .pointer none] ty)) (.node W.heap.size (N x).key (N x).val .nil .nil)) := fun ty => br_new W.drew _ _ _
    have HR3 : Hid (∀ w3 o, Only (fun y => y ∈ T.bs ∨ y = W.heap.size) (W.drew.alloc o) w3 → w3.cell? ⟨w.heap.size + 1, 0, none⟩ = some (.pointer T.pa) ∧ w3.frozen? ⟨w.heap.size + 1, 0, none⟩ = false) := fun w3 o ho => by
      have hb : Below W.heap.size W (W.drew.alloc o) := (Below.refl _ W).drew.alloc (Nat.le_refl _) o
      have hR3 : Boxed w3 (w.heap.size + 1) 43 (.pointer T.pa) := (ho.block _ (fun h => h.elim (fun h => by have := hTb _ h; omega) (fun h => by omega))).trans ((hb.block _ hbR.lt).trans hbR)
      exact ⟨hR3.cell, hR3.frozen⟩
    have FIN : Hid (∀ w3, Only (fun y => y ∈ T.bs ∨ y = W.heap.size) (W.drew.alloc (.cells #[.string (N x).key, .string (N x).val, .int .i64 (wt (N x).key), .pointer none, .pointer none] 74)) w3 → BrAt w3 (T.put W.heap.size (N x).key (N x).val) →
        KeepsFrom W0.heap.size W (w3.setCell ⟨w.heap.size + 1, 0, none⟩ (.pointer (T.put W.heap.size (N x).key (N x).val).pa)) ∧ Below w.heap.size W (w3.setCell ⟨w.heap.size + 1, 0, none⟩ (.pointer (T.put W.heap.size (N x).key (N x).val).pa)) ∧ GrI w N (pre ++ [x]) (w3.setCell ⟨w.heap.size + 1, 0, none⟩ (.pointer (T.put W.heap.size (N x).key (N x).val).pa)) ∧ w.heap.size + 1 + 1 ≤ (w3.setCell ⟨w.heap.size + 1, 0, none⟩ (.pointer (T.put W.heap.size (N x).key (N x).val).pa)).heap.size) := fun w3 ho h3 => by
      obtain ⟨r1, r2, r3⟩ := grown_fin hbR hT hTn hTo hTi hTb hbG hB hz w3 ho h3 W0.heap.size
      exact ⟨r1, r2, r3, Nat.le_trans hz r2.size⟩
    clear hbR hT hTn hTo hTi hTb hbG hB bR bG hB0 z0 hc hBs
    gi_wp2_with fail
    refine wpIn_region_any (by kernel_rfl) ?_
    refine wpAny_round l (by kernel_rfl) rfl _ _ _ _ ?_
    change wpAnyIn _ _ _ _ _ _ _ _ _ (World.drew _)
    refine wpAnyIn_take (i := 1) (v := .string (N x).key) rfl rfl (by kernel_rfl) (by kernel_rfl) (by kernel_rfl) (fun _ _ _ h => h) ⟨Or.inl ⟨by rfl, ?_⟩, fun _ => rfl⟩ ?_
    · intro w; go_simp
    refine wpAnyIn_take (i := 2) (v := .string (N x).val) rfl rfl (by kernel_rfl) (by kernel_rfl) (by kernel_rfl) (fun _ _ _ h => h) ⟨Or.inl ⟨by rfl, ?_⟩, fun _ => rfl⟩ ?_
    · intro w; go_simp
    refine wpAnyIn_take (i := 4) (v := .string (N x).key) rfl rfl (by kernel_rfl) (by kernel_rfl) (by kernel_rfl) (fun _ _ _ h => h) ⟨Or.inl ⟨by rfl, ?_⟩, fun _ => rfl⟩ ?_
    · intro w; go_simp
    refine wpAnyIn_ready (rs := [0, 3]) (by kernel_rfl) (by simp) ?_
    refine AllReadyIn.cons rfl (fun K hK => ?_) ?_
    · go_simp
      try (refine hK _ _ ?_; clear hK K)
      refine wpAnyIn_ready (rs := [3]) (by kernel_rfl) (by simp) ?_
      refine AllReadyIn.cons rfl (fun K hK => ?_) ?_
      · go_simp
        try (refine hK _ _ ?_; clear hK K)
        refine wpAnyIn_ready (rs := [5]) (by kernel_rfl) (by simp) ?_
        refine AllReadyIn.cons rfl (fun K hK => ?_) ?_
        · go_simp
          (refine ⟨trivial, ?_⟩
           gi_at_call 29
           refine (callsIn_wide.2 (implWeight_any (N x).key _ hks)).mono ?_
           rintro e w1 ⟨rfl, hw1⟩
           have hw := hw1.symm
           subst hw)
          try (refine hK _ _ ?_; clear hK K)
          refine wpAnyIn_take (i := 6) (v := .agg #[.string (N x).key, .string (N x).val, .int .i64 (wt (N x).key), .pointer none, .pointer none]) rfl rfl (by kernel_rfl) (by kernel_rfl) (by kernel_rfl) (fun _ _ _ h => h) ⟨Or.inl ⟨by rfl, ?_⟩, fun _ => rfl⟩ ?_
          · intro w; go_simp
          refine wpAnyIn_ready (rs := [7]) (by kernel_rfl) (by simp) ?_
          refine AllReadyIn.cons rfl (fun K hK => ?_) ?_
          · go_simp
            try (refine hK _ _ ?_; clear hK K)
            refine wpAnyIn_ready (rs := [8]) (by kernel_rfl) (by simp) ?_
            refine AllReadyIn.cons rfl (fun K hK => ?_) ?_
            · go_simp
              (refine ⟨trivial, ?_⟩
               gi_at_call 37
               refine (callsIn_wide.2 (withBranch_any T W.heap.size (N x).key (N x).val _ (HT2.out _) HTN.out (HN2.out _) HNB.out)).mono ?_
               rintro e w3 ⟨rfl, h3, ho3⟩
               have cR3 := (HR3.out w3 _ ho3).1
               have fR3 := (HR3.out w3 _ ho3).2)
              try (refine hK _ _ ?_; clear hK K)
              refine wpAnyIn_ready (rs := [9]) (by kernel_rfl) (by simp) ?_
              refine AllReadyIn.cons rfl (fun K hK => ?_) ?_
              · go_simp
                try (refine hK _ _ ?_; clear hK K)
                refine wpAnyIn_done (by kernel_rfl) ?_ _
                exact FIN.out w3 ho3 h3
              exact AllReadyIn.nil
            exact AllReadyIn.nil
          exact AllReadyIn.nil
        exact AllReadyIn.nil
      exact AllReadyIn.nil
    refine AllReadyIn.cons rfl (fun K hK => ?_) ?_
    · go_simp
      try (refine hK _ _ ?_; clear hK K)
      refine wpAnyIn_ready (rs := [0, 5]) (by kernel_rfl) (by simp) ?_
      refine AllReadyIn.cons rfl (fun K hK => ?_) ?_
      · go_simp
        try (refine hK _ _ ?_; clear hK K)
        refine wpAnyIn_ready (rs := [5]) (by kernel_rfl) (by simp) ?_
        refine AllReadyIn.cons rfl (fun K hK => ?_) ?_
        · go_simp
          (refine ⟨trivial, ?_⟩
           gi_at_call 29
           refine (callsIn_wide.2 (implWeight_any (N x).key _ hks)).mono ?_
           rintro e w1 ⟨rfl, hw1⟩
           have hw := hw1.symm
           subst hw)
          try (refine hK _ _ ?_; clear hK K)
          refine wpAnyIn_take (i := 6) (v := .agg #[.string (N x).key, .string (N x).val, .int .i64 (wt (N x).key), .pointer none, .pointer none]) rfl rfl (by kernel_rfl) (by kernel_rfl) (by kernel_rfl) (fun _ _ _ h => h) ⟨Or.inl ⟨by rfl, ?_⟩, fun _ => rfl⟩ ?_
          · intro w; go_simp
          refine wpAnyIn_ready (rs := [7]) (by kernel_rfl) (by simp) ?_
          refine AllReadyIn.cons rfl (fun K hK => ?_) ?_
          · go_simp
            try (refine hK _ _ ?_; clear hK K)
            refine wpAnyIn_ready (rs := [8]) (by kernel_rfl) (by simp) ?_
            refine AllReadyIn.cons rfl (fun K hK => ?_) ?_
            · go_simp
              (refine ⟨trivial, ?_⟩
               gi_at_call 37
               refine (callsIn_wide.2 (withBranch_any T W.heap.size (N x).key (N x).val _ (HT2.out _) HTN.out (HN2.out _) HNB.out)).mono ?_
               rintro e w3 ⟨rfl, h3, ho3⟩
               have cR3 := (HR3.out w3 _ ho3).1
               have fR3 := (HR3.out w3 _ ho3).2)
              try (refine hK _ _ ?_; clear hK K)
              refine wpAnyIn_ready (rs := [9]) (by kernel_rfl) (by simp) ?_
              refine AllReadyIn.cons rfl (fun K hK => ?_) ?_
              · go_simp
                try (refine hK _ _ ?_; clear hK K)
                refine wpAnyIn_done (by kernel_rfl) ?_ _
                exact FIN.out w3 ho3 h3
              exact AllReadyIn.nil
            exact AllReadyIn.nil
          exact AllReadyIn.nil
        exact AllReadyIn.nil
      refine AllReadyIn.cons rfl (fun K hK => ?_) ?_
      · go_simp
        (refine ⟨trivial, ?_⟩
         gi_at_call 29
         refine (callsIn_wide.2 (implWeight_any (N x).key _ hks)).mono ?_
         rintro e w1 ⟨rfl, hw1⟩
         have hw := hw1.symm
         subst hw)
        try (refine hK _ _ ?_; clear hK K)
        refine wpAnyIn_take (i := 6) (v := .agg #[.string (N x).key, .string (N x).val, .int .i64 (wt (N x).key), .pointer none, .pointer none]) rfl rfl (by kernel_rfl) (by kernel_rfl) (by kernel_rfl) (fun _ _ _ h => h) ⟨Or.inl ⟨by rfl, ?_⟩, fun _ => rfl⟩ ?_
        · intro w; go_simp
        refine wpAnyIn_ready (rs := [0, 7]) (by kernel_rfl) (by simp) ?_
        refine AllReadyIn.cons rfl (fun K hK => ?_) ?_
        · go_simp
          try (refine hK _ _ ?_; clear hK K)
          refine wpAnyIn_ready (rs := [7]) (by kernel_rfl) (by simp) ?_
          refine AllReadyIn.cons rfl (fun K hK => ?_) ?_
          · go_simp
            try (refine hK _ _ ?_; clear hK K)
            refine wpAnyIn_ready (rs := [8]) (by kernel_rfl) (by simp) ?_
            refine AllReadyIn.cons rfl (fun K hK => ?_) ?_
            · go_simp
              (refine ⟨trivial, ?_⟩
               gi_at_call 37
               refine (callsIn_wide.2 (withBranch_any T W.heap.size (N x).key (N x).val _ (HT2.out _) HTN.out (HN2.out _) HNB.out)).mono ?_
               rintro e w3 ⟨rfl, h3, ho3⟩
               have cR3 := (HR3.out w3 _ ho3).1
               have fR3 := (HR3.out w3 _ ho3).2)
              try (refine hK _ _ ?_; clear hK K)
              refine wpAnyIn_ready (rs := [9]) (by kernel_rfl) (by simp) ?_
              refine AllReadyIn.cons rfl (fun K hK => ?_) ?_
              · go_simp
                try (refine hK _ _ ?_; clear hK K)
                refine wpAnyIn_done (by kernel_rfl) ?_ _
                exact FIN.out w3 ho3 h3
              exact AllReadyIn.nil
            exact AllReadyIn.nil
          exact AllReadyIn.nil
        refine AllReadyIn.cons rfl (fun K hK => ?_) ?_
        · go_simp
          try (refine hK _ _ ?_; clear hK K)
          refine wpAnyIn_ready (rs := [0]) (by kernel_rfl) (by simp) ?_
          refine AllReadyIn.cons rfl (fun K hK => ?_) ?_
          · go_simp
            try (refine hK _ _ ?_; clear hK K)
            refine wpAnyIn_ready (rs := [8]) (by kernel_rfl) (by simp) ?_
            refine AllReadyIn.cons rfl (fun K hK => ?_) ?_
            · go_simp
              (refine ⟨trivial, ?_⟩
               gi_at_call 37
               refine (callsIn_wide.2 (withBranch_any T W.heap.size (N x).key (N x).val _ (HT2.out _) HTN.out (HN2.out _) HNB.out)).mono ?_
               rintro e w3 ⟨rfl, h3, ho3⟩
               have cR3 := (HR3.out w3 _ ho3).1
               have fR3 := (HR3.out w3 _ ho3).2)
              try (refine hK _ _ ?_; clear hK K)
              refine wpAnyIn_ready (rs := [9]) (by kernel_rfl) (by simp) ?_
              refine AllReadyIn.cons rfl (fun K hK => ?_) ?_
              · go_simp
                try (refine hK _ _ ?_; clear hK K)
                refine wpAnyIn_done (by kernel_rfl) ?_ _
                exact FIN.out w3 ho3 h3
              exact AllReadyIn.nil
            exact AllReadyIn.nil
          exact AllReadyIn.nil
        exact AllReadyIn.nil
      exact AllReadyIn.nil
    exact AllReadyIn.nil
  case done =>
    rintro D xs W hD rfl ⟨⟨⟨T, hbR, hT, hTn, hTo, hTi, hTb⟩, hbG, hB⟩, hz⟩ hK
    have cR := hbR.cell
    gi_wp2
    refine ⟨by simp, .inl ⟨_, _, rfl, run_takeDeferred hK, ?_⟩⟩
    refine ⟨.pointer T.pa, ?_, T, rfl, BrAt.kept (grownBy_putObj' _ D (.deferred none)) (fun r e => by cases e; exact ⟨_, hK, rfl⟩) T hT, hTn, hTo, hTi, fun b hb => by have := hTb b hb; omega, hB.trans (belowK_b (w := w) (Nat.le_refl _) _ D _ _ (by omega) hK rfl rfl)⟩
    simp [results, Try.f28, go_sem]
  case stop =>
    rintro D c pre W hD hpre h hK
    exact h.elim
end Go.Proofs.Ytnmbnebofbdmfaa
