/- The keys from one to another: the program's KeysFrom. -/
import Derived.Test.YtmiofccmimhabaaTpI
import Derived.Test.YtmiofccmimhabaaTpX
import Derived.Maps.AppendAt
namespace Go.Proofs.Ytmiofccmimhabaa
open Go.RowKit Go.Shelf
set_option linter.unusedVariables false
attribute [local go_sem] Oper.semAt_some

/-- Whether a key is wanted. -/
def wantK (lo hi k : ByteArray) : Bool := !(Op.bytesLess k.toList lo.toList) && (decide (hi = ⟨#[]⟩) || Op.bytesLess k.toList hi.toList)
/-- What KeysFrom tells. -/
def KfTold (Ls : List Lb) (lo hi : ByteArray) (q : Bool) (L : List ByteArray) : Prop :=
  (GoodL Ls ∧ ∃ T : Bt, T.ok ∧ T.limbs 0 = Ls ∧ q = true ∧ L = T.keys.filter (wantK lo hi)) ∨ (¬ GoodL Ls ∧ q = false ∧ L = [])
theorem KfTold.same {Ls : List Lb} {lo hi : ByteArray} {q q' : Bool} {L L' : List ByteArray} (h : KfTold Ls lo hi q L) (k : KfTold Ls lo hi q' L') : q = q' ∧ L = L' := by
  have hi : ∀ {S T : Bt}, S.limbs 0 = Ls → T.limbs 0 = Ls → S.ino = T.ino := fun {S T} hS hT => by
    rw [← Bt.ino_sh S, limbs_shape S T 0 (hS.trans hT.symm), Bt.ino_sh]
  rcases h with ⟨h1, T, _, h2, rfl, rfl⟩ | ⟨h1, rfl, rfl⟩
  · rcases k with ⟨k1, S, _, k2, rfl, rfl⟩ | ⟨k1, rfl, rfl⟩
    · exact ⟨rfl, by unfold Bt.keys; rw [hi h2 k2]⟩
    · exact absurd h1 k1
  · rcases k with ⟨k1, S, _, k2, rfl, rfl⟩ | ⟨k1, rfl, rfl⟩
    · exact absurd k1 h1
    · exact ⟨rfl, rfl⟩
theorem KfTold.len {Ls : List Lb} {lo hi : ByteArray} {q : Bool} {L : List ByteArray} (h : KfTold Ls lo hi q L) : L.length ≤ 60 := by
  rcases h with ⟨h1, T, _, h2, _, rfl⟩ | ⟨_, _, rfl⟩
  · have e1 := List.length_filter_le (wantK lo hi) T.keys
    rw [Bt.keys_len, ← T.limbs_len 0, h2] at e1
    exact Nat.le_trans e1 h1.1
  · simp
def keyCells (l : List ByteArray) : List Value := l.map Value.string
/-- What KeysFrom answers. -/
def KfIs (Ls : List Lb) (lo hi : ByteArray) (w : World) (e : Ending) (w' : World) : Prop :=
  ∃ (v : Value) (q : Bool) (L : List ByteArray), e = .returned (.tuple #[v, .bool q]) ∧ KfTold Ls lo hi q L ∧ w'.ownsRow w.heap.size 9 1 v L.length (keyCells L) ∧ Below w.heap.size w w'
theorem noneL : (⟨#[]⟩ : ByteArray).toList = [] := by decide +kernel
theorem infoStrK : (Try.prog.info? 9).map (fun i => (i.zero, i.size, i.bytes)) = some (some (.string ⟨#[]⟩), 1, 16) := by kernel_rfl

set_option maxRecDepth 100000 in
set_option maxHeartbeats 1000000 in
theorem implKeys_in (n c : Nat) (a : Option Addr) (N : Nat → Lb) (lo hi : ByteArray) (w : World) (h : RowIs w w.heap.size (.slice a n c) n N) (hs : SmallR n N) (hlo : lo.size ≤ 2 ^ 20) (hhi : hi.size ≤ 2 ^ 20) (hgood : GoodL (lbs n N)) :
    CallsIn Fence.wide 5 Try.prog 27 #[.agg #[.slice a n c], .string lo, .string hi] w (KfIs (lbs n N) lo hi w) := by
  have HR : Hid (RowIs w w.heap.size (.slice a n c) (lbs n N).length (lbAt (lbs n N))) := h.list
  have HS : Hid ((lbs n N).length ≤ 2 ^ 20 ∧ ∀ x ∈ lbs n N, x.key.size ≤ 2 ^ 20 ∧ x.val.size ≤ 2 ^ 20) := hs.list
  clear h hs
  obtain ⟨i0, hi0, hz0, hz1, hz2⟩ := info_parts infoStrK
  refine callsIn_of_wp_marks Try.func27 rfl trivial ?_ rfl
  simp only [Try.ntmps27, List.size_toArray, List.length_cons, List.length_nil, Nat.reduceAdd, Nat.reduceSub, Array.replicate_succ, Array.replicate_zero, List.push_toArray, List.append_toArray, List.nil_append, List.cons_append]
  gi_wp2_with fail
  have bL := Boxed.new (w.alloc (.cells #[.slice a n c] 31)) 9 (.string lo)
  have bH := Boxed.new ((w.alloc (.cells #[.slice a n c] 31)).alloc (.cells #[.string lo] 9)) 9 (.string hi)
  replace bL := bL.alloc (.cells #[.string hi] 9)
  simp only [World.size_alloc] at bL bH
  obtain ⟨W0, hW0⟩ : ∃ W0, W0 = ((w.alloc (.cells #[.slice a n c] 31)).alloc (.cells #[.string lo] 9)).alloc (.cells #[.string hi] 9) := ⟨_, rfl⟩
  have hB0 : Below w.heap.size w W0 := by rw [hW0]; exact (((Below.refl _ w).alloc (Nat.le_refl _) _).alloc (by simp) _).alloc (by simp; omega) _
  have z0 : W0.heap.size = w.heap.size + 1 + 1 + 1 := by rw [hW0]; simp
  rw [← hW0] at bL bH ⊢
  clear hW0
  refine ⟨trivial, (callsIn_wide.2 (treeOf_any (lbs n N) _ _ (HR.out.below hB0 (by omega)) HS.out.1 HS.out.2)).mono ?_⟩
  rintro e w1 ⟨⟨hg, T, rfl, hT, hTn, hTo, hTl, hTb⟩ | ⟨hg, rfl⟩, hb1⟩
  · have hB1 : Below w.heap.size w w1 := hB0.trans (hb1.mono (by omega))
    have z1 := hb1.size
    have bL1 : Boxed w1 (w.heap.size + 1) 9 (.string lo) := (hb1.block _ (by omega)).trans bL
    have bH1 : Boxed w1 (w.heap.size + 1 + 1) 9 (.string hi) := (hb1.block _ (by omega)).trans bH
    have hs60 : T.sz ≤ 60 := by rw [← T.limbs_len 0, hTl]; exact hg.1
    have HG : Hid (GoodL (lbs n N) ∧ T.ok ∧ T.limbs 0 = lbs n N) := ⟨hg, hTo, hTl⟩
    have HT : Hid (BrAt w1 T) := hT
    have HLO : Hid (w1.cell? ⟨w.heap.size + 1, 0, none⟩ = some (.string lo)) := bL1.cell
    have HHI : Hid (w1.cell? ⟨w.heap.size + 1 + 1, 0, none⟩ = some (.string hi)) := bH1.cell
    clear hg hTn hTo hTl hTb hb1 bL bH hB0 hT bL1 bH1
    gi_wp2_with fail
    refine ⟨trivial, (keysOf_in _ _ _).mono ?_⟩
    rintro e w2 ⟨rfl, rfl⟩
    have bO := Boxed.new w1 43 (.slice none 0 0)
    have bS := Boxed.new (w1.alloc (.cells #[.slice none 0 0] 43)) 57 (.pointer T.pa)
    replace bO := bO.alloc (.cells #[.pointer T.pa] 57)
    simp only [World.size_alloc] at bO bS
    obtain ⟨W2, hW2⟩ : ∃ W2, W2 = (w1.alloc (.cells #[.slice none 0 0] 43)).alloc (.cells #[.pointer T.pa] 57) := ⟨_, rfl⟩
    have hb2 : Below w1.heap.size w1 W2 := by rw [hW2]; exact ((Below.refl _ w1).alloc (Nat.le_refl _) _).alloc (by simp) _
    have z2 : W2.heap.size = w1.heap.size + 1 + 1 := by rw [hW2]; simp
    rw [← hW2] at bO bS ⊢
    clear hW2
    have hT2 : BrAt W2 T := HT.out.below hb2
    have hB2 : Below w.heap.size w W2 := hB1.trans (hb2.mono hB1.size)
    have hlow : ∀ b ∈ T.bs, b < w1.heap.size := fun b hb => HT.out.lt hb
    have HKL : Hid (∀ W, Below w1.heap.size w1 W → W.cell? ⟨w.heap.size + 1, 0, none⟩ = some (.string lo) ∧ W.cell? ⟨w.heap.size + 1 + 1, 0, none⟩ = some (.string hi)) := fun W h => ⟨(h.cell (by show w.heap.size + 1 < _; omega)).trans HLO.out, (h.cell (by show w.heap.size + 1 + 1 < _; omega)).trans HHI.out⟩
    gi_wp2_with fail
    refine wpIn_rangeFunc_ownG rfl (by decide) (gf := 68) (lb := #[.pointer (some ⟨w1.heap.size + 1, 0, none⟩)]) rfl trivial (enters_of Try.func68 (by kernel_rfl) rfl)
      (keys_stops 4 (w1.heap.size + 1) w1.heap.size T W2 (by omega) bS.cell hT2 hlow hs60) belowK_t (belowK_b (by omega)) (Below.refl _ _) (fun _ => rfl)
      (fun (pre : List ByteArray) W => (∃ v, Boxed W w1.heap.size 43 v ∧ W.ownsRow w1.heap.size 9 1 v (pre.filter (wantK lo hi)).length (keyCells (pre.filter (wantK lo hi))) ∧ True) ∧ Below w1.heap.size w1 W)
      (fun c pre W => False)
      (OwnFrom.and (Own.from (holdsRow_own w1.heap.size w1.heap.size 43 9 1 (fun pre : List ByteArray => (pre.filter (wantK lo hi)).length) (fun pre => keyCells (pre.filter (wantK lo hi))) (fun pre v => True)) _) (ownFrom_below (Nat.le_refl _) (by omega)))
      (fun c _ _ _ _ h _ _ => h.elim)
      ⟨⟨_, bO, World.ownsRow_nil _ _ _ _, trivial⟩, hb2⟩
      (fun x => { tmps := #[.agg #[.slice a n c], .string lo, .string hi, .pointer (some ⟨w.heap.size, 0, none⟩), .pointer (some ⟨w.heap.size + 1, 0, none⟩), .pointer (some ⟨w.heap.size + 1 + 1, 0, none⟩), .slice none 0 0, .bool false, .pointer T.pa, .bool true, .pointer (some ⟨w1.heap.size, 0, none⟩), .string x, .tuple #[.pointer T.pa, .bool true], .agg #[.slice a n c], .tuple #[.pointer T.pa, .bool true], .pointer T.pa, .bool true, .bool true, .bool false, .pointer T.pa, .func (.func 68) #[] #[.pointer (some ⟨w1.heap.size + 1, 0, none⟩)], .string x, undef, undef, undef, undef, undef, undef, undef, undef, undef, undef, undef, undef, undef, undef, undef, undef, undef], defers := [] })
      ?assign ?body ?done ?stop
    case assign =>
      intro l x W K hK
      dsimp only [encKey]
      gi_wp2
      exact hK
    case body =>
      rintro l pre x W ⟨⟨v, hv, hrow, _⟩, hB⟩ hlt
      obtain ⟨cL, cH⟩ := HKL.out W hB
      have hc := hv.cell
      have hql : w1.heap.size < W.heap.size := hv.lt
      have HNO : Hid (wantK lo hi x = false → KeepsFrom W2.heap.size W W ∧ Below w1.heap.size W W ∧ (∃ v, Boxed W w1.heap.size 43 v ∧ W.ownsRow w1.heap.size 9 1 v ((pre ++ [x]).filter (wantK lo hi)).length (keyCells ((pre ++ [x]).filter (wantK lo hi))) ∧ True) ∧ Below w1.heap.size w1 W) := fun h => by
        have e : (pre ++ [x]).filter (wantK lo hi) = pre.filter (wantK lo hi) := by simp [List.filter_append, h]
        rw [e]
        exact ⟨(KeepsOthers.refl W).from _, Below.refl _ _, ⟨v, hv, hrow, trivial⟩, hB⟩
      cases hlx : Op.bytesLess x.toList lo.toList with
      | true =>
        gi_wp2_with fail
        exact HNO.out (by unfold wantK; simp [hlx])
      | false =>
        have hpl : (pre.filter (wantK lo hi)).length < 60 := Nat.lt_of_le_of_lt (List.length_filter_le _ _) hlt
        by_cases hh : hi = ⟨#[]⟩
        · have hh1 : (hi.toList == []) = true := by rw [hh, noneL]; rfl
          have hh2 : (hi.toList == (⟨#[]⟩ : ByteArray).toList) = true := by rw [hh]; exact beq_self_eq_true _
          have hw : wantK lo hi x = true := by unfold wantK; simp [hlx, hh]
          have e : (pre ++ [x]).filter (wantK lo hi) = pre.filter (wantK lo hi) ++ [x] := by simp [List.filter_append, hw]
          clear hh
          gi_wp2_with (gi_at_builtin; refine wpListIn_append_own _ rfl _ _ 43 rfl w1.heap.size 9 i0 (.string ⟨#[]⟩) 1 16 Try.underlying43 hi0 hz0 hz1 hz2 rfl (by decide) _ _ _ rfl (hrow.alloc _) ⟨W.heap.size, 0, none⟩ 1 1 [.string x] rfl rfl (cell_one_new _ _ _) (by simp [Value.oneCell']) (by unfold maxLen; omega) (by omega) (by have := hB.size; simp; omega) ?_; intro v' w3 hown' hgrow _; obtain ⟨g', cap', rfl⟩ := ownsRow_succ hown'; obtain ⟨hv1, hv2, hr2, hk2, hb3⟩ := hv.appended (by decide) hrow hB.size (Nat.le_refl _) hown' hgrow; have hc1 := hv1.cell; have hf1 := hv1.frozen)
          refine ⟨hk2.from _, hb3, ⟨_, hv2, ?_, trivial⟩, hB.trans hb3⟩
          rw [e, List.length_append]
          simpa [keyCells] using hr2
        · have hh2 : (hi.toList == (⟨#[]⟩ : ByteArray).toList) = false := by
            rw [← Bool.not_eq_true]
            exact fun h => hh (toL_inj (eq_of_beq h))
          have hh1 : (hi.toList == []) = false := by rw [← noneL]; exact hh2
          cases hxh : Op.bytesLess x.toList hi.toList with
          | true =>
            have hw : wantK lo hi x = true := by unfold wantK; simp [hlx, hxh]
            have e : (pre ++ [x]).filter (wantK lo hi) = pre.filter (wantK lo hi) ++ [x] := by simp [List.filter_append, hw]
            clear hh
            gi_wp2_with (gi_at_builtin; refine wpListIn_append_own _ rfl _ _ 43 rfl w1.heap.size 9 i0 (.string ⟨#[]⟩) 1 16 Try.underlying43 hi0 hz0 hz1 hz2 rfl (by decide) _ _ _ rfl (hrow.alloc _) ⟨W.heap.size, 0, none⟩ 1 1 [.string x] rfl rfl (cell_one_new _ _ _) (by simp [Value.oneCell']) (by unfold maxLen; omega) (by omega) (by have := hB.size; simp; omega) ?_; intro v' w3 hown' hgrow _; obtain ⟨g', cap', rfl⟩ := ownsRow_succ hown'; obtain ⟨hv1, hv2, hr2, hk2, hb3⟩ := hv.appended (by decide) hrow hB.size (Nat.le_refl _) hown' hgrow; have hc1 := hv1.cell; have hf1 := hv1.frozen)
            refine ⟨hk2.from _, hb3, ⟨_, hv2, ?_, trivial⟩, hB.trans hb3⟩
            rw [e, List.length_append]
            simpa [keyCells] using hr2
          | false =>
            gi_wp2_with fail
            exact HNO.out (by unfold wantK; simp [hxh, hh])
    case done =>
      rintro D ys W hD rfl ⟨⟨v, hv, hrow, _⟩, hB⟩ hK
      have cO := hv.cell
      have hBB : Below w.heap.size w (W.putObj D (.deferred none)) := (hB1.trans (hB.mono hB1.size)).trans (belowK_b (w := w) (Nat.le_refl _) _ D _ _ (by omega) hK rfl rfl)
      have HOUT : Hid (KfIs (lbs n N) lo hi w (.returned (.tuple #[v, .bool true])) (W.putObj D (.deferred none))) := ⟨_, _, T.keys.filter (wantK lo hi), rfl, .inl ⟨HG.out.1, T, HG.out.2.1, HG.out.2.2, rfl, rfl⟩, World.ownsRow.mono (ownsRow_putObj hrow _ hK rfl) hB1.size, hBB⟩
      obtain ⟨va, vn, vc, rfl⟩ : ∃ va vn vc, v = .slice va vn vc := by
        rcases hrow.2 with ⟨rfl, _⟩ | ⟨g, cap, cur, rfl, _⟩
        · exact ⟨_, _, _, rfl⟩
        · exact ⟨_, _, _, rfl⟩
      gi_wp2
      refine ⟨by simp, .inl ⟨_, _, rfl, run_takeDeferred hK, ?_⟩⟩
      refine ⟨.tuple #[.slice va vn vc, .bool true], ?_, HOUT.out⟩
      simp [results, Try.f27, go_sem]
    case stop =>
      rintro D c pre W hD hpre h hK
      exact h.elim
  · exact absurd hgood hg

set_option maxRecDepth 100000 in
set_option maxHeartbeats 1000000 in
theorem implKeys_no (n c : Nat) (a : Option Addr) (N : Nat → Lb) (lo hi : ByteArray) (w : World) (h : RowIs w w.heap.size (.slice a n c) n N) (hs : SmallR n N) (hbad : ¬ GoodL (lbs n N)) :
    CallsIn Fence.wide 5 Try.prog 27 #[.agg #[.slice a n c], .string lo, .string hi] w (KfIs (lbs n N) lo hi w) := by
  have HR : Hid (RowIs w w.heap.size (.slice a n c) (lbs n N).length (lbAt (lbs n N))) := h.list
  have HS : Hid ((lbs n N).length ≤ 2 ^ 20 ∧ ∀ x ∈ lbs n N, x.key.size ≤ 2 ^ 20 ∧ x.val.size ≤ 2 ^ 20) := hs.list
  clear h hs
  refine callsIn_of_wp Try.func27 rfl trivial ?_ rfl
  simp only [Try.ntmps27, List.size_toArray, List.length_cons, List.length_nil, Nat.reduceAdd, Nat.reduceSub, Array.replicate_succ, Array.replicate_zero, List.push_toArray, List.append_toArray, List.nil_append, List.cons_append]
  gi_wp2_with fail
  have hB0 : Below w.heap.size w (((w.alloc (.cells #[.slice a n c] 31)).alloc (.cells #[.string lo] 9)).alloc (.cells #[.string hi] 9)) := (((Below.refl _ w).alloc (Nat.le_refl _) _).alloc (by simp) _).alloc (by simp; omega) _
  refine ⟨trivial, (callsIn_wide.2 (treeOf_any (lbs n N) _ _ (HR.out.below hB0 (by simp; omega)) HS.out.1 HS.out.2)).mono ?_⟩
  rintro e w1 ⟨⟨hg, T, rfl, hT, hTn, hTo, hTl, hTb⟩ | ⟨hg, rfl⟩, hb1⟩
  · exact absurd hg hbad
  · have hB1 : Below w.heap.size w w1 := hB0.trans (hb1.mono (by simp; omega))
    have HD : Hid (KfIs (lbs n N) lo hi w (.returned (.tuple #[.slice none 0 0, .bool false])) w1) := ⟨_, _, [], rfl, .inr ⟨hg, rfl, rfl⟩, World.ownsRow_nil _ _ _ _, hB1⟩
    clear hg hb1 hB1 hB0 hbad
    gi_wp2_with fail
    refine bodyPost_ret (v := .tuple #[.slice none 0 0, .bool false]) ?_ rfl ?_
    · simp [results, Try.f27, go_sem]
    · exact HD.out

/-- KeysFrom, at every treap. -/
theorem implKeys_any (n c : Nat) (a : Option Addr) (N : Nat → Lb) (lo hi : ByteArray) (w : World) (h : RowIs w w.heap.size (.slice a n c) n N) (hs : SmallR n N) (hlo : lo.size ≤ 2 ^ 20) (hhi : hi.size ≤ 2 ^ 20) :
    Calls Try.prog 27 #[.agg #[.slice a n c], .string lo, .string hi] w (KfIs (lbs n N) lo hi w) := by
  refine (callsIn_wide (n := 5)).1 ?_
  by_cases hg : GoodL (lbs n N)
  · exact implKeys_in n c a N lo hi w h hs hlo hhi hg
  · exact implKeys_no n c a N lo hi w h hs hg
end Go.Proofs.Ytmiofccmimhabaa
