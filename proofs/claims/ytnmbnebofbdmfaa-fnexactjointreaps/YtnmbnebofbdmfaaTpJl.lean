/- FnExactJoinTreaps answers true at every two treaps. -/
import Derived.Test.YtnmbnebofbdmfaaTpJs
import Derived.Test.YtnmbnebofbdmfaaTpBl
import Derived.Test.YtnmbnebofbdmfaaTpMk
import Derived.Test.YtnmbnebofbdmfaaTpKs
namespace Go.Proofs.Ytnmbnebofbdmfaa
open Go.RowKit
set_option linter.unusedVariables false

def OneAt (w : World) (B : Nat) (x : Value) : Prop := w.cell? ⟨B, 0, none⟩ = some x ∧ w.frozen? ⟨B, 0, none⟩ = false
theorem OneAt.below {w w' : World} {B Z : Nat} {x : Value} (h : OneAt w B x) (hb : Below Z w w') (hZ : B < Z) : OneAt w' B x := ⟨(hb.cell hZ).trans h.1, (hb.frozen hZ).trans h.2⟩
theorem oneAt_new (w : World) (x : Value) (T : TypeId) : OneAt (w.alloc (.cells #[x] T)) w.heap.size x := ⟨by rw [World.cell?_alloc_new]; rfl, World.frozen?_alloc_new _ _ _ _⟩
/-- What lies behind a call of JoinTreaps: its answer in a block of its own. -/
def CutV (N : Nat → Lb) (n : Nat) (M : Nat → Lb) (n' : Nat) (wb wx : World) (b7 : Nat) (u : Value) (q : Bool) (g : Nat) (L : List Lb) : Prop :=
  (OneAt wx b7 u ∧ JTold (lbs n N) (lbs n' M) q L) ∧ (wb.heap.size ≤ b7 ∧ b7 < wx.heap.size) ∧ Below wb.heap.size wb wx ∧ (L ≠ [] → g ≠ b7 ∧ g < wx.heap.size) ∧ OwnR wx g u L.length (lbAt L) ∧ L.length ≤ 200
theorem cutV_new {N M : Nat → Lb} {n n' g : Nat} {wb v5 : World} {u : Value} {q : Bool} {L : List Lb} (hB : Below wb.heap.size wb v5) (hq : JTold (lbs n N) (lbs n' M) q L) (hg : L ≠ [] → g < v5.heap.size) (ho : OwnR v5 g u L.length (lbAt L)) (hl : L.length ≤ 200) (T : TypeId) : CutV N n M n' wb (v5.alloc (.cells #[u] T)) v5.heap.size u q g L :=
  ⟨⟨oneAt_new v5 u T, hq⟩, ⟨hB.size, by simp⟩, hB.alloc hB.size _, fun h => ⟨by have := hg h; omega, by have := hg h; simp; omega⟩, ho.below ((Below.refl _ _).alloc (Nat.le_refl _) _), hl⟩
theorem cutV_set {N M : Nat → Lb} {n n' g yb : Nat} {wb v5 : World} {u z : Value} {q : Bool} {L : List Lb} (hB : Below wb.heap.size wb v5) (hy : wb.heap.size ≤ yb) (hZ : OneAt v5 yb z) (hq : JTold (lbs n N) (lbs n' M) q L) (hg : L ≠ [] → g ≠ yb ∧ g < v5.heap.size) (ho : OwnR v5 g u L.length (lbAt L)) (hl : L.length ≤ 200) : CutV N n M n' wb (v5.setCell ⟨yb, 0, none⟩ u) yb u q g L := by
  have hlt := World.block_lt_of_cell? _ _ hZ.1
  have hbb : BelowBut v5.heap.size yb v5 (v5.setCell ⟨yb, 0, none⟩ u) := BelowBut.setCell _ _ _
  refine ⟨⟨⟨World.cell?_setCell_same' _ _ _ (by rw [hZ.1]; rfl), (World.frozen?_setCell _ _ _ _).trans hZ.2⟩, hq⟩, ⟨hy, by simpa [World.setCell] using hlt⟩, hB.trans (hbb.below hB.size hy), fun h => ⟨(hg h).1, by simpa [World.setCell] using (hg h).2⟩, ?_, hl⟩
  by_cases h0 : L = []
  · subst h0
    obtain ⟨a, c, off, e, hn, _⟩ := ho
    exact ⟨a, c, off, e, hn, .inl rfl⟩
  · exact ho.but hbb (hg h0).1

set_option maxRecDepth 100000 in
set_option maxHeartbeats 8000000 in
theorem joinTreaps_law (a a' : Option Addr) (c n c' n' : Nat) (N M : Nat → Lb) (w : World) (hn : n ≤ maxLen) (h : ArgR w a n N) (hz : ∀ i, i < n → (N i).key.size ≤ maxLen ∧ (N i).val.size ≤ maxLen) (hn' : n' ≤ maxLen) (h' : ArgR w a' n' M) (hz' : ∀ i, i < n' → (M i).key.size ≤ maxLen ∧ (M i).val.size ≤ maxLen) :
    Calls Try.prog 3 #[.agg #[.slice a n c], .agg #[.slice a' n' c']] w fun e w' => e = .returned (.bool true) ∧ Below w.heap.size w w' := by
  have HZ : Hid (∀ i, i < n → (N i).key.size ≤ maxLen ∧ (N i).val.size ≤ maxLen) := hz
  have H : Hid (ArgR w a n N) := h
  have HZ' : Hid (∀ i, i < n' → (M i).key.size ≤ maxLen ∧ (M i).val.size ≤ maxLen) := hz'
  have H' : Hid (ArgR w a' n' M) := h'
  clear hz h hz' h'
  go_enter Try.func3, Try.ntmps3
  go_wp2_with fail
  have hbl0 : ∀ o o', Below w.heap.size w ((w.alloc o).alloc o') := fun o o' => ((Below.refl _ _).alloc (Nat.le_refl _) o).alloc (by simp) o'
  refine (szTreap_left a c n N 1048576 (by decide) (by decide) _ hn (H.out.below (hbl0 _ _)) HZ.out).mono ?_
  rintro e w1 ⟨r, rfl, hr, hb1⟩
  have x1 : w1.cell? ⟨w.heap.size, 0, none⟩ = some (.slice a n c) := by rw [hb1.cell (by simp; omega)]; simp [go_sem]
  have y1 : w1.cell? ⟨w.heap.size + 1, 0, none⟩ = some (.slice a' n' c') := by rw [hb1.cell (by simp)]; simp [go_sem]
  have HB1 : Hid (Below w.heap.size w w1) := (hbl0 _ _).trans (hb1.mono (by simp; omega))
  have z1 : w.heap.size + 1 < w1.heap.size := by have := hb1.size; simp at this; omega
  clear hb1 hbl0
  rcases hr with rfl | ⟨r0, rl, hsm⟩
  · go_wp2
    go_ret
    exact ⟨rfl, HB1.out⟩
  have HSM : Hid (SmallR n N) := hsm
  have n20 : n ≤ 2 ^ 20 := hsm.1
  have r1 : ¬ r < 0 := by omega
  clear hsm
  go_wp2_with fail
  refine (szTreap_left a' c' n' M r r0 rl _ hn' (H'.out.below HB1.out) HZ'.out).mono ?_
  rintro e w2 ⟨r', rfl, hr', hb2⟩
  have x2 : w2.cell? ⟨w.heap.size, 0, none⟩ = some (.slice a n c) := (hb2.cell (by show w.heap.size < _; omega)).trans x1
  have y2 : w2.cell? ⟨w.heap.size + 1, 0, none⟩ = some (.slice a' n' c') := (hb2.cell z1).trans y1
  have HB2 : Hid (Below w.heap.size w w2) := HB1.out.trans (hb2.mono HB1.out.size)
  have z2 : w.heap.size + 1 < w2.heap.size := by have := hb2.size; omega
  clear hb2 x1 y1
  rcases hr' with rfl | ⟨r0', rl', hsm'⟩
  · go_wp2
    go_ret
    exact ⟨rfl, HB2.out⟩
  have HSM' : Hid (SmallR n' M) := hsm'
  have n20' : n' ≤ 2 ^ 20 := hsm'.1
  have r1' : ¬ r' < 0 := by omega
  have z2' : w.heap.size < w2.heap.size := by omega
  clear hsm'
  have HC1 : Hid (∀ W, Below w2.heap.size w2 W → _) := fun W hW => toTreap_any a c n N W n20 (H.out.below (HB2.out.trans (hW.mono HB2.out.size)))
  have HC2 : Hid (∀ W, Below w2.heap.size w2 W → _) := fun W hW => toTreap_any a' c' n' M W n20' (H'.out.below (HB2.out.trans (hW.mono HB2.out.size)))
  have HC3 : Hid (∀ (W : World) (b3 : Nat) (a3 : Option Addr) (c3 b4 : Nat) (a4 : Option Addr) (c4 : Nat), Below w2.heap.size w2 W → OwnR W b3 (.slice a3 n c3) n N → OwnR W b4 (.slice a4 n' c4) n' M → Calls Try.prog 5 #[.agg #[.slice a3 n c3], .agg #[.slice a4 n' c4]] W (JoinGot (lbs n N) (lbs n' M) W)) := fun W b3 a3 c3 b4 a4 c4 hW h3 h4 => specJoin_own n c3 n' c4 a3 a4 N M W h3.row HSM.out h4.row HSM'.out
  have HSK : Hid (∀ w', Below w2.heap.size w2 w' → (w'.cell? ⟨w.heap.size, 0, none⟩ = some (.slice a n c) ∧ w'.cell? ⟨w.heap.size + 1, 0, none⟩ = some (.slice a' n' c'))) := fun w' hb => ⟨(hb.cell (by show w.heap.size < _; omega)).trans x2, (hb.cell (by show w.heap.size + 1 < _; omega)).trans y2⟩
  have HS2 : Hid (w2.cell? ⟨w.heap.size, 0, none⟩ = some (.slice a n c) ∧ w2.cell? ⟨w.heap.size + 1, 0, none⟩ = some (.slice a' n' c')) := ⟨x2, y2⟩
  have HBd : Hid (Below w2.heap.size w2 w2.drew) := (Below.refl _ _).drew
  have HBa : Hid (Below w2.heap.size w2 ((w2.alloc (.cells #[.slice none 0 0] 28)).drew)) := ((Below.refl _ _).alloc (Nat.le_refl _) _).drew
  have HBb : Hid (Below w2.heap.size w2 (w2.alloc (.cells #[.slice none 0 0] 28))) := (Below.refl _ _).alloc (Nat.le_refl _) _
  have HFa : Hid (OneAt ((w2.alloc (.cells #[.slice none 0 0] 28)).drew) w2.heap.size (.slice none 0 0)) := oneAt_new w2 (.slice none 0 0) 28
  go_upto_region 10 with fail
  go_cut [6, 7] (fun p q wx => ∃ (b7 : Nat) (u7 : Value) (q7 : Bool) (g7 : Nat) (L7 : List Lb), p = .pointer (some ⟨b7, 0, none⟩) ∧ q = .bool q7 ∧ Hid (CutV N n M n' w2 wx b7 u7 q7 g7 L7))
  case first =>
    go_region_held3 (fun w' => w'.cell? ⟨w.heap.size, 0, none⟩ = some (.slice a n c) ∧ w'.cell? ⟨w.heap.size + 1, 0, none⟩ = some (.slice a' n' c')) (first | (with_reducible exact HS6) | (with_reducible exact HS5) | (with_reducible exact HS4) | (with_reducible exact HS3) | (with_reducible exact HSK.out _ (hB5.alloc hB5.size _)) | (with_reducible exact HSK.out _ (hB4.alloc hB4.size _)) | (with_reducible exact HSK.out _ (hB3.alloc hB3.size _)) | (with_reducible exact HSK.out _ HBa.out) | (with_reducible exact HSK.out _ HBd.out) | (with_reducible exact HS2.out) | (with_reducible exact HSK.out _ HBb.out) | fail)
      (first | (go_at_call 6; go_fit (HC1.out w2.drew HBd.out); rintro e v3 ⟨b3, a3, c3, rfl, _, _, ho3, hb3⟩; have hB3 : Below w2.heap.size w2 v3 := HBd.out.trans hb3; have zz3 : w2.heap.size ≤ v3.heap.size := hB3.size; have HS3 := HSK.out v3 hB3; have HO3 : Hid (OwnR v3 b3 (.slice a3 n c3) n N) := ho3; clear ho3 hb3) | (go_at_call 6; go_fit (HC1.out ((w2.alloc (.cells #[.slice none 0 0] 28)).drew) HBa.out); rintro e v3 ⟨b3, a3, c3, rfl, _, _, ho3, hb3⟩; have hB3 : Below w2.heap.size w2 v3 := HBa.out.trans (hb3.mono (by show _ ≤ (w2.alloc _).heap.size; simp)); have zz3 : w2.heap.size + 1 ≤ v3.heap.size := (by have := hb3.size; change (w2.alloc _).heap.size ≤ _ at this; rw [World.size_alloc] at this; exact this); have HS3 := HSK.out v3 hB3; have HO3 : Hid (OwnR v3 b3 (.slice a3 n c3) n N) := ho3; have HZ3 : Hid (OneAt v3 w2.heap.size (.slice none 0 0)) := HFa.out.below hb3 (by show _ < (w2.alloc _).heap.size; simp); clear ho3 hb3) | (go_at_call 6; go_fit (HC2.out v3 hB3); rintro e v4 ⟨b4, a4, c4, rfl, _, _, ho4, hb4⟩; have HZ4 : Hid (OneAt v4 w2.heap.size (.slice none 0 0)) := HZ3.out.below hb4 (by omega); have hB4 : Below w2.heap.size w2 v4 := hB3.trans (hb4.mono hB3.size); have zz4 : w2.heap.size + 1 ≤ v4.heap.size := Nat.le_trans zz3 hb4.size; have HS4 := HSK.out v4 hB4; have HO34 : Hid (OwnR v4 b3 (.slice a3 n c3) n N) := HO3.out.below hb4; have HO4 : Hid (OwnR v4 b4 (.slice a4 n' c4) n' M) := ho4; clear ho4 hb4) | (go_at_call 6; go_fit (HC2.out v3 hB3); rintro e v4 ⟨b4, a4, c4, rfl, _, _, ho4, hb4⟩; have hB4 : Below w2.heap.size w2 v4 := hB3.trans (hb4.mono hB3.size); have zz4 : w2.heap.size ≤ v4.heap.size := hB4.size; have HS4 := HSK.out v4 hB4; have HO34 : Hid (OwnR v4 b3 (.slice a3 n c3) n N) := HO3.out.below hb4; have HO4 : Hid (OwnR v4 b4 (.slice a4 n' c4) n' M) := ho4; clear ho4 hb4) | (go_at_call 6; go_fit (HC2.out (v3.alloc (.cells #[.slice none 0 0] 28)) (hB3.alloc hB3.size _)); rintro e v4 ⟨b4, a4, c4, rfl, _, _, ho4, hb4⟩; have HY4 : Hid (OneAt v4 v3.heap.size (.slice none 0 0)) := (oneAt_new v3 (.slice none 0 0) 28).below hb4 (by simp); have hB4 : Below w2.heap.size w2 v4 := (hB3.alloc hB3.size _).trans (hb4.mono (by simp; omega)); have zz4 : v3.heap.size + 1 ≤ v4.heap.size := (by have := hb4.size; rw [World.size_alloc] at this; exact this); have HS4 := HSK.out v4 hB4; have HO34 : Hid (OwnR v4 b3 (.slice a3 n c3) n N) := (HO3.out.below ((Below.refl _ _).alloc (Nat.le_refl _) _)).below hb4; have HO4 : Hid (OwnR v4 b4 (.slice a4 n' c4) n' M) := ho4; clear ho4 hb4) | (go_at_call 5; go_fit (HC3.out v4 b3 a3 c3 b4 a4 c4 hB4 HO34.out HO4.out); rintro e v5 ⟨u5, q5, g5, L5, rfl, hq5, hg5', ho5, hb5⟩; have hl5 : L5.length ≤ 200 := Nat.le_trans hq5.len (by decide); have hg5 := fun h : L5 ≠ [] => And.intro (hg5' h) (ho5.lt (fun e => h (List.length_eq_zero_iff.1 e))); clear hg5'; have hB5 : Below w2.heap.size w2 v5 := hB4.trans (hb5.mono hB4.size); have HS5 := HSK.out v5 hB5; have HZ5 : Hid (OneAt v5 w2.heap.size (.slice none 0 0)) := HZ4.out.below hb5 (by omega); have HGG : Hid (CutV N n M n' w2 (v5.setCell ⟨w2.heap.size, 0, none⟩ u5) w2.heap.size u5 q5 g5 L5) := cutV_set hB5 (Nat.le_refl _) HZ5.out hq5 (fun h => ⟨by have := hg5 h; omega, (hg5 h).2⟩) ho5 hl5; have HS6 := HSK.out _ HGG.out.2.2.1; obtain ⟨la5, lc5, rfl⟩ := ho5.form; obtain ⟨q0, g0⟩ := HZ5.out; clear hq5 hg5 ho5 hl5 hb5) | (go_at_call 5; go_fit (HC3.out v4 b3 a3 c3 b4 a4 c4 hB4 HO34.out HO4.out); rintro e v5 ⟨u5, q5, g5, L5, rfl, hq5, hg5', ho5, hb5⟩; have hl5 : L5.length ≤ 200 := Nat.le_trans hq5.len (by decide); have hg5 := fun h : L5 ≠ [] => And.intro (hg5' h) (ho5.lt (fun e => h (List.length_eq_zero_iff.1 e))); clear hg5'; have hB5 : Below w2.heap.size w2 v5 := hB4.trans (hb5.mono hB4.size); have HS5 := HSK.out v5 hB5; have HZ5 : Hid (OneAt v5 v3.heap.size (.slice none 0 0)) := HY4.out.below hb5 (by omega); have HGG : Hid (CutV N n M n' w2 (v5.setCell ⟨v3.heap.size, 0, none⟩ u5) v3.heap.size u5 q5 g5 L5) := cutV_set hB5 zz3 HZ5.out hq5 (fun h => ⟨by have := hg5 h; omega, (hg5 h).2⟩) ho5 hl5; have HS6 := HSK.out _ HGG.out.2.2.1; obtain ⟨la5, lc5, rfl⟩ := ho5.form; obtain ⟨q0, g0⟩ := HZ5.out; clear hq5 hg5 ho5 hl5 hb5) | (go_at_call 5; go_fit (HC3.out v4 b3 a3 c3 b4 a4 c4 hB4 HO34.out HO4.out); rintro e v5 ⟨u5, q5, g5, L5, rfl, hq5, hg5', ho5, hb5⟩; have hl5 : L5.length ≤ 200 := Nat.le_trans hq5.len (by decide); have hg5 := fun h : L5 ≠ [] => And.intro (hg5' h) (ho5.lt (fun e => h (List.length_eq_zero_iff.1 e))); clear hg5'; have hB5 : Below w2.heap.size w2 v5 := hB4.trans (hb5.mono hB4.size); have HS5 := HSK.out v5 hB5; have HGG : Hid (CutV N n M n' w2 (v5.alloc (.cells #[u5] 28)) v5.heap.size u5 q5 g5 L5) := cutV_new hB5 hq5 (fun h => (hg5 h).2) ho5 hl5 _; obtain ⟨la5, lc5, rfl⟩ := ho5.form; clear hq5 hg5 ho5 hl5 hb5) | (go_at_call 5; go_fit (HC3.out (v4.alloc (.cells #[.slice none 0 0] 28)) b3 a3 c3 b4 a4 c4 (hB4.alloc hB4.size _) (HO34.out.below ((Below.refl _ _).alloc (Nat.le_refl _) _)) (HO4.out.below ((Below.refl _ _).alloc (Nat.le_refl _) _))); rintro e v5 ⟨u5, q5, g5, L5, rfl, hq5, hg5', ho5, hb5⟩; have hl5 : L5.length ≤ 200 := Nat.le_trans hq5.len (by decide); have hg5 := fun h : L5 ≠ [] => And.intro (hg5' h) (ho5.lt (fun e => h (List.length_eq_zero_iff.1 e))); clear hg5'; have hB5 : Below w2.heap.size w2 v5 := (hB4.alloc hB4.size _).trans (hb5.mono (by simp; omega)); have HS5 := HSK.out v5 hB5; have HZ5 : Hid (OneAt v5 v4.heap.size (.slice none 0 0)) := (oneAt_new v4 (.slice none 0 0) 28).below hb5 (by simp); have HGG : Hid (CutV N n M n' w2 (v5.setCell ⟨v4.heap.size, 0, none⟩ u5) v4.heap.size u5 q5 g5 L5) := cutV_set hB5 zz4 HZ5.out hq5 (fun h => ⟨by have := (hg5 h).1; rw [World.size_alloc] at this; omega, (hg5 h).2⟩) ho5 hl5; have HS6 := HSK.out _ HGG.out.2.2.1; obtain ⟨la5, lc5, rfl⟩ := ho5.form; obtain ⟨q0, g0⟩ := HZ5.out; clear hq5 hg5 ho5 hl5 hb5))
    all_goals
      clear HS3 HS4 HS5
      go_wp2_with fail
      go_meet
      case rel => exact ⟨_, _, _, _, _, rfl, rfl, HGG⟩
  case rest =>
    obtain ⟨b7, u7, q, g3, L, rfl, rfl, HGG⟩ := hcut
    obtain ⟨⟨⟨u3, _⟩, hq7⟩, hb7, hB7, hg7, ho7, hl7⟩ := HGG.out
    obtain ⟨a3, c3, rfl⟩ := ho7.form
    have HQ : Hid (JTold (lbs n N) (lbs n' M) q L) := hq7
    obtain ⟨m, hm⟩ : ∃ m, m = L.length := ⟨_, rfl⟩
    have hL0 : m ≠ 0 → L ≠ [] := fun h e => h (by rw [hm, e]; rfl)
    rw [← hm] at ho7 u3 hl7
    have HM : Hid (m = L.length) := hm
    have HL3 : Hid (m ≠ 0 → g3 ≠ b7 ∧ g3 < wc.heap.size) := fun h => hg7 (hL0 h)
    have HK5 : Hid (OwnR wc g3 (.slice a3 m c3) m (lbAt L)) := ho7
    have x5 : wc.cell? ⟨w.heap.size, 0, none⟩ = some (.slice a n c) := (hB7.cell z2').trans x2
    have y5 : wc.cell? ⟨w.heap.size + 1, 0, none⟩ = some (.slice a' n' c') := (hB7.cell z2).trans y2
    have HB5 : Hid (Below w.heap.size w wc) := HB2.out.trans (hB7.mono HB2.out.size)
    have zb7 := hb7.2
    have zb7' : w.heap.size + 1 < b7 := by omega
    have z5 : w.heap.size + 1 < wc.heap.size := by omega
    have z5' : w.heap.size < wc.heap.size := by omega
    clear HGG hq7 hb7 hB7 hg7 ho7 hm HC1 HC2 HC3 HSK HS2 HBd HBa HBb HFa x2 y2
    go_wp2_with fail
    refine (toTreap_any a c n N _ n20 (H.out.below HB5.out)).mono ?_
    rintro e w6 ⟨b6, a6, c6, rfl, l6, m6, ho6, hb6⟩
    have z56 := hb6.size
    have x6 : w6.cell? ⟨w.heap.size, 0, none⟩ = some (.slice a n c) := (hb6.cell z5').trans x5
    have y6 : w6.cell? ⟨w.heap.size + 1, 0, none⟩ = some (.slice a' n' c') := (hb6.cell z5).trans y5
    have u6 : w6.cell? ⟨b7, 0, none⟩ = some (.slice a3 m c3) := (hb6.cell zb7).trans u3
    have HB6 : Hid (Below w.heap.size w w6) := HB5.out.trans (hb6.mono HB5.out.size)
    have HO6 : Hid (OwnR w6 b6 (.slice a6 n c6) n N) := ho6
    have HK6 : Hid (OwnR w6 g3 (.slice a3 m c3) m (lbAt L)) := HK5.out.below hb6
    have z6 : w.heap.size + 1 < w6.heap.size := by omega
    have z6' : w.heap.size < w6.heap.size := by omega
    have z6b : b7 < w6.heap.size := by omega
    clear ho6 hb6 HK5 x5 y5 u3
    go_wp2_with fail
    have al6 : ∀ o, Below w6.heap.size w6 (w6.alloc o) := fun o => (Below.refl _ _).alloc (Nat.le_refl _) o
    refine (toTreap_any a' c' n' M _ n20' (H'.out.below (HB6.out.trans ((al6 _).mono HB6.out.size)))).mono ?_
    rintro e w7 ⟨b7', a7, c7, rfl, l7, m7, ho7, hb7⟩
    have z67 := hb7.size
    simp at z67 l7
    have B67 : Below w6.heap.size w6 w7 := (al6 _).trans (hb7.mono (by simp))
    have x7 : w7.cell? ⟨w.heap.size, 0, none⟩ = some (.slice a n c) := (B67.cell z6').trans x6
    have y7 : w7.cell? ⟨w.heap.size + 1, 0, none⟩ = some (.slice a' n' c') := (B67.cell z6).trans y6
    have u7 : w7.cell? ⟨b7, 0, none⟩ = some (.slice a3 m c3) := (B67.cell z6b).trans u6
    have v7 : w7.cell? ⟨w6.heap.size, 0, none⟩ = some (.slice a6 n c6) := by rw [hb7.cell (by simp)]; simp [World.cell?_alloc_new]
    have HB7 : Hid (Below w.heap.size w w7) := HB6.out.trans (B67.mono HB6.out.size)
    have HO67 : Hid (OwnR w7 b6 (.slice a6 n c6) n N) := HO6.out.below B67
    have HO7 : Hid (OwnR w7 b7' (.slice a7 n' c7) n' M) := ho7
    have HK7 : Hid (OwnR w7 g3 (.slice a3 m c3) m (lbAt L)) := HK6.out.below B67
    have z7 : w.heap.size + 1 < w7.heap.size := by omega
    have z7' : w.heap.size < w7.heap.size := by omega
    have z7u : w6.heap.size < w7.heap.size := by omega
    have z7b : b7 < w7.heap.size := by omega
    clear ho7 hb7 x6 y6 u6 B67 al6 HO6 HK6
    go_wp2_with fail
    have al7 : ∀ o, Below w7.heap.size w7 (w7.alloc o) := fun o => (Below.refl _ _).alloc (Nat.le_refl _) o
    refine (implJoin_own n c6 n' c7 a6 a7 N M _ (HO67.out.below (al7 _)).row HSM.out (HO7.out.below (al7 _)).row HSM'.out).mono ?_
    rintro e w8 ⟨u8', q8, g8, L8, rfl, hq8, hg8, ho8, hb8⟩
    obtain ⟨rfl, rfl⟩ : q8 = q ∧ L8 = L := hq8.same HQ.out
    rw [← HM.out] at ho8
    obtain ⟨a8, c8, rfl⟩ := ho8.form
    have z78 := hb8.size
    simp at z78
    have B78 : Below w7.heap.size w7 w8 := (al7 _).trans (hb8.mono (by simp))
    have x8 : w8.cell? ⟨w.heap.size, 0, none⟩ = some (.slice a n c) := (B78.cell (by show w.heap.size < _; omega)).trans x7
    have y8 : w8.cell? ⟨w.heap.size + 1, 0, none⟩ = some (.slice a' n' c') := (B78.cell (by show w.heap.size + 1 < _; omega)).trans y7
    have u8 : w8.cell? ⟨b7, 0, none⟩ = some (.slice a3 m c3) := (B78.cell (by show b7 < _; omega)).trans u7
    have v8 : w8.cell? ⟨w6.heap.size, 0, none⟩ = some (.slice a6 n c6) := (B78.cell (by show w6.heap.size < _; omega)).trans v7
    have t8 : w8.cell? ⟨w7.heap.size, 0, none⟩ = some (.slice a7 n' c7) := by rw [hb8.cell (by simp)]; simp [World.cell?_alloc_new]
    have HB8 : Hid (Below w.heap.size w w8) := HB7.out.trans (B78.mono HB7.out.size)
    have HO68 : Hid (OwnR w8 b6 (.slice a6 n c6) n N) := HO67.out.below B78
    have HO78 : Hid (OwnR w8 b7' (.slice a7 n' c7) n' M) := HO7.out.below B78
    have HK8 : Hid (OwnR w8 g3 (.slice a3 m c3) m (lbAt L8)) := HK7.out.below B78
    have HG8 : Hid (OwnR w8 g8 (.slice a8 m c8) m (lbAt L8)) := ho8
    have HGL : Hid (m ≠ 0 → w7.heap.size < g8 ∧ g8 < w8.heap.size) := fun h => by have := hg8 (hL0 h); have := ho8.lt h; simp at *; omega
    have z8 : w.heap.size + 1 < w8.heap.size := by omega
    have z8' : w.heap.size < w8.heap.size := by omega
    have z8u : w6.heap.size < w8.heap.size := by omega
    have z8v : w7.heap.size < w8.heap.size := by omega
    have z8b : b7 < w8.heap.size := by omega
    clear hb8 hq8 hg8 ho8 B78 al7 HO67 HO7 HK7 x7 y7 u7 v7
    go_wp2_with fail
    have al8 : ∀ o, Below w8.heap.size w8 (w8.alloc o) := fun o => (Below.refl _ _).alloc (Nat.le_refl _) o
    refine (eqTreap_any _ _ m (lbAt L8) _ ((HG8.out.below (al8 _)).row) ((HK8.out.below (al8 _)).row)).mono ?_
    rintro e w9 ⟨rfl, hb9⟩
    have B89 : Below w8.heap.size w8 w9 := (al8 _).trans (hb9.mono (by simp))
    have z89 := hb9.size
    simp at z89
    have x9 : w9.cell? ⟨w.heap.size, 0, none⟩ = some (.slice a n c) := (B89.cell (by show w.heap.size < _; omega)).trans x8
    have y9 : w9.cell? ⟨w.heap.size + 1, 0, none⟩ = some (.slice a' n' c') := (B89.cell (by show w.heap.size + 1 < _; omega)).trans y8
    have u9 : w9.cell? ⟨b7, 0, none⟩ = some (.slice a3 m c3) := (B89.cell (by show b7 < _; omega)).trans u8
    have v9 : w9.cell? ⟨w6.heap.size, 0, none⟩ = some (.slice a6 n c6) := (B89.cell (by show w6.heap.size < _; omega)).trans v8
    have t9 : w9.cell? ⟨w7.heap.size, 0, none⟩ = some (.slice a7 n' c7) := (B89.cell (by show w7.heap.size < _; omega)).trans t8
    have HB9 : Hid (Below w.heap.size w w9) := HB8.out.trans (B89.mono HB8.out.size)
    have p9 : w9.cell? ⟨w8.heap.size, 0, none⟩ = some (.slice a8 m c8) := by rw [hb9.cell (by simp)]; simp [World.cell?_alloc_new]
    have HO69 : Hid (OwnR w9 b6 (.slice a6 n c6) n N) := HO68.out.below B89
    have HO79 : Hid (OwnR w9 b7' (.slice a7 n' c7) n' M) := HO78.out.below B89
    have HK9 : Hid (OwnR w9 g3 (.slice a3 m c3) m (lbAt L8)) := HK8.out.below B89
    have HG9 : Hid (OwnR w9 g8 (.slice a8 m c8) m (lbAt L8)) := HG8.out.below B89
    clear hb9 B89 al8 HO68 HO78 HK8 HG8 x8 y8 u8 v8 t8
    have z9 : w.heap.size + 1 < w9.heap.size := by omega
    have z9' : w.heap.size < w9.heap.size := by omega
    have z9u : w6.heap.size < w9.heap.size := by omega
    have z9v : w7.heap.size < w9.heap.size := by omega
    go_wp2_with fail
    go_region_held3 (fun w' => w'.cell? ⟨w.heap.size, 0, none⟩ = some (.slice a n c) ∧ w'.cell? ⟨w6.heap.size, 0, none⟩ = some (.slice a6 n c6)) (first | exact ⟨x9, v9⟩ | exact ⟨x10, v10⟩ | exact ⟨x11, v11⟩ | fail)
      (first | (go_at_call 6; go_fit (toTreap_any a c n N w9.drew n20 (H.out.below HB9.out.drew)); rintro e w10 ⟨b10, a10, c10, rfl, l10, m10, ho10, hb10⟩; have x10 := (hb10.cell (p := ⟨w.heap.size, 0, none⟩) z9').trans x9; have v10 := (hb10.cell (p := ⟨w6.heap.size, 0, none⟩) z9u).trans v9; have zz10 : w9.heap.size ≤ w10.heap.size := hb10.size; have B910 : Below w9.heap.size w9 w10 := (Below.drew (Below.refl w9.heap.size w9)).trans hb10) | (go_at_call 8; refine (eqTreap_any _ _ n N _ ((HO69.out.below B910).row) ho10.row).mono ?_; rintro e w11 ⟨rfl, hb11⟩; have x11 := (hb11.cell (p := ⟨w.heap.size, 0, none⟩) (Nat.lt_of_lt_of_le z9' zz10)).trans x10; have v11 := (hb11.cell (p := ⟨w6.heap.size, 0, none⟩) (Nat.lt_of_lt_of_le z9u zz10)).trans v10))
    have B911 : Below w9.heap.size w9 w11 := B910.trans (hb11.mono zz10)
    have zz11 := B911.size
    have y11 : w11.cell? ⟨w.heap.size + 1, 0, none⟩ = some (.slice a' n' c') := (B911.cell (by show w.heap.size + 1 < _; omega)).trans y9
    have u11 : w11.cell? ⟨b7, 0, none⟩ = some (.slice a3 m c3) := (B911.cell (by show b7 < _; omega)).trans u9
    have t11 : w11.cell? ⟨w7.heap.size, 0, none⟩ = some (.slice a7 n' c7) := (B911.cell (by show w7.heap.size < _; omega)).trans t9
    have p11 : w11.cell? ⟨w8.heap.size, 0, none⟩ = some (.slice a8 m c8) := (B911.cell (by show w8.heap.size < _; omega)).trans p9
    have HB11 : Hid (Below w.heap.size w w11) := HB9.out.trans (B911.mono HB9.out.size)
    have HO611 : Hid (OwnR w11 b6 (.slice a6 n c6) n N) := HO69.out.below B911
    have HO711 : Hid (OwnR w11 b7' (.slice a7 n' c7) n' M) := HO79.out.below B911
    have HK11 : Hid (OwnR w11 g3 (.slice a3 m c3) m (lbAt L8)) := HK9.out.below B911
    have HG11 : Hid (OwnR w11 g8 (.slice a8 m c8) m (lbAt L8)) := HG9.out.below B911
    have z11 : w.heap.size + 1 < w11.heap.size := by omega
    have z11v : w7.heap.size < w11.heap.size := by omega
    clear hb10 hb11 B910 B911 ho10 l10 m10 x9 y9 u9 v9 t9 p9 x10 v10 HO69 HO79 HK9 HG9 zz10
    go_wp2_with fail
    go_region_held3 (fun w' => w'.cell? ⟨w.heap.size + 1, 0, none⟩ = some (.slice a' n' c') ∧ w'.cell? ⟨w7.heap.size, 0, none⟩ = some (.slice a7 n' c7)) (first | exact ⟨y11, t11⟩ | exact ⟨y12, t12⟩ | exact ⟨y13, t13⟩ | fail)
      (first | (go_at_call 6; go_fit (toTreap_any a' c' n' M w11.drew n20' (H'.out.below HB11.out.drew)); rintro e w12 ⟨b12, a12, c12, rfl, l12, m12, ho12, hb12⟩; have y12 := (hb12.cell (p := ⟨w.heap.size + 1, 0, none⟩) z11).trans y11; have t12 := (hb12.cell (p := ⟨w7.heap.size, 0, none⟩) z11v).trans t11; have zz12 : w11.heap.size ≤ w12.heap.size := hb12.size; have B1112 : Below w11.heap.size w11 w12 := (Below.drew (Below.refl w11.heap.size w11)).trans hb12) | (go_at_call 8; refine (eqTreap_any _ _ n' M _ ((HO711.out.below B1112).row) ho12.row).mono ?_; rintro e w13 ⟨rfl, hb13⟩; have y13 := (hb13.cell (p := ⟨w.heap.size + 1, 0, none⟩) (Nat.lt_of_lt_of_le z11 zz12)).trans y12; have t13 := (hb13.cell (p := ⟨w7.heap.size, 0, none⟩) (Nat.lt_of_lt_of_le z11v zz12)).trans t12))
    have B1113 : Below w11.heap.size w11 w13 := B1112.trans (hb13.mono zz12)
    have zz13 := B1113.size
    have x13 : w13.cell? ⟨w.heap.size, 0, none⟩ = some (.slice a n c) := (B1113.cell (by show w.heap.size < _; omega)).trans x11
    have u13 : w13.cell? ⟨b7, 0, none⟩ = some (.slice a3 m c3) := (B1113.cell (by show b7 < _; omega)).trans u11
    have v13 : w13.cell? ⟨w6.heap.size, 0, none⟩ = some (.slice a6 n c6) := (B1113.cell (by show w6.heap.size < _; omega)).trans v11
    have p13 : w13.cell? ⟨w8.heap.size, 0, none⟩ = some (.slice a8 m c8) := (B1113.cell (by show w8.heap.size < _; omega)).trans p11
    have HB13 : Hid (Below w.heap.size w w13) := HB11.out.trans (B1113.mono HB11.out.size)
    have HO613 : Hid (OwnR w13 b6 (.slice a6 n c6) n N) := HO611.out.below B1113
    have HO713 : Hid (OwnR w13 b7' (.slice a7 n' c7) n' M) := HO711.out.below B1113
    have HK13 : Hid (OwnR w13 g3 (.slice a3 m c3) m (lbAt L8)) := HK11.out.below B1113
    have HG13 : Hid (OwnR w13 g8 (.slice a8 m c8) m (lbAt L8)) := HG11.out.below B1113
    clear hb12 hb13 B1112 B1113 ho12 l12 m12 x11 y11 u11 v11 t11 p11 y12 t12 HO611 HO711 HK11 HG11 zz12
    go_wp2_with fail
    refine (markTreap_any _ b6 n N 1 _ (by omega) (by omega) (by omega) HO613.out).mono ?_
    rintro e w14 ⟨rfl, hb14, ho14⟩
    have z1314 := hb14.size
    have x14 : w14.cell? ⟨w.heap.size, 0, none⟩ = some (.slice a n c) := (hb14.cell (by show w.heap.size < _; omega) (by show w.heap.size ≠ _; omega)).trans x13
    have y14 : w14.cell? ⟨w.heap.size + 1, 0, none⟩ = some (.slice a' n' c') := (hb14.cell (by show w.heap.size + 1 < _; omega) (by show w.heap.size + 1 ≠ _; omega)).trans y13
    have u14 : w14.cell? ⟨b7, 0, none⟩ = some (.slice a3 m c3) := (hb14.cell (by show b7 < _; omega) (by show b7 ≠ _; omega)).trans u13
    have t14 : w14.cell? ⟨w7.heap.size, 0, none⟩ = some (.slice a7 n' c7) := (hb14.cell (by show w7.heap.size < _; omega) (by show w7.heap.size ≠ _; omega)).trans t13
    have p14 : w14.cell? ⟨w8.heap.size, 0, none⟩ = some (.slice a8 m c8) := (hb14.cell (by show w8.heap.size < _; omega) (by show w8.heap.size ≠ _; omega)).trans p13
    have HB14 : Hid (Below w.heap.size w w14) := HB13.out.trans (hb14.below HB13.out.size (by omega))
    have HO714 : Hid (OwnR w14 b7' (.slice a7 n' c7) n' M) := HO713.out.but2 hb14 (fun _ => by omega)
    have HK14 : Hid (OwnR w14 g3 (.slice a3 m c3) m (lbAt L8)) := HK13.out.but2 hb14 (fun h => by have := HL3.out h; omega)
    have HG14 : Hid (OwnR w14 g8 (.slice a8 m c8) m (lbAt L8)) := HG13.out.but2 hb14 (fun h => by have := HGL.out h; omega)
    clear hb14 ho14 x13 y13 u13 v13 t13 p13 HO613 HO713 HK13 HG13
    go_wp2_with fail
    refine (markTreap_any _ b7' n' M (1 + 4 * n) _ (by omega) (by omega) (by omega) HO714.out).mono ?_
    rintro e w15 ⟨rfl, hb15, ho15⟩
    have z1415 := hb15.size
    have x15 : w15.cell? ⟨w.heap.size, 0, none⟩ = some (.slice a n c) := (hb15.cell (by show w.heap.size < _; omega) (by show w.heap.size ≠ _; omega)).trans x14
    have y15 : w15.cell? ⟨w.heap.size + 1, 0, none⟩ = some (.slice a' n' c') := (hb15.cell (by show w.heap.size + 1 < _; omega) (by show w.heap.size + 1 ≠ _; omega)).trans y14
    have u15 : w15.cell? ⟨b7, 0, none⟩ = some (.slice a3 m c3) := (hb15.cell (by show b7 < _; omega) (by show b7 ≠ _; omega)).trans u14
    have p15 : w15.cell? ⟨w8.heap.size, 0, none⟩ = some (.slice a8 m c8) := (hb15.cell (by show w8.heap.size < _; omega) (by show w8.heap.size ≠ _; omega)).trans p14
    have HB15 : Hid (Below w.heap.size w w15) := HB14.out.trans (hb15.below HB14.out.size (by omega))
    have HK15 : Hid (OwnR w15 g3 (.slice a3 m c3) m (lbAt L8)) := HK14.out.but2 hb15 (fun h => by have := HL3.out h; omega)
    have HG15 : Hid (OwnR w15 g8 (.slice a8 m c8) m (lbAt L8)) := HG14.out.but2 hb15 (fun h => by have := HGL.out h; omega)
    clear hb15 ho15 x14 y14 u14 t14 p14 HO714 HK14 HG14
    go_wp2_with fail
    refine (eqTreap_any _ _ m (lbAt L8) _ HG15.out.row HK15.out.row).mono ?_
    rintro e w16 ⟨rfl, hb16⟩
    have z1516 := hb16.size
    have x16 : w16.cell? ⟨w.heap.size, 0, none⟩ = some (.slice a n c) := (hb16.cell (by show w.heap.size < _; omega)).trans x15
    have y16 : w16.cell? ⟨w.heap.size + 1, 0, none⟩ = some (.slice a' n' c') := (hb16.cell (by show w.heap.size + 1 < _; omega)).trans y15
    have u16 : w16.cell? ⟨b7, 0, none⟩ = some (.slice a3 m c3) := (hb16.cell (by show b7 < _; omega)).trans u15
    have p16 : w16.cell? ⟨w8.heap.size, 0, none⟩ = some (.slice a8 m c8) := (hb16.cell (by show w8.heap.size < _; omega)).trans p15
    have HB16 : Hid (Below w.heap.size w w16) := HB15.out.trans (hb16.mono HB15.out.size)
    have HK16 : Hid (OwnR w16 g3 (.slice a3 m c3) m (lbAt L8)) := HK15.out.below hb16
    have HG16 : Hid (OwnR w16 g8 (.slice a8 m c8) m (lbAt L8)) := HG15.out.below hb16
    clear hb16 x15 y15 u15 p15 HK15 HG15
    go_wp2_with fail
    obtain ⟨g6, hg6, HG16'⟩ : ∃ g6, (w7.heap.size < g6 ∧ g6 ≠ w8.heap.size ∧ (m ≠ 0 → g6 = g8)) ∧ Hid (OwnR w16 g6 (.slice a8 m c8) m (lbAt L8)) := by
      by_cases hm0 : m = 0
      · refine ⟨w8.heap.size + 1, ⟨by omega, by omega, fun h => absurd hm0 h⟩, ?_⟩
        obtain ⟨a', c', off', e, hn', _⟩ := HG16.out
        exact ⟨a', c', off', e, hn', .inl hm0⟩
      · have := HGL.out hm0
        exact ⟨g8, ⟨by omega, by omega, fun _ => rfl⟩, HG16⟩
    clear HG16
    refine (markTreap_any _ g6 m (lbAt L8) 1 _ (by omega) (by omega) (by omega) HG16'.out).mono ?_
    rintro e w17 ⟨rfl, hb17, ho17⟩
    have z1617 := hb17.size
    have x17 : w17.cell? ⟨w.heap.size, 0, none⟩ = some (.slice a n c) := (hb17.cell (by show w.heap.size < _; omega) (by show w.heap.size ≠ _; omega)).trans x16
    have y17 : w17.cell? ⟨w.heap.size + 1, 0, none⟩ = some (.slice a' n' c') := (hb17.cell (by show w.heap.size + 1 < _; omega) (by show w.heap.size + 1 ≠ _; omega)).trans y16
    have u17 : w17.cell? ⟨b7, 0, none⟩ = some (.slice a3 m c3) := (hb17.cell (by show b7 < _; omega) (by show b7 ≠ _; omega)).trans u16
    have p17 : w17.cell? ⟨w8.heap.size, 0, none⟩ = some (.slice a8 m c8) := (hb17.cell (by show w8.heap.size < _; omega) (by show w8.heap.size ≠ _; omega)).trans p16
    have HB17 : Hid (Below w.heap.size w w17) := HB16.out.trans (hb17.below HB16.out.size (by omega))
    have HK17 : Hid (OwnR w17 g3 (.slice a3 m c3) m (lbAt L8)) := HK16.out.but2 hb17 (fun h => by have := HL3.out h; omega)
    have HG17 : Hid (OwnR w17 g6 (.slice a8 m c8) m (fun i => mkL (1 + 4 * i))) := ho17
    clear hb17 ho17 x16 y16 u16 p16 HK16 HG16'
    go_wp2_with fail
    refine (heldTreap_any _ g6 m 1 _ (by omega) (by omega) (by omega) HG17.out).mono ?_
    rintro e w18 ⟨rfl, hb18⟩
    have z1718 := hb18.size
    have x18 : w18.cell? ⟨w.heap.size, 0, none⟩ = some (.slice a n c) := (hb18.cell (by show w.heap.size < _; omega)).trans x17
    have y18 : w18.cell? ⟨w.heap.size + 1, 0, none⟩ = some (.slice a' n' c') := (hb18.cell (by show w.heap.size + 1 < _; omega)).trans y17
    have u18 : w18.cell? ⟨b7, 0, none⟩ = some (.slice a3 m c3) := (hb18.cell (by show b7 < _; omega)).trans u17
    have p18 : w18.cell? ⟨w8.heap.size, 0, none⟩ = some (.slice a8 m c8) := (hb18.cell (by show w8.heap.size < _; omega)).trans p17
    have HB18 : Hid (Below w.heap.size w w18) := HB17.out.trans (hb18.mono HB17.out.size)
    have HK18 : Hid (OwnR w18 g3 (.slice a3 m c3) m (lbAt L8)) := HK17.out.below hb18
    have HG18 : Hid (OwnR w18 g6 (.slice a8 m c8) m (fun i => mkL (1 + 4 * i))) := HG17.out.below hb18
    clear hb18 x17 y17 u17 p17 HK17 HG17
    have z18 : w.heap.size + 1 < w18.heap.size := by omega
    have z18' : w.heap.size < w18.heap.size := by omega
    have z18b : b7 < w18.heap.size := by omega
    have z18p : w8.heap.size < w18.heap.size := by omega
    have uu18 := u18
    have HC1 : Hid (∀ W, Below w18.heap.size w18 W → _) := fun W hW => toTreap_any a c n N W n20 (H.out.below (HB18.out.trans (hW.mono HB18.out.size)))
    have HC2 : Hid (∀ W, Below w18.heap.size w18 W → _) := fun W hW => toTreap_any a' c' n' M W n20' (H'.out.below (HB18.out.trans (hW.mono HB18.out.size)))
    have HC3 : Hid (∀ (W : World) (b3 : Nat) (a3 : Option Addr) (c3 b4 : Nat) (a4 : Option Addr) (c4 : Nat), Below w18.heap.size w18 W → OwnR W b3 (.slice a3 n c3) n N → OwnR W b4 (.slice a4 n' c4) n' M → Calls Try.prog 7 #[.agg #[.slice a3 n c3], .agg #[.slice a4 n' c4]] W (JoinGot (lbs n N) (lbs n' M) W)) := fun W b3 a3 c3 b4 a4 c4 hW h3 h4 => implJoin_own n c3 n' c4 a3 a4 N M W h3.row HSM.out h4.row HSM'.out
    have HSK : Hid (∀ w', Below w18.heap.size w18 w' → (w'.cell? ⟨w.heap.size, 0, none⟩ = some (.slice a n c) ∧ w'.cell? ⟨w.heap.size + 1, 0, none⟩ = some (.slice a' n' c'))) := fun w' hb => ⟨(hb.cell (by show w.heap.size < _; omega)).trans x18, (hb.cell (by show w.heap.size + 1 < _; omega)).trans y18⟩
    have HS2 : Hid (w18.cell? ⟨w.heap.size, 0, none⟩ = some (.slice a n c) ∧ w18.cell? ⟨w.heap.size + 1, 0, none⟩ = some (.slice a' n' c')) := ⟨x18, y18⟩
    have HBd : Hid (Below w18.heap.size w18 w18.drew) := (Below.refl _ _).drew
    have HBa : Hid (Below w18.heap.size w18 ((w18.alloc (.cells #[.slice none 0 0] 28)).drew)) := ((Below.refl _ _).alloc (Nat.le_refl _) _).drew
    have HBb : Hid (Below w18.heap.size w18 (w18.alloc (.cells #[.slice none 0 0] 28))) := (Below.refl _ _).alloc (Nat.le_refl _) _
    have HFa : Hid (OneAt ((w18.alloc (.cells #[.slice none 0 0] 28)).drew) w18.heap.size (.slice none 0 0)) := oneAt_new w18 (.slice none 0 0) 28
    go_upto_region 10 with fail
    go_cut [15, 16] (fun p q wx => ∃ (b7 : Nat) (u7 : Value) (q7 : Bool) (g7 : Nat) (L7 : List Lb), p = .pointer (some ⟨b7, 0, none⟩) ∧ q = .bool q7 ∧ Hid (CutV N n M n' w18 wx b7 u7 q7 g7 L7))
    case first =>
      go_region_held3 (fun w' => w'.cell? ⟨w.heap.size, 0, none⟩ = some (.slice a n c) ∧ w'.cell? ⟨w.heap.size + 1, 0, none⟩ = some (.slice a' n' c')) (first | (with_reducible exact HS6) | (with_reducible exact HS5) | (with_reducible exact HS4) | (with_reducible exact HS3) | (with_reducible exact HSK.out _ (hB5.alloc hB5.size _)) | (with_reducible exact HSK.out _ (hB4.alloc hB4.size _)) | (with_reducible exact HSK.out _ (hB3.alloc hB3.size _)) | (with_reducible exact HSK.out _ HBa.out) | (with_reducible exact HSK.out _ HBd.out) | (with_reducible exact HS2.out) | (with_reducible exact HSK.out _ HBb.out) | fail)
        (first | (go_at_call 6; go_fit (HC1.out w18.drew HBd.out); rintro e v3 ⟨b3, a3, c3, rfl, _, _, ho3, hb3⟩; have hB3 : Below w18.heap.size w18 v3 := HBd.out.trans hb3; have zz3 : w18.heap.size ≤ v3.heap.size := hB3.size; have HS3 := HSK.out v3 hB3; have HO3 : Hid (OwnR v3 b3 (.slice a3 n c3) n N) := ho3; clear ho3 hb3) | (go_at_call 6; go_fit (HC1.out ((w18.alloc (.cells #[.slice none 0 0] 28)).drew) HBa.out); rintro e v3 ⟨b3, a3, c3, rfl, _, _, ho3, hb3⟩; have hB3 : Below w18.heap.size w18 v3 := HBa.out.trans (hb3.mono (by show _ ≤ (w18.alloc _).heap.size; simp)); have zz3 : w18.heap.size + 1 ≤ v3.heap.size := (by have := hb3.size; change (w18.alloc _).heap.size ≤ _ at this; rw [World.size_alloc] at this; exact this); have HS3 := HSK.out v3 hB3; have HO3 : Hid (OwnR v3 b3 (.slice a3 n c3) n N) := ho3; have HZ3 : Hid (OneAt v3 w18.heap.size (.slice none 0 0)) := HFa.out.below hb3 (by show _ < (w18.alloc _).heap.size; simp); clear ho3 hb3) | (go_at_call 6; go_fit (HC2.out v3 hB3); rintro e v4 ⟨b4, a4, c4, rfl, _, _, ho4, hb4⟩; have HZ4 : Hid (OneAt v4 w18.heap.size (.slice none 0 0)) := HZ3.out.below hb4 (by omega); have hB4 : Below w18.heap.size w18 v4 := hB3.trans (hb4.mono hB3.size); have zz4 : w18.heap.size + 1 ≤ v4.heap.size := Nat.le_trans zz3 hb4.size; have HS4 := HSK.out v4 hB4; have HO34 : Hid (OwnR v4 b3 (.slice a3 n c3) n N) := HO3.out.below hb4; have HO4 : Hid (OwnR v4 b4 (.slice a4 n' c4) n' M) := ho4; clear ho4 hb4) | (go_at_call 6; go_fit (HC2.out v3 hB3); rintro e v4 ⟨b4, a4, c4, rfl, _, _, ho4, hb4⟩; have hB4 : Below w18.heap.size w18 v4 := hB3.trans (hb4.mono hB3.size); have zz4 : w18.heap.size ≤ v4.heap.size := hB4.size; have HS4 := HSK.out v4 hB4; have HO34 : Hid (OwnR v4 b3 (.slice a3 n c3) n N) := HO3.out.below hb4; have HO4 : Hid (OwnR v4 b4 (.slice a4 n' c4) n' M) := ho4; clear ho4 hb4) | (go_at_call 6; go_fit (HC2.out (v3.alloc (.cells #[.slice none 0 0] 28)) (hB3.alloc hB3.size _)); rintro e v4 ⟨b4, a4, c4, rfl, _, _, ho4, hb4⟩; have HY4 : Hid (OneAt v4 v3.heap.size (.slice none 0 0)) := (oneAt_new v3 (.slice none 0 0) 28).below hb4 (by simp); have hB4 : Below w18.heap.size w18 v4 := (hB3.alloc hB3.size _).trans (hb4.mono (by simp; omega)); have zz4 : v3.heap.size + 1 ≤ v4.heap.size := (by have := hb4.size; rw [World.size_alloc] at this; exact this); have HS4 := HSK.out v4 hB4; have HO34 : Hid (OwnR v4 b3 (.slice a3 n c3) n N) := (HO3.out.below ((Below.refl _ _).alloc (Nat.le_refl _) _)).below hb4; have HO4 : Hid (OwnR v4 b4 (.slice a4 n' c4) n' M) := ho4; clear ho4 hb4) | (go_at_call 7; go_fit (HC3.out v4 b3 a3 c3 b4 a4 c4 hB4 HO34.out HO4.out); rintro e v5 ⟨u5, q5, g5, L5, rfl, hq5, hg5', ho5, hb5⟩; have hl5 : L5.length ≤ 200 := Nat.le_trans hq5.len (by decide); have hg5 := fun h : L5 ≠ [] => And.intro (hg5' h) (ho5.lt (fun e => h (List.length_eq_zero_iff.1 e))); clear hg5'; have hB5 : Below w18.heap.size w18 v5 := hB4.trans (hb5.mono hB4.size); have HS5 := HSK.out v5 hB5; have HZ5 : Hid (OneAt v5 w18.heap.size (.slice none 0 0)) := HZ4.out.below hb5 (by omega); have HGG : Hid (CutV N n M n' w18 (v5.setCell ⟨w18.heap.size, 0, none⟩ u5) w18.heap.size u5 q5 g5 L5) := cutV_set hB5 (Nat.le_refl _) HZ5.out hq5 (fun h => ⟨by have := hg5 h; omega, (hg5 h).2⟩) ho5 hl5; have HS6 := HSK.out _ HGG.out.2.2.1; obtain ⟨la5, lc5, rfl⟩ := ho5.form; obtain ⟨q0, g0⟩ := HZ5.out; clear hq5 hg5 ho5 hl5 hb5) | (go_at_call 7; go_fit (HC3.out v4 b3 a3 c3 b4 a4 c4 hB4 HO34.out HO4.out); rintro e v5 ⟨u5, q5, g5, L5, rfl, hq5, hg5', ho5, hb5⟩; have hl5 : L5.length ≤ 200 := Nat.le_trans hq5.len (by decide); have hg5 := fun h : L5 ≠ [] => And.intro (hg5' h) (ho5.lt (fun e => h (List.length_eq_zero_iff.1 e))); clear hg5'; have hB5 : Below w18.heap.size w18 v5 := hB4.trans (hb5.mono hB4.size); have HS5 := HSK.out v5 hB5; have HZ5 : Hid (OneAt v5 v3.heap.size (.slice none 0 0)) := HY4.out.below hb5 (by omega); have HGG : Hid (CutV N n M n' w18 (v5.setCell ⟨v3.heap.size, 0, none⟩ u5) v3.heap.size u5 q5 g5 L5) := cutV_set hB5 zz3 HZ5.out hq5 (fun h => ⟨by have := hg5 h; omega, (hg5 h).2⟩) ho5 hl5; have HS6 := HSK.out _ HGG.out.2.2.1; obtain ⟨la5, lc5, rfl⟩ := ho5.form; obtain ⟨q0, g0⟩ := HZ5.out; clear hq5 hg5 ho5 hl5 hb5) | (go_at_call 7; go_fit (HC3.out v4 b3 a3 c3 b4 a4 c4 hB4 HO34.out HO4.out); rintro e v5 ⟨u5, q5, g5, L5, rfl, hq5, hg5', ho5, hb5⟩; have hl5 : L5.length ≤ 200 := Nat.le_trans hq5.len (by decide); have hg5 := fun h : L5 ≠ [] => And.intro (hg5' h) (ho5.lt (fun e => h (List.length_eq_zero_iff.1 e))); clear hg5'; have hB5 : Below w18.heap.size w18 v5 := hB4.trans (hb5.mono hB4.size); have HS5 := HSK.out v5 hB5; have HGG : Hid (CutV N n M n' w18 (v5.alloc (.cells #[u5] 28)) v5.heap.size u5 q5 g5 L5) := cutV_new hB5 hq5 (fun h => (hg5 h).2) ho5 hl5 _; obtain ⟨la5, lc5, rfl⟩ := ho5.form; clear hq5 hg5 ho5 hl5 hb5) | (go_at_call 7; go_fit (HC3.out (v4.alloc (.cells #[.slice none 0 0] 28)) b3 a3 c3 b4 a4 c4 (hB4.alloc hB4.size _) (HO34.out.below ((Below.refl _ _).alloc (Nat.le_refl _) _)) (HO4.out.below ((Below.refl _ _).alloc (Nat.le_refl _) _))); rintro e v5 ⟨u5, q5, g5, L5, rfl, hq5, hg5', ho5, hb5⟩; have hl5 : L5.length ≤ 200 := Nat.le_trans hq5.len (by decide); have hg5 := fun h : L5 ≠ [] => And.intro (hg5' h) (ho5.lt (fun e => h (List.length_eq_zero_iff.1 e))); clear hg5'; have hB5 : Below w18.heap.size w18 v5 := (hB4.alloc hB4.size _).trans (hb5.mono (by simp; omega)); have HS5 := HSK.out v5 hB5; have HZ5 : Hid (OneAt v5 v4.heap.size (.slice none 0 0)) := (oneAt_new v4 (.slice none 0 0) 28).below hb5 (by simp); have HGG : Hid (CutV N n M n' w18 (v5.setCell ⟨v4.heap.size, 0, none⟩ u5) v4.heap.size u5 q5 g5 L5) := cutV_set hB5 zz4 HZ5.out hq5 (fun h => ⟨by have := (hg5 h).1; rw [World.size_alloc] at this; omega, (hg5 h).2⟩) ho5 hl5; have HS6 := HSK.out _ HGG.out.2.2.1; obtain ⟨la5, lc5, rfl⟩ := ho5.form; obtain ⟨q0, g0⟩ := HZ5.out; clear hq5 hg5 ho5 hl5 hb5))
      all_goals
        clear HS3 HS4 HS5
        go_wp2_with fail
        go_meet
        case rel => exact ⟨_, _, _, _, _, rfl, rfl, HGG⟩
    case rest =>
      obtain ⟨b19, u19', q', g19, L19, rfl, rfl, HGG⟩ := hcut
      obtain ⟨⟨⟨s19, _⟩, hq19⟩, hb19, hB19, hg19, ho19, _⟩ := HGG.out
      obtain ⟨rfl, rfl⟩ : q' = q8 ∧ L19 = L8 := hq19.same HQ.out
      obtain ⟨a19, c19, rfl⟩ := ho19.form
      rw [← HM.out] at ho19 s19
      have z1819 := hB19.size
      have u19 : wc.cell? ⟨b7, 0, none⟩ = some (.slice a3 m c3) := (hB19.cell z18b).trans uu18
      have p19 : wc.cell? ⟨w8.heap.size, 0, none⟩ = some (.slice a8 m c8) := (hB19.cell z18p).trans p18
      have HB19 : Hid (Below w.heap.size w wc) := HB18.out.trans (hB19.mono HB18.out.size)
      have HK19 : Hid (OwnR wc g3 (.slice a3 m c3) m (lbAt L19)) := HK18.out.below hB19
      have HG19 : Hid (OwnR wc g6 (.slice a8 m c8) m (fun i => mkL (1 + 4 * i))) := HG18.out.below hB19
      have HH19 : Hid (OwnR wc g19 (.slice a19 m c19) m (lbAt L19)) := ho19
      clear HGG hq19 hB19 hg19 ho19 HC1 HC2 HC3 HSK HS2 HBd HBa HBb HFa x18 y18 uu18 p18 HK18 HG18
      go_wp2_with fail
      refine (eqTreap_any _ _ m (lbAt L19) _ HH19.out.row HK19.out.row).mono ?_
      rintro e w20 ⟨rfl, hb20⟩
      have z1920 := hb20.size
      have p20 : w20.cell? ⟨w8.heap.size, 0, none⟩ = some (.slice a8 m c8) := (hb20.cell (by show w8.heap.size < _; omega)).trans p19
      have HB20 : Hid (Below w.heap.size w w20) := HB19.out.trans (hb20.mono HB19.out.size)
      have HG20 : Hid (OwnR w20 g6 (.slice a8 m c8) m (fun i => mkL (1 + 4 * i))) := HG19.out.below hb20
      clear hb20 HK19 HG19 HH19 u19 p19 s19
      go_wp2_with fail
      refine (heldTreap_any _ g6 m 1 _ (by omega) (by omega) (by omega) HG20.out).mono ?_
      rintro e w21 ⟨rfl, hb21⟩
      have HB21 : Hid (Below w.heap.size w w21) := HB20.out.trans (hb21.mono HB20.out.size)
      clear hb21 HG20
      go_wp2
      go_ret
      exact ⟨rfl, HB21.out⟩

end Go.Proofs.Ytnmbnebofbdmfaa
