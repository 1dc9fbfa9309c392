/- A value with another part at a path: the specification. FnExactSetAt answers true at every two values and every text: SetAt answers as the specification, writes into nothing, and its answer is its own. -/
import Derived.Test.YtadlflgflnlhjaaGreatDoorSetI
import Derived.Test.YtadlflgflnlhjaaGreatDoorL3Set
import Derived.Deep.RegionHeld3
import Derived.Deep.DeepFit
import Derived.Test.YtadlflgflnlhjaaGreatDoorToC
namespace Go.Proofs.YtadlflgflnlhjaaGreatDoor
open Go.RowKit
set_option linter.unusedVariables false

set_option maxRecDepth 100000 in
set_option maxHeartbeats 2000000 in
/-- l1Tell: the value of a tree, where it is good. -/
theorem l1Tell_any (t : Tr) (L : List Nd) (k n : Int) (tx : ByteArray) (an : Option Addr) (mn cn : Nat) (ak : Option Addr) (mk ck : Nat) (w : World) (h : Tree w t (.agg #[.int .i64 k, .int .i64 n, .string tx, .slice an mn cn, .slice ak mk ck])) (hn : t.named) (hc : t.cnt ≤ 2 ^ 20) (hL : L = t.flat ByteArray.empty (-1) 0) (hl : L.length ≤ 200) (hsm : SmallN L.length (fun i => L.getD i ⟨0, 0, ⟨#[]⟩, ⟨#[]⟩, 0⟩)) :
    Calls Tryz.prog 33 #[.agg #[.int .i64 k, .int .i64 n, .string tx, .slice an mn cn, .slice ak mk ck]] w fun e w' => ((∃ a c, GoodV (fun i => L.getD i ⟨0, 0, ⟨#[]⟩, ⟨#[]⟩, 0⟩) L.length ∧ e = .returned (.tuple #[.agg #[.slice a L.length c], .bool true]) ∧ OwnsN w' w.heap.size (.slice a L.length c) L) ∨ (¬ GoodV (fun i => L.getD i ⟨0, 0, ⟨#[]⟩, ⟨#[]⟩, 0⟩) L.length ∧ e = .returned (.tuple #[.agg #[.slice none 0 0], .bool false]))) ∧ Below w.heap.size w w' := by
  have HT : Hid (Tree w t (.agg #[.int .i64 k, .int .i64 n, .string tx, .slice an mn cn, .slice ak mk ck])) := h
  have HN : Hid (t.named ∧ t.cnt ≤ 2 ^ 20) := ⟨hn, hc⟩
  have HL : Hid (L = t.flat ByteArray.empty (-1) 0) := hL
  have HSM : Hid (L.length ≤ 200 ∧ SmallN L.length (fun i => L.getD i ⟨0, 0, ⟨#[]⟩, ⟨#[]⟩, 0⟩)) := ⟨hl, hsm⟩
  have hbl : ∀ o o', Below w.heap.size w ((w.alloc o).alloc o') := fun o o' => ((Below.refl _ _).alloc (Nat.le_refl _) o).alloc (by simp) o'
  clear h hn hc hL hl hsm
  go_enter Tryz.func33, Tryz.ntmps33
  go_wp2_with fail
  refine (l1Of_any t _ _ (HT.out.below (hbl _ _)) HN.out.1 HN.out.2).mono ?_
  rintro e w1 ⟨lv, rfl, ho1, hb1⟩
  rw [show t.flat ⟨#[]⟩ (-1) 0 = L from HL.out.symm] at ho1
  obtain ⟨la, lc, rfl⟩ := ho1.form
  have r1 : w1.cell? ⟨w.heap.size + 1, 0, none⟩ = some (.slice none 0 0) := by rw [hb1.cell (by simp)]; simp [go_sem]
  have f1 : w1.frozen? ⟨w.heap.size + 1, 0, none⟩ = false := by rw [hb1.frozen (by simp)]; simp [go_sem]
  have HB1 : Hid (Below w.heap.size w w1) := (hbl _ _).trans (hb1.mono (by simp; omega))
  have z1 : w.heap.size + 1 < w1.heap.size := by have := hb1.size; simp at this; omega
  have HO1 : Hid (OwnsN w1 (w.heap.size + 2) (.slice la L.length lc) L) := by
    show OwnsN _ _ _ _
    simpa using ho1
  have al1 : ∀ o, Below w1.heap.size w1 (w1.alloc o) := fun o => (Below.refl _ _).alloc (Nat.le_refl _) o
  clear ho1 hb1 hbl
  go_wp2_with fail
  obtain ⟨bL, hbL1, hbL2⟩ := HO1.out.own (by have := HSM.out.1; omega)
  refine (specGood_own bL L.length la lc _ _ (hbL2.below (al1 _)) HSM.out.2).mono ?_
  rintro e w2 ⟨q, rfl, hq, hb2⟩
  have b2 : Below w1.heap.size w1 w2 := (al1 _).trans (hb2.mono (by simp))
  have m2 : w2.cell? ⟨w1.heap.size, 0, none⟩ = some (.slice la L.length lc) := by rw [hb2.cell (by simp)]; simp [go_sem]
  have r2 : w2.cell? ⟨w.heap.size + 1, 0, none⟩ = some (.slice none 0 0) := (b2.cell z1).trans r1
  have f2 : w2.frozen? ⟨w.heap.size + 1, 0, none⟩ = false := (b2.frozen z1).trans f1
  have HB2 : Hid (Below w.heap.size w w2) := HB1.out.trans (b2.mono HB1.out.size)
  have HO2 : Hid (OwnsN w2 (w.heap.size + 2) (.slice la L.length lc) L) := own_below HO1.out b2
  clear hbL1 hbL2 hb2 b2 al1 HO1
  cases q with
  | false =>
    have HG : Hid (¬ GoodV (fun i => L.getD i ⟨0, 0, ⟨#[]⟩, ⟨#[]⟩, 0⟩) L.length) := fun h => by have := hq.2 h; simp at this
    clear hq
    go_wp2_with fail
    exact bodyPost_ret (v := .tuple #[.agg #[.slice none 0 0], .bool false]) (by simp [results, Tryz.results33, go_sem, r2]) rfl ⟨.inr ⟨HG.out, rfl⟩, Below.setR HB2.out (by omega)⟩
  | true =>
    have HG : Hid (GoodV (fun i => L.getD i ⟨0, 0, ⟨#[]⟩, ⟨#[]⟩, 0⟩) L.length) := hq.1 rfl
    clear hq
    go_wp2_with fail
    exact bodyPost_ret (v := .tuple #[.agg #[.slice la L.length lc], .bool true]) (by simp [results, Tryz.results33, go_sem, r2]) rfl ⟨.inl ⟨la, lc, HG.out, rfl, (own_set HO2.out (by omega)).low (by omega)⟩, Below.setR HB2.out (by omega)⟩

/-- What lies behind the region: the new value in its own block. -/
def CutY (R : Option Tr) (w3 wx : World) (b7 : Nat) (k7 n7 : Int) (t7 : ByteArray) (an7 : Option Addr) (mn7 cn7 : Nat) (ak7 : Option Addr) (mk7 ck7 : Nat) : Prop := FiveAt wx b7 (.int .i64 k7) (.int .i64 n7) (.string t7) (.slice an7 mn7 cn7) (.slice ak7 mk7 ck7) ∧ (∀ y, R = some y → Tree wx y (.agg #[.int .i64 k7, .int .i64 n7, .string t7, .slice an7 mn7 cn7, .slice ak7 mk7 ck7])) ∧ (w3.heap.size ≤ b7 ∧ b7 < wx.heap.size) ∧ Below w3.heap.size w3 wx
theorem cutY_new {R : Option Tr} {w3 w6 : World} {k6 n6 : Int} {t6 : ByteArray} {an6 : Option Addr} {mn6 cn6 : Nat} {ak6 : Option Addr} {mk6 ck6 : Nat} (hB : Below w3.heap.size w3 w6) (ht : ∀ y, R = some y → Tree w6 y (.agg #[.int .i64 k6, .int .i64 n6, .string t6, .slice an6 mn6 cn6, .slice ak6 mk6 ck6])) (T : TypeId) : CutY R w3 (w6.alloc (.cells #[.int .i64 k6, .int .i64 n6, .string t6, .slice an6 mn6 cn6, .slice ak6 mk6 ck6] T)) w6.heap.size k6 n6 t6 an6 mn6 cn6 ak6 mk6 ck6 :=
  ⟨fiveAt_new w6 (.int .i64 k6) (.int .i64 n6) (.string t6) (.slice an6 mn6 cn6) (.slice ak6 mk6 ck6) T, fun y hy => (ht y hy).below ((Below.refl _ _).alloc (Nat.le_refl _) _), ⟨hB.size, by simp⟩, hB.alloc hB.size _⟩
theorem cutY_set {R : Option Tr} {w3 w6 : World} {yb : Nat} {k6 n6 : Int} {t6 : ByteArray} {an6 : Option Addr} {mn6 cn6 : Nat} {ak6 : Option Addr} {mk6 ck6 : Nat} {z0 z1 z2 z3 z4 : Value} (hB : Below w3.heap.size w3 w6) (hy : w3.heap.size ≤ yb) (hZ : FiveAt w6 yb z0 z1 z2 z3 z4) (ht : ∀ y, R = some y → TreeIs w6 (fun b => b ≠ yb) y (.agg #[.int .i64 k6, .int .i64 n6, .string t6, .slice an6 mn6 cn6, .slice ak6 mk6 ck6])) : CutY R w3 (((((w6.setCell ⟨yb, 0, none⟩ (.int .i64 k6)).setCell ⟨yb, 1, none⟩ (.int .i64 n6)).setCell ⟨yb, 2, none⟩ (.string t6)).setCell ⟨yb, 3, none⟩ (.slice an6 mn6 cn6)).setCell ⟨yb, 4, none⟩ (.slice ak6 mk6 ck6)) yb k6 n6 t6 an6 mn6 cn6 ak6 mk6 ck6 := by
  have HQ := hZ.set (.int .i64 k6) (.int .i64 n6) (.string t6) (.slice an6 mn6 cn6) (.slice ak6 mk6 ck6)
  have hlt : yb < w6.heap.size := by
    obtain ⟨⟨h0, _⟩, _⟩ := hZ
    exact World.block_lt_of_cell? _ _ h0
  refine ⟨HQ.1, fun y hy => tree_past (ht y hy) (HQ.2 _) (fun b hS _ => hS) (fun _ _ => trivial), ⟨hy, Nat.lt_of_lt_of_le hlt (HQ.2 0).size⟩, hB.trans ((HQ.2 w3.heap.size).below (Nat.le_refl _) hy)⟩

set_option maxRecDepth 100000 in
set_option maxHeartbeats 8000000 in
theorem specSet_own (b n : Nat) (a : Option Addr) (c : Nat) (N : Nat → Nd) (s : ByteArray) (b' m : Nat) (a' : Option Addr) (c' : Nat) (X : Nat → Nd) (w : World) (h : OwnAt w b (.slice a n c) n N) (hsm : SmallN n N) (h' : OwnAt w b' (.slice a' m c') m X) (hsm' : SmallN m X) (hs : s.size ≤ 2 ^ 20) :
    Calls Tryz.prog 9 #[.agg #[.slice a n c], .string s, .agg #[.slice a' m c']] w (StIs N n X m s w) := by
  have HO : Hid (OwnAt w b (.slice a n c) n N) := h
  have HSM : Hid (SmallN n N) := hsm
  have HO' : Hid (OwnAt w b' (.slice a' m c') m X) := h'
  have HSM' : Hid (SmallN m X) := hsm'
  have n20 : n ≤ 2 ^ 20 := hsm.1
  have m20 : m ≤ 2 ^ 20 := hsm'.1
  have hl : s.data.toList.length ≤ 2 ^ 20 := by rw [Array.length_toList]; exact hs
  have h61 := names60 s.data.toList
  have hbl : ∀ o o' o'', Below w.heap.size w (((w.alloc o).alloc o').alloc o'') := fun o o' o'' => (((Below.refl _ _).alloc (Nat.le_refl _) o).alloc (by simp) o').alloc (by simp; omega) o''
  clear h hsm h' hsm'
  go_enter Tryz.func9, Tryz.ntmps9
  go_wp2_with fail
  refine (show Calls Tryz.prog 29 #[.string s] _ (NamesC s.data.toList _) from l3Path_c s.data.toList _ hl).mono ?_
  rintro e w1 ⟨v1, g1, rfl, hg1, ho1, hb1, hcp⟩
  obtain ⟨a1, c1, rfl, hc1⟩ : ∃ a c, v1 = .slice a (namesN s.data.toList) c ∧ namesN s.data.toList ≤ c := by obtain ⟨a, c, rfl, _⟩ := ho1; obtain ⟨_, _, _, e, hle⟩ := hcp; simp only [Value.slice.injEq] at e; obtain ⟨_, rfl, rfl⟩ := e; exact ⟨a, c, rfl, hle⟩
  have x1 : w1.cell? ⟨w.heap.size, 0, none⟩ = some (.slice a n c) := by rw [hb1.cell (by simp; omega)]; simp [go_sem]
  have y1 : w1.cell? ⟨w.heap.size + 1, 0, none⟩ = some (.slice a' m c') := by rw [hb1.cell (by simp)]; simp [go_sem]
  have r1 : w1.cell? ⟨w.heap.size + 1 + 1, 0, none⟩ = some (.slice none 0 0) := by rw [hb1.cell (by simp)]; simp [go_sem]
  have f1 : w1.frozen? ⟨w.heap.size + 1 + 1, 0, none⟩ = false := by rw [hb1.frozen (by simp)]; simp [go_sem]
  have HB1 : Hid (Below w.heap.size w w1) := (hbl _ _ _).trans (hb1.mono (by simp; omega))
  have zR : w.heap.size + 1 + 1 < w1.heap.size := by have := hb1.size; simp at this; omega
  have z1 : w.heap.size < w1.heap.size := by omega
  have zY : w.heap.size + 1 < w1.heap.size := by omega
  have HNM : Hid (ArgS w1 a1 (namesN s.data.toList) (namesF s.data.toList)) := ho1.arg
  clear hb1 hbl ho1 hg1 hcp
  go_wp2_with fail
  refine (specGood_own b n a c N _ (HO.out.below HB1.out) HSM.out).mono ?_
  rintro e w2 ⟨q, rfl, hq, hb2⟩
  have x2 : w2.cell? ⟨w.heap.size, 0, none⟩ = some (.slice a n c) := (hb2.cell z1).trans x1
  have y2 : w2.cell? ⟨w.heap.size + 1, 0, none⟩ = some (.slice a' m c') := (hb2.cell zY).trans y1
  have r2 : w2.cell? ⟨w.heap.size + 1 + 1, 0, none⟩ = some (.slice none 0 0) := (hb2.cell zR).trans r1
  have f2 : w2.frozen? ⟨w.heap.size + 1 + 1, 0, none⟩ = false := (hb2.frozen zR).trans f1
  have HB2 : Hid (Below w.heap.size w w2) := HB1.out.trans (hb2.mono HB1.out.size)
  have HNM2 : Hid (ArgS w2 a1 (namesN s.data.toList) (namesF s.data.toList)) := HNM.out.below hb2
  have zR2 : w.heap.size + 1 + 1 < w2.heap.size := Nat.lt_of_lt_of_le zR hb2.size
  clear hb2 x1 y1 r1 f1 HNM
  cases q with
  | false =>
    have HN : Hid (∀ L, ¬ SetTo N n X m s L) := fun L h => by have := hq.2 h.1.1.1; simp at this
    clear hq
    go_wp2_with fail
    exact bodyPost_ret (v := .tuple #[.agg #[.slice none 0 0], .bool false]) (by simp [results, Tryz.results9, go_sem, r2]) rfl (StIs.no HN.out (Below.setR HB2.out (by omega)))
  | true =>
    have HG : Hid (GoodV N n) := hq.1 rfl
    clear hq
    go_wp2_with fail
    refine (specGood_own b' m a' c' X _ (HO'.out.below HB2.out) HSM'.out).mono ?_
    rintro e w3 ⟨q, rfl, hq, hb3⟩
    have x3 : w3.cell? ⟨w.heap.size, 0, none⟩ = some (.slice a n c) := (hb3.cell (by show w.heap.size < _; omega)).trans x2
    have y3 : w3.cell? ⟨w.heap.size + 1, 0, none⟩ = some (.slice a' m c') := (hb3.cell (by show w.heap.size + 1 < _; omega)).trans y2
    have r3 : w3.cell? ⟨w.heap.size + 1 + 1, 0, none⟩ = some (.slice none 0 0) := (hb3.cell zR2).trans r2
    have f3 : w3.frozen? ⟨w.heap.size + 1 + 1, 0, none⟩ = false := (hb3.frozen zR2).trans f2
    have HB3 : Hid (Below w.heap.size w w3) := HB2.out.trans (hb3.mono HB2.out.size)
    have HNM3 : Hid (ArgS w3 a1 (namesN s.data.toList) (namesF s.data.toList)) := HNM2.out.below hb3
    have zR3 : w.heap.size + 1 + 1 < w3.heap.size := Nat.lt_of_lt_of_le zR2 hb3.size
    clear hb3 x2 y2 r2 f2 HNM2
    cases q with
    | false =>
      have HN : Hid (∀ L, ¬ SetTo N n X m s L) := fun L h => by have := hq.2 h.1.2; simp at this
      clear hq
      go_wp2_with fail
      exact bodyPost_ret (v := .tuple #[.agg #[.slice none 0 0], .bool false]) (by simp [results, Tryz.results9, go_sem, r3]) rfl (StIs.no HN.out (Below.setR HB3.out (by omega)))
    | true =>
      have HX : Hid (GoodV X m) := hq.1 rfl
      clear hq
      cases hp : (namesL s.data.toList).isSome with
      | false =>
        have HN : Hid (∀ L, ¬ SetTo N n X m s L) := fun L h => by have := h.1.1.2; rw [hp] at this; simp at this
        go_wp2_with fail
        exact bodyPost_ret (v := .tuple #[.agg #[.slice none 0 0], .bool false]) (by simp [results, Tryz.results9, go_sem, r3]) rfl (StIs.no HN.out (Below.setR HB3.out (by omega)))
      | true =>
        have HAS : Hid (AskedOf N n s ∧ GoodV X m) := ⟨⟨HG.out, hp⟩, HX.out⟩
        have HTS : Hid (TreeSaid N n 0) := l1Tree_any N n HG.out.1.2.1 n 0 rfl HG.out.1.1
        have HTX : Hid (TreeSaid X m 0) := l1Tree_any X m HX.out.1.2.1 m 0 rfl HX.out.1.1
        have HCN : Hid ((tree N n 0).cnt ≤ 2 ^ 19 ∧ (tree N n 0).named) := ⟨by rw [good_cnt HG.out]; have := HG.out.1.2.1; omega, tree_named N n n 0 rfl HG.out.1.1⟩
        have HSF : Hid (∀ t', setT (tree X m 0) (nmsL s) (tree N n 0) = some t' → t'.named ∧ t'.cnt ≤ 200 ∧ (t'.flat ByteArray.empty (-1) 0).length ≤ 200 ∧ SmallN (t'.flat ByteArray.empty (-1) 0).length (fun i => (t'.flat ByteArray.empty (-1) 0).getD i ⟨0, 0, ⟨#[]⟩, ⟨#[]⟩, 0⟩)) := set_facts HG.out HX.out s
        have HARG : Hid (∀ W, Below w3.heap.size w3 W → ArgIs W a n N ∧ ArgIs W a' m X ∧ ArgS W a1 (namesN s.data.toList) (namesF s.data.toList)) := fun W hW => ⟨(own_arg HO.out).below (HB3.out.trans (hW.mono HB3.out.size)), (own_arg HO'.out).below (HB3.out.trans (hW.mono HB3.out.size)), HNM3.out.below hW⟩
        obtain ⟨R, hR⟩ : ∃ R, R = setT (tree X m 0) (nmsL s) (tree N n 0) := ⟨_, rfl⟩
        have HRR : Hid (R = setT (tree X m 0) (nmsL s) (tree N n 0)) := hR
        have HC1 : Hid (∀ W, Below w3.heap.size w3 W → Calls Tryz.prog 32 #[.agg #[.slice a n c], .int .i64 0] W fun e w' => ∃ (k4 n4 : Int) (t4 : ByteArray) (an4 : Option Addr) (mn4 cn4 : Nat) (ak4 : Option Addr) (mk4 ck4 : Nat), e = .returned (.agg #[.int .i64 k4, .int .i64 n4, .string t4, .slice an4 mn4 cn4, .slice ak4 mk4 ck4]) ∧ TreeIs w' (fun b => W.heap.size ≤ b) (tree N n 0) (.agg #[.int .i64 k4, .int .i64 n4, .string t4, .slice an4 mn4 cn4, .slice ak4 mk4 ck4]) ∧ Below W.heap.size W w') := fun W hW => (HTS.out a c W (HARG.out W hW).1).mono fun e w' ⟨an, cn, mn, ak, ck, mk, h1, h2, h3⟩ => ⟨_, _, _, an, mn, cn, ak, mk, ck, h1, h2, h3⟩
        have HC2 : Hid (∀ W, Below w3.heap.size w3 W → Calls Tryz.prog 32 #[.agg #[.slice a' m c'], .int .i64 0] W fun e w' => ∃ (k5 n5 : Int) (t5 : ByteArray) (an5 : Option Addr) (mn5 cn5 : Nat) (ak5 : Option Addr) (mk5 ck5 : Nat), e = .returned (.agg #[.int .i64 k5, .int .i64 n5, .string t5, .slice an5 mn5 cn5, .slice ak5 mk5 ck5]) ∧ TreeIs w' (fun b => W.heap.size ≤ b) (tree X m 0) (.agg #[.int .i64 k5, .int .i64 n5, .string t5, .slice an5 mn5 cn5, .slice ak5 mk5 ck5]) ∧ Below W.heap.size W w') := fun W hW => (HTX.out a' c' W (HARG.out W hW).2.1).mono fun e w' ⟨an, cn, mn, ak, ck, mk, h1, h2, h3⟩ => ⟨_, _, _, an, mn, cn, ak, mk, ck, h1, h2, h3⟩
        have HC3 : Hid (∀ (W : World) (S : Nat → Prop) (k4 n4 : Int) (t4 : ByteArray) (an4 : Option Addr) (mn4 cn4 : Nat) (ak4 : Option Addr) (mk4 ck4 : Nat) (k5 n5 : Int) (t5 : ByteArray) (an5 : Option Addr) (mn5 cn5 : Nat) (ak5 : Option Addr) (mk5 ck5 : Nat), Below w3.heap.size w3 W → TreeIs W S (tree N n 0) (.agg #[.int .i64 k4, .int .i64 n4, .string t4, .slice an4 mn4 cn4, .slice ak4 mk4 ck4]) → TreeIs W S (tree X m 0) (.agg #[.int .i64 k5, .int .i64 n5, .string t5, .slice an5 mn5 cn5, .slice ak5 mk5 ck5]) → Calls Tryz.prog 31 #[(.agg #[.int .i64 k4, .int .i64 n4, .string t4, .slice an4 mn4 cn4, .slice ak4 mk4 ck4]), .slice a1 (namesN s.data.toList) c1, (.agg #[.int .i64 k5, .int .i64 n5, .string t5, .slice an5 mn5 cn5, .slice ak5 mk5 ck5])] W fun e w' => ∃ (k6 n6 : Int) (t6 : ByteArray) (an6 : Option Addr) (mn6 cn6 : Nat) (ak6 : Option Addr) (mk6 ck6 : Nat), e = .returned (.tuple #[(.agg #[.int .i64 k6, .int .i64 n6, .string t6, .slice an6 mn6 cn6, .slice ak6 mk6 ck6]), .bool R.isSome]) ∧ (∀ y, R = some y → TreeIs w' (fun b => S b ∨ W.heap.size ≤ b) y (.agg #[.int .i64 k6, .int .i64 n6, .string t6, .slice an6 mn6 cn6, .slice ak6 mk6 ck6])) ∧ Below W.heap.size W w') := fun W S k4 n4 t4 an4 mn4 cn4 ak4 mk4 ck4 k5 n5 t5 an5 mn5 cn5 ak5 mk5 ck5 hW h4 h5 => by
          have := l3Set_any (tree X m 0) k5 n5 t5 an5 mn5 cn5 ak5 mk5 ck5 (namesN s.data.toList) (tree N n 0) _ a1 c1 (namesF s.data.toList) W S h4 h5 HCN.out.2 HCN.out.1 (by omega) hc1 (HARG.out W hW).2.2
          rw [hR]
          exact this
        have HSK : Hid (∀ w', Below w3.heap.size w3 w' → (w'.cell? ⟨w.heap.size, 0, none⟩ = some (.slice a n c) ∧ w'.cell? ⟨w.heap.size + 1, 0, none⟩ = some (.slice a' m c'))) := fun w' hb => ⟨(hb.cell (by show w.heap.size < _; omega)).trans x3, (hb.cell (by show w.heap.size + 1 < _; omega)).trans y3⟩
        have HS3 : Hid (w3.cell? ⟨w.heap.size, 0, none⟩ = some (.slice a n c) ∧ w3.cell? ⟨w.heap.size + 1, 0, none⟩ = some (.slice a' m c')) := ⟨x3, y3⟩
        have HBd : Hid (Below w3.heap.size w3 w3.drew) := (Below.refl _ _).drew
        have HBa : Hid (Below w3.heap.size w3 ((w3.alloc (.cells #[.int .i64 0, .int .i64 0, .string ⟨#[]⟩, .slice none 0 0, .slice none 0 0] 60)).drew)) := ((Below.refl _ _).alloc (Nat.le_refl _) _).drew
        have HBb : Hid (Below w3.heap.size w3 (w3.alloc (.cells #[.int .i64 0, .int .i64 0, .string ⟨#[]⟩, .slice none 0 0, .slice none 0 0] 60))) := (Below.refl _ _).alloc (Nat.le_refl _) _
        have HFa : Hid (FiveAt ((w3.alloc (.cells #[.int .i64 0, .int .i64 0, .string ⟨#[]⟩, .slice none 0 0, .slice none 0 0] 60)).drew) w3.heap.size (.int .i64 0) (.int .i64 0) (.string ⟨#[]⟩) (.slice none 0 0) (.slice none 0 0)) := fiveAt_new w3 (.int .i64 0) (.int .i64 0) (.string ⟨#[]⟩) (.slice none 0 0) (.slice none 0 0) 60
        clear HNM3 HO HO' hR HTS HTX
        go_upto_region 4 with fail
        go_cut [10, 11] (fun p q wx => ∃ (b7 : Nat) (k7 n7 : Int) (t7 : ByteArray) (an7 : Option Addr) (mn7 cn7 : Nat) (ak7 : Option Addr) (mk7 ck7 : Nat), p = .pointer (some ⟨b7, 0, none⟩) ∧ q = .bool R.isSome ∧ Hid (CutY R w3 wx b7 k7 n7 t7 an7 mn7 cn7 ak7 mk7 ck7))
        case first =>
          go_region_held3 (fun w' => w'.cell? ⟨w.heap.size, 0, none⟩ = some (.slice a n c) ∧ w'.cell? ⟨w.heap.size + 1, 0, none⟩ = some (.slice a' m c')) (first | (with_reducible exact HS7) | (with_reducible exact HS6) | (with_reducible exact HS5) | (with_reducible exact HS4) | (with_reducible exact HSK.out _ (hB6.alloc hB6.size _)) | (with_reducible exact HSK.out _ (hB5.alloc hB5.size _)) | (with_reducible exact HSK.out _ (hB4.alloc hB4.size _)) | (with_reducible exact HSK.out _ HBa.out) | (with_reducible exact HSK.out _ HBd.out) | (with_reducible exact HS3.out) | (with_reducible exact HSK.out _ HBb.out) | fail)
            (first | (go_at_call 32; go_fit (HC1.out w3.drew HBd.out); rintro e w4 ⟨k4, n4, t4, an4, mn4, cn4, ak4, mk4, ck4, rfl, ht4, hb4⟩; have hB4 : Below w3.heap.size w3 w4 := HBd.out.trans hb4; have z4 : w3.heap.size ≤ w4.heap.size := hB4.size; have HS4 := HSK.out w4 hB4; have HT4 : Hid (TreeIs w4 (fun _ => True) (tree N n 0) _) := ht4.any; clear ht4 hb4) | (go_at_call 32; go_fit (HC1.out ((w3.alloc (.cells #[.int .i64 0, .int .i64 0, .string ⟨#[]⟩, .slice none 0 0, .slice none 0 0] 60)).drew) HBa.out); rintro e w4 ⟨k4, n4, t4, an4, mn4, cn4, ak4, mk4, ck4, rfl, ht4, hb4⟩; have hB4 : Below w3.heap.size w3 w4 := HBa.out.trans (hb4.mono (by show _ ≤ (w3.alloc _).heap.size; simp)); have z4 : w3.heap.size + 1 ≤ w4.heap.size := (by have := hb4.size; change (w3.alloc _).heap.size ≤ _ at this; rw [World.size_alloc] at this; exact this); have HS4 := HSK.out w4 hB4; have HZ4 : Hid (FiveAt w4 w3.heap.size (.int .i64 0) (.int .i64 0) (.string ⟨#[]⟩) (.slice none 0 0) (.slice none 0 0)) := HFa.out.below hb4 (by show _ < (w3.alloc _).heap.size; simp); have HT4 : Hid (TreeIs w4 (fun b => b ≠ w3.heap.size) (tree N n 0) _) := TreeIs.keep (fun _ _ _ => rfl) (fun b hS _ => (by change (w3.alloc _).heap.size ≤ b at hS; rw [World.size_alloc] at hS; omega)) (Nat.le_refl _) _ _ ht4; clear ht4 hb4) | (go_at_call 32; go_fit (HC2.out w4 hB4); rintro e w5 ⟨k5, n5, t5, an5, mn5, cn5, ak5, mk5, ck5, rfl, ht5, hb5⟩; have hB5 : Below w3.heap.size w3 w5 := hB4.trans (hb5.mono hB4.size); have z5 : w3.heap.size + 1 ≤ w5.heap.size := Nat.le_trans z4 hb5.size; have HS5 := HSK.out w5 hB5; have HZ5 : Hid (FiveAt w5 w3.heap.size (.int .i64 0) (.int .i64 0) (.string ⟨#[]⟩) (.slice none 0 0) (.slice none 0 0)) := HZ4.out.below hb5 (by omega); have HT5 : Hid (TreeIs w5 (fun b => b ≠ w3.heap.size) (tree N n 0) _) := TreeIs.keep (fun b _ hlt => hb5.block b hlt) (fun b hS _ => hS) hb5.size _ _ HT4.out; have HX5 : Hid (TreeIs w5 (fun b => b ≠ w3.heap.size) (tree X m 0) _) := TreeIs.keep (fun _ _ _ => rfl) (fun b hS _ => (by change w4.heap.size ≤ b at hS; omega)) (Nat.le_refl _) _ _ ht5; clear ht5 hb5) | (go_at_call 32; go_fit (HC2.out w4 hB4); rintro e w5 ⟨k5, n5, t5, an5, mn5, cn5, ak5, mk5, ck5, rfl, ht5, hb5⟩; have hB5 : Below w3.heap.size w3 w5 := hB4.trans (hb5.mono hB4.size); have z5 : w3.heap.size ≤ w5.heap.size := Nat.le_trans z4 hb5.size; have HS5 := HSK.out w5 hB5; have HT5 : Hid (TreeIs w5 (fun _ => True) (tree N n 0) _) := Tree.below HT4.out hb5; have HX5 : Hid (TreeIs w5 (fun _ => True) (tree X m 0) _) := ht5.any; clear ht5 hb5) | (go_at_call 32; go_fit (HC2.out (w4.alloc (.cells #[.int .i64 0, .int .i64 0, .string ⟨#[]⟩, .slice none 0 0, .slice none 0 0] 60)) (hB4.alloc hB4.size _)); rintro e w5 ⟨k5, n5, t5, an5, mn5, cn5, ak5, mk5, ck5, rfl, ht5, hb5⟩; have hB5 : Below w3.heap.size w3 w5 := (hB4.alloc hB4.size _).trans (hb5.mono (by simp; omega)); have z5 : w4.heap.size + 1 ≤ w5.heap.size := (by have := hb5.size; rw [World.size_alloc] at this; exact this); have HS5 := HSK.out w5 hB5; have HY5 : Hid (FiveAt w5 w4.heap.size (.int .i64 0) (.int .i64 0) (.string ⟨#[]⟩) (.slice none 0 0) (.slice none 0 0)) := (fiveAt_new w4 (.int .i64 0) (.int .i64 0) (.string ⟨#[]⟩) (.slice none 0 0) (.slice none 0 0) 60).below hb5 (by simp); have HT5 : Hid (TreeIs w5 (fun b => b ≠ w4.heap.size) (tree N n 0) _) := TreeIs.keep (fun b _ hlt => (hb5.block b (by simp; omega)).trans (heap_alloc_old _ _ hlt)) (fun b _ hlt => (by omega)) (by omega) _ _ HT4.out; have HX5 : Hid (TreeIs w5 (fun b => b ≠ w4.heap.size) (tree X m 0) _) := TreeIs.keep (fun _ _ _ => rfl) (fun b hS _ => (by change (w4.alloc _).heap.size ≤ b at hS; rw [World.size_alloc] at hS; omega)) (Nat.le_refl _) _ _ ht5; clear ht5 hb5) | (go_at_call 31; go_fit (HC3.out w5 (fun b => b ≠ w3.heap.size) k4 n4 t4 an4 mn4 cn4 ak4 mk4 ck4 k5 n5 t5 an5 mn5 cn5 ak5 mk5 ck5 hB5 HT5.out HX5.out); rintro e w6 ⟨k6, n6, t6, an6, mn6, cn6, ak6, mk6, ck6, rfl, ht6, hb6⟩; have hB6 : Below w3.heap.size w3 w6 := hB5.trans (hb6.mono hB5.size); have HS6 := HSK.out w6 hB6; have HZ6 : Hid (FiveAt w6 w3.heap.size (.int .i64 0) (.int .i64 0) (.string ⟨#[]⟩) (.slice none 0 0) (.slice none 0 0)) := HZ5.out.below hb6 (by omega); have HTR6 : Hid (∀ y, R = some y → TreeIs w6 (fun b => b ≠ w3.heap.size) y (.agg #[.int .i64 k6, .int .i64 n6, .string t6, .slice an6 mn6 cn6, .slice ak6 mk6 ck6])) := fun y hy => TreeIs.keep (fun _ _ _ => rfl) (fun b hS _ => (by rcases hS with h | h; exact h; omega)) (Nat.le_refl _) _ _ (ht6 y hy); have HGG : Hid (CutY R w3 (((((w6.setCell ⟨w3.heap.size, 0, none⟩ (.int .i64 k6)).setCell ⟨w3.heap.size, 1, none⟩ (.int .i64 n6)).setCell ⟨w3.heap.size, 2, none⟩ (.string t6)).setCell ⟨w3.heap.size, 3, none⟩ (.slice an6 mn6 cn6)).setCell ⟨w3.heap.size, 4, none⟩ (.slice ak6 mk6 ck6)) w3.heap.size k6 n6 t6 an6 mn6 cn6 ak6 mk6 ck6) := cutY_set hB6 (Nat.le_refl _) HZ6.out HTR6.out; have HS7 := HSK.out _ HGG.out.2.2.2; obtain ⟨⟨q0, q1, q2, q3, q4⟩, g0, g1, g2, g3, g4⟩ := HZ6.out; clear ht6 hb6) | (go_at_call 31; go_fit (HC3.out w5 (fun b => b ≠ w4.heap.size) k4 n4 t4 an4 mn4 cn4 ak4 mk4 ck4 k5 n5 t5 an5 mn5 cn5 ak5 mk5 ck5 hB5 HT5.out HX5.out); rintro e w6 ⟨k6, n6, t6, an6, mn6, cn6, ak6, mk6, ck6, rfl, ht6, hb6⟩; have hB6 : Below w3.heap.size w3 w6 := hB5.trans (hb6.mono hB5.size); have HS6 := HSK.out w6 hB6; have HZ6 : Hid (FiveAt w6 w4.heap.size (.int .i64 0) (.int .i64 0) (.string ⟨#[]⟩) (.slice none 0 0) (.slice none 0 0)) := HY5.out.below hb6 (by omega); have HTR6 : Hid (∀ y, R = some y → TreeIs w6 (fun b => b ≠ w4.heap.size) y (.agg #[.int .i64 k6, .int .i64 n6, .string t6, .slice an6 mn6 cn6, .slice ak6 mk6 ck6])) := fun y hy => TreeIs.keep (fun _ _ _ => rfl) (fun b hS _ => (by rcases hS with h | h; exact h; omega)) (Nat.le_refl _) _ _ (ht6 y hy); have HGG : Hid (CutY R w3 (((((w6.setCell ⟨w4.heap.size, 0, none⟩ (.int .i64 k6)).setCell ⟨w4.heap.size, 1, none⟩ (.int .i64 n6)).setCell ⟨w4.heap.size, 2, none⟩ (.string t6)).setCell ⟨w4.heap.size, 3, none⟩ (.slice an6 mn6 cn6)).setCell ⟨w4.heap.size, 4, none⟩ (.slice ak6 mk6 ck6)) w4.heap.size k6 n6 t6 an6 mn6 cn6 ak6 mk6 ck6) := cutY_set hB6 z4 HZ6.out HTR6.out; have HS7 := HSK.out _ HGG.out.2.2.2; obtain ⟨⟨q0, q1, q2, q3, q4⟩, g0, g1, g2, g3, g4⟩ := HZ6.out; clear ht6 hb6) | (go_at_call 31; go_fit (HC3.out w5 (fun _ => True) k4 n4 t4 an4 mn4 cn4 ak4 mk4 ck4 k5 n5 t5 an5 mn5 cn5 ak5 mk5 ck5 hB5 HT5.out HX5.out); rintro e w6 ⟨k6, n6, t6, an6, mn6, cn6, ak6, mk6, ck6, rfl, ht6, hb6⟩; have hB6 : Below w3.heap.size w3 w6 := hB5.trans (hb6.mono hB5.size); have HS6 := HSK.out w6 hB6; have HGG : Hid (CutY R w3 (w6.alloc (.cells #[.int .i64 k6, .int .i64 n6, .string t6, .slice an6 mn6 cn6, .slice ak6 mk6 ck6] 60)) w6.heap.size k6 n6 t6 an6 mn6 cn6 ak6 mk6 ck6) := cutY_new hB6 (fun y hy => (ht6 y hy).any) _; clear ht6 hb6) | (go_at_call 31; go_fit (HC3.out (w5.alloc (.cells #[.int .i64 0, .int .i64 0, .string ⟨#[]⟩, .slice none 0 0, .slice none 0 0] 60)) (fun b => b ≠ w5.heap.size) k4 n4 t4 an4 mn4 cn4 ak4 mk4 ck4 k5 n5 t5 an5 mn5 cn5 ak5 mk5 ck5 (hB5.alloc hB5.size _) (TreeIs.keep (fun b _ hlt => heap_alloc_old _ _ hlt) (fun b _ hlt => (by omega)) (by simp) _ _ HT5.out) (TreeIs.keep (fun b _ hlt => heap_alloc_old _ _ hlt) (fun b _ hlt => (by omega)) (by simp) _ _ HX5.out)); rintro e w6 ⟨k6, n6, t6, an6, mn6, cn6, ak6, mk6, ck6, rfl, ht6, hb6⟩; have hB6 : Below w3.heap.size w3 w6 := (hB5.alloc hB5.size _).trans (hb6.mono (by simp; omega)); have HS6 := HSK.out w6 hB6; have HZ6 : Hid (FiveAt w6 w5.heap.size (.int .i64 0) (.int .i64 0) (.string ⟨#[]⟩) (.slice none 0 0) (.slice none 0 0)) := (fiveAt_new w5 (.int .i64 0) (.int .i64 0) (.string ⟨#[]⟩) (.slice none 0 0) (.slice none 0 0) 60).below hb6 (by simp); have HTR6 : Hid (∀ y, R = some y → TreeIs w6 (fun b => b ≠ w5.heap.size) y (.agg #[.int .i64 k6, .int .i64 n6, .string t6, .slice an6 mn6 cn6, .slice ak6 mk6 ck6])) := fun y hy => TreeIs.keep (fun _ _ _ => rfl) (fun b hS _ => (by rcases hS with h | h; exact h; rw [World.size_alloc] at h; omega)) (Nat.le_refl _) _ _ (ht6 y hy); have HGG : Hid (CutY R w3 (((((w6.setCell ⟨w5.heap.size, 0, none⟩ (.int .i64 k6)).setCell ⟨w5.heap.size, 1, none⟩ (.int .i64 n6)).setCell ⟨w5.heap.size, 2, none⟩ (.string t6)).setCell ⟨w5.heap.size, 3, none⟩ (.slice an6 mn6 cn6)).setCell ⟨w5.heap.size, 4, none⟩ (.slice ak6 mk6 ck6)) w5.heap.size k6 n6 t6 an6 mn6 cn6 ak6 mk6 ck6) := cutY_set hB6 z5 HZ6.out HTR6.out; have HS7 := HSK.out _ HGG.out.2.2.2; obtain ⟨⟨q0, q1, q2, q3, q4⟩, g0, g1, g2, g3, g4⟩ := HZ6.out; clear ht6 hb6))
          all_goals
            clear HS4 HS5 HS6
            go_wp2_with fail
            go_meet
            case rel => exact ⟨_, _, _, _, _, _, _, _, _, _, rfl, rfl, HGG⟩
        case rest =>
          obtain ⟨b7, k7, n7, t7, an7, mn7, cn7, ak7, mk7, ck7, rfl, rfl, HGG⟩ := hcut
          obtain ⟨h7, htr7, hb7, hB7⟩ := HGG.out
          have HB6 : Hid (Below w.heap.size w wc) := HB3.out.trans (hB7.mono HB3.out.size)
          have r6 : wc.cell? ⟨w.heap.size + 1 + 1, 0, none⟩ = some (.slice none 0 0) := (hB7.cell zR3).trans r3
          have f6 : wc.frozen? ⟨w.heap.size + 1 + 1, 0, none⟩ = false := (hB7.frozen zR3).trans f3
          have zR6 : w.heap.size + 1 + 1 < wc.heap.size := by omega
          have HTR7 : Hid (∀ y, R = some y → Tree wc y (.agg #[.int .i64 k7, .int .i64 n7, .string t7, .slice an7 mn7 cn7, .slice ak7 mk7 ck7])) := htr7
          obtain ⟨⟨p0, p1, p2, p3, p4⟩, _⟩ := h7
          clear hB7 HGG htr7 x3 y3 r3 f3 HC1 HC2 HC3 HSK HS3 HBd HBa HBb HFa HARG
          cases hset : R with
          | none =>
            have HN : Hid (∀ L, ¬ SetTo N n X m s L) := fun L h => by obtain ⟨_, t', h1, _⟩ := h; have := (hset.symm.trans HRR.out).trans h1; simp at this
            rw [show (none : Option Tr).isSome = false from rfl]
            clear hset HTR7 HSF
            go_wp2_with fail
            exact bodyPost_ret (v := .tuple #[.agg #[.slice none 0 0], .bool false]) (by simp [results, Tryz.results9, go_sem, r6]) rfl (StIs.no HN.out (Below.setR HB6.out (by omega)))
          | some t' =>
            have HTK : Hid (Tree wc t' (.agg #[.int .i64 k7, .int .i64 n7, .string t7, .slice an7 mn7 cn7, .slice ak7 mk7 ck7])) := HTR7.out t' hset
            have hset' : setT (tree X m 0) (nmsL s) (tree N n 0) = some t' := HRR.out.symm.trans hset
            obtain ⟨hs1, hs2, hs3, hs4⟩ := HSF.out t' hset'
            obtain ⟨L, hL⟩ : ∃ L, L = t'.flat ByteArray.empty (-1) 0 := ⟨_, rfl⟩
            rw [← hL] at hs3 hs4
            have HF : Hid (L = t'.flat ByteArray.empty (-1) 0 ∧ setT (tree X m 0) (nmsL s) (tree N n 0) = some t' ∧ L.length ≤ 200 ∧ SmallN L.length (fun i => L.getD i ⟨0, 0, ⟨#[]⟩, ⟨#[]⟩, 0⟩) ∧ t'.named ∧ t'.cnt ≤ 2 ^ 20) := ⟨hL, hset', hs3, hs4, hs1, by omega⟩
            rw [show (some t' : Option Tr).isSome = true from rfl]
            clear hset hset' hs1 hs2 hs3 hs4 hL HTR7 HSF
            go_wp2_with fail
            refine (l1Tell_any t' L k7 n7 t7 an7 mn7 cn7 ak7 mk7 ck7 _ HTK.out HF.out.2.2.2.2.1 HF.out.2.2.2.2.2 HF.out.1 HF.out.2.2.1 HF.out.2.2.2.1).mono ?_
            rintro e w8 ⟨hcase, b8⟩
            have r7 : w8.cell? ⟨w.heap.size + 1 + 1, 0, none⟩ = some (.slice none 0 0) := (b8.cell zR6).trans r6
            have f7 : w8.frozen? ⟨w.heap.size + 1 + 1, 0, none⟩ = false := (b8.frozen zR6).trans f6
            have HB7 : Hid (Below w.heap.size w w8) := HB6.out.trans (b8.mono HB6.out.size)
            rcases hcase with ⟨la, lc, hgd, rfl, ho7⟩ | ⟨hgd, rfl⟩
            · have HY : Hid (SetTo N n X m s L) := ⟨HAS.out, t', HF.out.2.1, HF.out.1, hgd⟩
              have HO7 : Hid (OwnsN w8 wc.heap.size (.slice la L.length lc) L) := ho7
              clear hgd ho7 b8
              go_wp2_with fail
              exact bodyPost_ret (v := .tuple #[.agg #[.slice la L.length lc], .bool true]) (by simp [results, Tryz.results9, go_sem, r7]) rfl (StIs.yes HY.out HB6.out.size HF.out.2.2.1 (own_set HO7.out (by omega)) (Below.setR HB7.out (by omega)))
            · have HN : Hid (∀ L, ¬ SetTo N n X m s L) := fun M h => by
                obtain ⟨_, t2, h1, h2, h3⟩ := h
                obtain rfl := Option.some.inj (HF.out.2.1.symm.trans h1)
                rw [← HF.out.1] at h2
                subst h2
                exact hgd h3
              clear hgd b8
              go_wp2_with fail
              exact bodyPost_ret (v := .tuple #[.agg #[.slice none 0 0], .bool false]) (by simp [results, Tryz.results9, go_sem, r7]) rfl (StIs.no HN.out (Below.setR HB7.out (by omega)))

end Go.Proofs.YtadlflgflnlhjaaGreatDoor
namespace Go.Proofs.YtadlflgflnlhjaaGreatDoor
open Go.RowKit
set_option linter.unusedVariables false

theorem OwnAt.but2 {w w' : World} {b g : Nat} {v : Value} {n : Nat} {f : Nat → Nd} (h : OwnAt w g v n f) (hb : BelowBut w.heap.size b w w') (hne : n ≠ 0 → g ≠ b) : OwnAt w' g v n f := by
  by_cases h0 : n = 0
  · obtain ⟨a, c, off, rfl, hn, _⟩ := h
    exact ⟨a, c, off, rfl, hn, .inl h0⟩
  · exact h.but hb (hne h0)
/-- What a list of nodes is at i. -/
def ndS (L : List Nd) (i : Nat) : Nd := L.getD i ⟨0, 0, ⟨#[]⟩, ⟨#[]⟩, 0⟩
def OneAt (w : World) (B : Nat) (x : Value) : Prop := w.cell? ⟨B, 0, none⟩ = some x ∧ w.frozen? ⟨B, 0, none⟩ = false
theorem OneAt.below {w w' : World} {B Z : Nat} {x : Value} (h : OneAt w B x) (hb : Below Z w w') (hZ : B < Z) : OneAt w' B x := ⟨(hb.cell hZ).trans h.1, (hb.frozen hZ).trans h.2⟩
theorem oneAt_new (w : World) (x : Value) (T : TypeId) : OneAt (w.alloc (.cells #[x] T)) w.heap.size x := ⟨by rw [World.cell?_alloc_new]; rfl, World.frozen?_alloc_new _ _ _ _⟩
/-- What lies behind a call of SetAt: its answer in a block of its own. -/
def CutV (N : Nat → Nd) (n : Nat) (M : Nat → Nd) (n' : Nat) (s : ByteArray) (wb wx : World) (b7 : Nat) (u : Value) (q : Bool) (g : Nat) (L : List Nd) : Prop :=
  (OneAt wx b7 u ∧ PTold N n M n' s q L) ∧ (wb.heap.size ≤ b7 ∧ b7 < wx.heap.size) ∧ Below wb.heap.size wb wx ∧ (L ≠ [] → g ≠ b7 ∧ g < wx.heap.size) ∧ OwnAt wx g u L.length (fun i => L.getD i ⟨0, 0, ⟨#[]⟩, ⟨#[]⟩, 0⟩) ∧ L.length ≤ 200
theorem cutV_new {N M : Nat → Nd} {n n' g : Nat} {s : ByteArray} {wb v5 : World} {u : Value} {q : Bool} {L : List Nd} (hB : Below wb.heap.size wb v5) (hq : PTold N n M n' s q L) (hg : L ≠ [] → g < v5.heap.size) (ho : OwnAt v5 g u L.length (fun i => L.getD i ⟨0, 0, ⟨#[]⟩, ⟨#[]⟩, 0⟩)) (hl : L.length ≤ 200) (T : TypeId) : CutV N n M n' s wb (v5.alloc (.cells #[u] T)) v5.heap.size u q g L :=
  ⟨⟨oneAt_new v5 u T, hq⟩, ⟨hB.size, by simp⟩, hB.alloc hB.size _, fun h => ⟨by have := hg h; omega, by have := hg h; simp; omega⟩, ho.below ((Below.refl _ _).alloc (Nat.le_refl _) _), hl⟩
theorem cutV_set {N M : Nat → Nd} {n n' g yb : Nat} {s : ByteArray} {wb v5 : World} {u z : Value} {q : Bool} {L : List Nd} (hB : Below wb.heap.size wb v5) (hy : wb.heap.size ≤ yb) (hZ : OneAt v5 yb z) (hq : PTold N n M n' s q L) (hg : L ≠ [] → g ≠ yb ∧ g < v5.heap.size) (ho : OwnAt v5 g u L.length (fun i => L.getD i ⟨0, 0, ⟨#[]⟩, ⟨#[]⟩, 0⟩)) (hl : L.length ≤ 200) : CutV N n M n' s wb (v5.setCell ⟨yb, 0, none⟩ u) yb u q g L := by
  have hlt := World.block_lt_of_cell? _ _ hZ.1
  have hbb : BelowBut v5.heap.size yb v5 (v5.setCell ⟨yb, 0, none⟩ u) := BelowBut.setCell _ _ _
  refine ⟨⟨⟨World.cell?_setCell_same' _ _ _ (by rw [hZ.1]; rfl), (World.frozen?_setCell _ _ _ _).trans hZ.2⟩, hq⟩, ⟨hy, by simpa [World.setCell] using hlt⟩, hB.trans (hbb.below hB.size hy), fun h => ⟨(hg h).1, by simpa [World.setCell] using (hg h).2⟩, ?_, hl⟩
  by_cases h0 : L = []
  · subst h0
    obtain ⟨a, c, off, e, hn, _⟩ := ho
    exact ⟨a, c, off, e, hn, .inl rfl⟩
  · exact ho.but hbb (hg h0).1

set_option maxRecDepth 100000 in
set_option maxHeartbeats 4000000 in
theorem setAt_law (a : Option Addr) (c n : Nat) (N : Nat → Nd) (s : ByteArray) (hsz : s.size ≤ maxLen) (a' : Option Addr) (c' n' : Nat) (M : Nat → Nd) (w : World) (hn : n ≤ maxLen) (h : ArgIs w a n N) (hz : ∀ i, i < n → (N i).text.size ≤ maxLen ∧ (N i).name.size ≤ maxLen)
    (hn' : n' ≤ maxLen) (h' : ArgIs w a' n' M) (hz' : ∀ i, i < n' → (M i).text.size ≤ maxLen ∧ (M i).name.size ≤ maxLen) (htab : Tab w.heap.size w) (hml : ML w) :
    Calls Tryz.prog 3 #[.agg #[.slice a n c], .string s, .agg #[.slice a' n' c']] w fun e w' => e = .returned (.bool true) ∧ Below w.heap.size w w' := by
  have HZ : Hid (∀ i, i < n → (N i).text.size ≤ maxLen ∧ (N i).name.size ≤ maxLen) := hz
  have HZ' : Hid (∀ i, i < n' → (M i).text.size ≤ maxLen ∧ (M i).name.size ≤ maxLen) := hz'
  have H : Hid (ArgIs w a n N) := h
  have H' : Hid (ArgIs w a' n' M) := h'
  have HTB : Hid (Tab w.heap.size w) := htab
  have HML : Hid (ML w) := hml
  clear hz h htab hz' h' hml
  unfold maxLen at hsz
  by_cases h20 : 1048576 < s.size
  · go_enter Tryz.func3, Tryz.ntmps3
    go_wp2
    go_ret
    exact ⟨rfl, by go_grown⟩
  have h20' : s.size ≤ 2 ^ 20 := by omega
  go_enter Tryz.func3, Tryz.ntmps3
  go_wp2_with fail
  have hbl0 : ∀ o o', Below w.heap.size w ((w.alloc o).alloc o') := fun o o' => ((Below.refl _ _).alloc (Nat.le_refl _) o).alloc (by simp) o'
  refine (szValue_left a c n N 1048576 (by decide) (by decide) _ hn (H.out.below (hbl0 _ _)) HZ.out).mono ?_
  rintro e w1 ⟨r, rfl, hr, hb1⟩
  have x1 : w1.cell? ⟨w.heap.size, 0, none⟩ = some (.slice a n c) := by rw [hb1.cell (by simp; omega)]; simp [go_sem]
  have y1 : w1.cell? ⟨w.heap.size + 1, 0, none⟩ = some (.slice a' n' c') := by rw [hb1.cell (by simp)]; simp [go_sem]
  have HB1 : Hid (Below w.heap.size w w1) := (hbl0 _ _).trans (hb1.mono (by simp; omega))
  have z1 : w.heap.size + 1 < w1.heap.size := by have := hb1.size; simp at this; omega
  have z1' : w.heap.size < w1.heap.size := by omega
  clear hb1 hbl0
  rcases hr with rfl | ⟨r0, r20, hsm⟩
  · go_wp2
    go_ret
    exact ⟨rfl, HB1.out⟩
  have HSM : Hid (SmallN n N) := hsm
  have n20 : n ≤ 2 ^ 20 := hsm.1
  have r1 : ¬ r < 0 := by omega
  clear hsm
  go_wp2_with fail
  refine (szValue_left a' c' n' M r r0 r20 _ hn' (H'.out.below HB1.out) HZ'.out).mono ?_
  rintro e w2 ⟨r', rfl, hr, hb2⟩
  have x2 : w2.cell? ⟨w.heap.size, 0, none⟩ = some (.slice a n c) := (hb2.cell z1').trans x1
  have y2 : w2.cell? ⟨w.heap.size + 1, 0, none⟩ = some (.slice a' n' c') := (hb2.cell z1).trans y1
  have HB2 : Hid (Below w.heap.size w w2) := HB1.out.trans (hb2.mono HB1.out.size)
  have z2 : w.heap.size + 1 < w2.heap.size := by have := hb2.size; omega
  have z2' : w.heap.size < w2.heap.size := by omega
  clear hb2
  rcases hr with rfl | ⟨r0', r20', hsm⟩
  · go_wp2
    go_ret
    exact ⟨rfl, HB2.out⟩
  have HSM' : Hid (SmallN n' M) := hsm
  have n20' : n' ≤ 2 ^ 20 := hsm.1
  have r1' : ¬ r' < 0 := by omega
  clear hsm x1 y1
  have HC1 : Hid (∀ W, Below w2.heap.size w2 W → _) := fun W hW => toValue_cap a c n N W n20 (H.out.below (HB2.out.trans (hW.mono HB2.out.size)))
  have HC2 : Hid (∀ W, Below w2.heap.size w2 W → _) := fun W hW => toValue_cap a' c' n' M W n20' (H'.out.below (HB2.out.trans (hW.mono HB2.out.size)))
  have HC3 : Hid (∀ (W : World) (b3 : Nat) (a3 : Option Addr) (c3 b4 : Nat) (a4 : Option Addr) (c4 : Nat), n ≤ c3 → Below w2.heap.size w2 W → OwnAt W b3 (.slice a3 n c3) n N → OwnAt W b4 (.slice a4 n' c4) n' M → Calls Tryz.prog 9 #[.agg #[.slice a3 n c3], .string s, .agg #[.slice a4 n' c4]] W (StIs N n M n' s W)) := fun W b3 a3 c3 b4 a4 c4 hc hW h3 h4 => specSet_own b3 n a3 c3 N s b4 n' a4 c4 M W h3 HSM.out h4 HSM'.out h20'
  have HSK : Hid (∀ w', Below w2.heap.size w2 w' → (w'.cell? ⟨w.heap.size, 0, none⟩ = some (.slice a n c) ∧ w'.cell? ⟨w.heap.size + 1, 0, none⟩ = some (.slice a' n' c'))) := fun w' hb => ⟨(hb.cell (by show w.heap.size < _; omega)).trans x2, (hb.cell (by show w.heap.size + 1 < _; omega)).trans y2⟩
  have HS2 : Hid (w2.cell? ⟨w.heap.size, 0, none⟩ = some (.slice a n c) ∧ w2.cell? ⟨w.heap.size + 1, 0, none⟩ = some (.slice a' n' c')) := ⟨x2, y2⟩
  have HBd : Hid (Below w2.heap.size w2 w2.drew) := (Below.refl _ _).drew
  have HBa : Hid (Below w2.heap.size w2 ((w2.alloc (.cells #[.slice none 0 0] 28)).drew)) := ((Below.refl _ _).alloc (Nat.le_refl _) _).drew
  have HBb : Hid (Below w2.heap.size w2 (w2.alloc (.cells #[.slice none 0 0] 28))) := (Below.refl _ _).alloc (Nat.le_refl _) _
  have HFa : Hid (OneAt ((w2.alloc (.cells #[.slice none 0 0] 28)).drew) w2.heap.size (.slice none 0 0)) := oneAt_new w2 (.slice none 0 0) 28
  go_upto_region 10 with fail
  go_cut [8, 9] (fun p q wx => ∃ (b7 : Nat) (u7 : Value) (q7 : Bool) (g7 : Nat) (L7 : List Nd), p = .pointer (some ⟨b7, 0, none⟩) ∧ q = .bool q7 ∧ Hid (CutV N n M n' s w2 wx b7 u7 q7 g7 L7))
  case first =>
    go_region_held3 (fun w' => w'.cell? ⟨w.heap.size, 0, none⟩ = some (.slice a n c) ∧ w'.cell? ⟨w.heap.size + 1, 0, none⟩ = some (.slice a' n' c')) (first | (with_reducible exact HS6) | (with_reducible exact HS5) | (with_reducible exact HS4) | (with_reducible exact HS3) | (with_reducible exact HSK.out _ (hB5.alloc hB5.size _)) | (with_reducible exact HSK.out _ (hB4.alloc hB4.size _)) | (with_reducible exact HSK.out _ (hB3.alloc hB3.size _)) | (with_reducible exact HSK.out _ HBa.out) | (with_reducible exact HSK.out _ HBd.out) | (with_reducible exact HS2.out) | (with_reducible exact HSK.out _ HBb.out) | fail)
      (first | (go_at_call 10; go_fit (HC1.out w2.drew HBd.out); rintro e v3 ⟨b3, a3, c3, rfl, cc3, _, _, ho3, hb3⟩; have hB3 : Below w2.heap.size w2 v3 := HBd.out.trans hb3; have zz3 : w2.heap.size ≤ v3.heap.size := hB3.size; have HS3 := HSK.out v3 hB3; have HO3 : Hid (OwnAt v3 b3 (.slice a3 n c3) n N) := ho3; clear ho3 hb3) | (go_at_call 10; go_fit (HC1.out ((w2.alloc (.cells #[.slice none 0 0] 28)).drew) HBa.out); rintro e v3 ⟨b3, a3, c3, rfl, cc3, _, _, ho3, hb3⟩; have hB3 : Below w2.heap.size w2 v3 := HBa.out.trans (hb3.mono (by show _ ≤ (w2.alloc _).heap.size; simp)); have zz3 : w2.heap.size + 1 ≤ v3.heap.size := (by have := hb3.size; change (w2.alloc _).heap.size ≤ _ at this; rw [World.size_alloc] at this; exact this); have HS3 := HSK.out v3 hB3; have HO3 : Hid (OwnAt v3 b3 (.slice a3 n c3) n N) := ho3; have HZ3 : Hid (OneAt v3 w2.heap.size (.slice none 0 0)) := HFa.out.below hb3 (by show _ < (w2.alloc _).heap.size; simp); clear ho3 hb3) | (go_at_call 10; go_fit (HC2.out v3 hB3); rintro e v4 ⟨b4, a4, c4, rfl, cc4, _, _, ho4, hb4⟩; have HZ4 : Hid (OneAt v4 w2.heap.size (.slice none 0 0)) := HZ3.out.below hb4 (by omega); have hB4 : Below w2.heap.size w2 v4 := hB3.trans (hb4.mono hB3.size); have zz4 : w2.heap.size + 1 ≤ v4.heap.size := Nat.le_trans zz3 hb4.size; have HS4 := HSK.out v4 hB4; have HO34 : Hid (OwnAt v4 b3 (.slice a3 n c3) n N) := HO3.out.below hb4; have HO4 : Hid (OwnAt v4 b4 (.slice a4 n' c4) n' M) := ho4; clear ho4 hb4) | (go_at_call 10; go_fit (HC2.out v3 hB3); rintro e v4 ⟨b4, a4, c4, rfl, cc4, _, _, ho4, hb4⟩; have hB4 : Below w2.heap.size w2 v4 := hB3.trans (hb4.mono hB3.size); have zz4 : w2.heap.size ≤ v4.heap.size := hB4.size; have HS4 := HSK.out v4 hB4; have HO34 : Hid (OwnAt v4 b3 (.slice a3 n c3) n N) := HO3.out.below hb4; have HO4 : Hid (OwnAt v4 b4 (.slice a4 n' c4) n' M) := ho4; clear ho4 hb4) | (go_at_call 10; go_fit (HC2.out (v3.alloc (.cells #[.slice none 0 0] 28)) (hB3.alloc hB3.size _)); rintro e v4 ⟨b4, a4, c4, rfl, cc4, _, _, ho4, hb4⟩; have HY4 : Hid (OneAt v4 v3.heap.size (.slice none 0 0)) := (oneAt_new v3 (.slice none 0 0) 28).below hb4 (by simp); have hB4 : Below w2.heap.size w2 v4 := (hB3.alloc hB3.size _).trans (hb4.mono (by simp; omega)); have zz4 : v3.heap.size + 1 ≤ v4.heap.size := (by have := hb4.size; rw [World.size_alloc] at this; exact this); have HS4 := HSK.out v4 hB4; have HO34 : Hid (OwnAt v4 b3 (.slice a3 n c3) n N) := (HO3.out.below ((Below.refl _ _).alloc (Nat.le_refl _) _)).below hb4; have HO4 : Hid (OwnAt v4 b4 (.slice a4 n' c4) n' M) := ho4; clear ho4 hb4) | (go_at_call 9; go_fit (HC3.out v4 b3 a3 c3 b4 a4 c4 cc3 hB4 HO34.out HO4.out); rintro e v5 ⟨u5, q5, g5, L5, rfl, hq5, hg5, ho5, hl5, hb5⟩; have hB5 : Below w2.heap.size w2 v5 := hB4.trans (hb5.mono hB4.size); have HS5 := HSK.out v5 hB5; have HZ5 : Hid (OneAt v5 w2.heap.size (.slice none 0 0)) := HZ4.out.below hb5 (by omega); have HGG : Hid (CutV N n M n' s w2 (v5.setCell ⟨w2.heap.size, 0, none⟩ u5) w2.heap.size u5 q5 g5 L5) := cutV_set hB5 (Nat.le_refl _) HZ5.out hq5 (fun h => ⟨by have := hg5 h; omega, (hg5 h).2⟩) ho5 hl5; have HS6 := HSK.out _ HGG.out.2.2.1; obtain ⟨la5, lc5, rfl⟩ := ho5.form; obtain ⟨q0, g0⟩ := HZ5.out; clear hq5 hg5 ho5 hl5 hb5) | (go_at_call 9; go_fit (HC3.out v4 b3 a3 c3 b4 a4 c4 cc3 hB4 HO34.out HO4.out); rintro e v5 ⟨u5, q5, g5, L5, rfl, hq5, hg5, ho5, hl5, hb5⟩; have hB5 : Below w2.heap.size w2 v5 := hB4.trans (hb5.mono hB4.size); have HS5 := HSK.out v5 hB5; have HZ5 : Hid (OneAt v5 v3.heap.size (.slice none 0 0)) := HY4.out.below hb5 (by omega); have HGG : Hid (CutV N n M n' s w2 (v5.setCell ⟨v3.heap.size, 0, none⟩ u5) v3.heap.size u5 q5 g5 L5) := cutV_set hB5 zz3 HZ5.out hq5 (fun h => ⟨by have := hg5 h; omega, (hg5 h).2⟩) ho5 hl5; have HS6 := HSK.out _ HGG.out.2.2.1; obtain ⟨la5, lc5, rfl⟩ := ho5.form; obtain ⟨q0, g0⟩ := HZ5.out; clear hq5 hg5 ho5 hl5 hb5) | (go_at_call 9; go_fit (HC3.out v4 b3 a3 c3 b4 a4 c4 cc3 hB4 HO34.out HO4.out); rintro e v5 ⟨u5, q5, g5, L5, rfl, hq5, hg5, ho5, hl5, hb5⟩; have hB5 : Below w2.heap.size w2 v5 := hB4.trans (hb5.mono hB4.size); have HS5 := HSK.out v5 hB5; have HGG : Hid (CutV N n M n' s w2 (v5.alloc (.cells #[u5] 28)) v5.heap.size u5 q5 g5 L5) := cutV_new hB5 hq5 (fun h => (hg5 h).2) ho5 hl5 _; obtain ⟨la5, lc5, rfl⟩ := ho5.form; clear hq5 hg5 ho5 hl5 hb5) | (go_at_call 9; go_fit (HC3.out (v4.alloc (.cells #[.slice none 0 0] 28)) b3 a3 c3 b4 a4 c4 cc3 (hB4.alloc hB4.size _) (HO34.out.below ((Below.refl _ _).alloc (Nat.le_refl _) _)) (HO4.out.below ((Below.refl _ _).alloc (Nat.le_refl _) _))); rintro e v5 ⟨u5, q5, g5, L5, rfl, hq5, hg5, ho5, hl5, hb5⟩; have hB5 : Below w2.heap.size w2 v5 := (hB4.alloc hB4.size _).trans (hb5.mono (by simp; omega)); have HS5 := HSK.out v5 hB5; have HZ5 : Hid (OneAt v5 v4.heap.size (.slice none 0 0)) := (oneAt_new v4 (.slice none 0 0) 28).below hb5 (by simp); have HGG : Hid (CutV N n M n' s w2 (v5.setCell ⟨v4.heap.size, 0, none⟩ u5) v4.heap.size u5 q5 g5 L5) := cutV_set hB5 zz4 HZ5.out hq5 (fun h => ⟨by have := (hg5 h).1; rw [World.size_alloc] at this; omega, (hg5 h).2⟩) ho5 hl5; have HS6 := HSK.out _ HGG.out.2.2.1; obtain ⟨la5, lc5, rfl⟩ := ho5.form; obtain ⟨q0, g0⟩ := HZ5.out; clear hq5 hg5 ho5 hl5 hb5))
    all_goals
      clear HS3 HS4 HS5
      go_wp2_with fail
      go_meet
      case rel => exact ⟨_, _, _, _, _, rfl, rfl, HGG⟩
  case rest =>
    obtain ⟨b7, u7, q, g3, L, rfl, rfl, HGG⟩ := hcut
    obtain ⟨⟨⟨u3, _⟩, hq7⟩, hb7, hB7, hg7, ho7, hl7⟩ := HGG.out
    obtain ⟨a3, c3, rfl⟩ := ho7.form
    have HQ : Hid (PTold N n M n' s q L) := hq7
    obtain ⟨m, hm⟩ : ∃ m, m = L.length := ⟨_, rfl⟩
    have hL0 : m ≠ 0 → L ≠ [] := fun h e => h (by rw [hm, e]; rfl)
    rw [← hm] at ho7 u3 hl7
    have HM : Hid (m = L.length) := hm
    have HL3 : Hid (m ≠ 0 → g3 ≠ b7 ∧ g3 < wc.heap.size) := fun h => hg7 (hL0 h)
    have HK5 : Hid (OwnAt wc g3 (.slice a3 m c3) m (ndS L)) := ho7
    have x5 : wc.cell? ⟨w.heap.size, 0, none⟩ = some (.slice a n c) := (hB7.cell z2').trans x2
    have y5 : wc.cell? ⟨w.heap.size + 1, 0, none⟩ = some (.slice a' n' c') := (hB7.cell z2).trans y2
    have HB5 : Hid (Below w.heap.size w wc) := HB2.out.trans (hB7.mono HB2.out.size)
    have zb7 := hb7.2
    have zb7' : w.heap.size + 1 < b7 := by omega
    have z5 : w.heap.size + 1 < wc.heap.size := by omega
    have z5' : w.heap.size < wc.heap.size := by omega
    clear HGG hq7 hb7 hB7 hg7 ho7 hm HC1 HC2 HC3 HSK HS2 HBd HBa HBb HFa x2 y2
    go_wp2_with fail
    refine (toValue_cap a c n N _ n20 (H.out.below HB5.out)).mono ?_
    rintro e w6 ⟨b6, a6, c6, rfl, cc6, l6, m6, ho6, hb6⟩
    have z56 := hb6.size
    have x6 : w6.cell? ⟨w.heap.size, 0, none⟩ = some (.slice a n c) := (hb6.cell z5').trans x5
    have y6 : w6.cell? ⟨w.heap.size + 1, 0, none⟩ = some (.slice a' n' c') := (hb6.cell z5).trans y5
    have u6 : w6.cell? ⟨b7, 0, none⟩ = some (.slice a3 m c3) := (hb6.cell zb7).trans u3
    have HB6 : Hid (Below w.heap.size w w6) := HB5.out.trans (hb6.mono HB5.out.size)
    have HO6 : Hid (OwnAt w6 b6 (.slice a6 n c6) n N) := ho6
    have HK6 : Hid (OwnAt w6 g3 (.slice a3 m c3) m (ndS L)) := HK5.out.below hb6
    have z6 : w.heap.size + 1 < w6.heap.size := by omega
    have z6' : w.heap.size < w6.heap.size := by omega
    have z6b : b7 < w6.heap.size := by omega
    clear ho6 hb6 HK5 x5 y5 u3
    go_wp2_with fail
    have al6 : ∀ o, Below w6.heap.size w6 (w6.alloc o) := fun o => (Below.refl _ _).alloc (Nat.le_refl _) o
    refine (toValue_cap a' c' n' M _ n20' (H'.out.below (HB6.out.trans ((al6 _).mono HB6.out.size)))).mono ?_
    rintro e w7 ⟨b7', a7, c7, rfl, cc7, l7, m7, ho7, hb7⟩
    have z67 := hb7.size
    simp at z67 l7
    have B67 : Below w6.heap.size w6 w7 := (al6 _).trans (hb7.mono (by simp))
    have x7 : w7.cell? ⟨w.heap.size, 0, none⟩ = some (.slice a n c) := (B67.cell z6').trans x6
    have y7 : w7.cell? ⟨w.heap.size + 1, 0, none⟩ = some (.slice a' n' c') := (B67.cell z6).trans y6
    have u7 : w7.cell? ⟨b7, 0, none⟩ = some (.slice a3 m c3) := (B67.cell z6b).trans u6
    have v7 : w7.cell? ⟨w6.heap.size, 0, none⟩ = some (.slice a6 n c6) := by rw [hb7.cell (by simp)]; simp [World.cell?_alloc_new]
    have HB7 : Hid (Below w.heap.size w w7) := HB6.out.trans (B67.mono HB6.out.size)
    have HO67 : Hid (OwnAt w7 b6 (.slice a6 n c6) n N) := HO6.out.below B67
    have HO7 : Hid (OwnAt w7 b7' (.slice a7 n' c7) n' M) := ho7
    have HK7 : Hid (OwnAt w7 g3 (.slice a3 m c3) m (ndS L)) := HK6.out.below B67
    have z7 : w.heap.size + 1 < w7.heap.size := by omega
    have z7' : w.heap.size < w7.heap.size := by omega
    have z7u : w6.heap.size < w7.heap.size := by omega
    have z7b : b7 < w7.heap.size := by omega
    clear ho7 hb7 x6 y6 u6 B67 al6 HO6 HK6
    go_wp2_with fail
    have al7 : ∀ o, Below w7.heap.size w7 (w7.alloc o) := fun o => (Below.refl _ _).alloc (Nat.le_refl _) o
    refine (implSet_own b6 n a6 c6 N s b7' n' a7 c7 M _ (HO67.out.below (al7 _)) HSM.out (HO7.out.below (al7 _)) HSM'.out (HTB.out.up (HB7.out.trans ((al7 _).mono HB7.out.size))) cc6 (HML.out.below (HB7.out.trans ((al7 _).mono HB7.out.size)))).mono ?_
    rintro e w8 ⟨u8', q8, g8, L8, rfl, hq8, hg8, ho8, _, hb8⟩
    obtain ⟨rfl, rfl⟩ : q8 = q ∧ L8 = L := hq8.same HQ.out
    rw [← HM.out] at ho8
    obtain ⟨a8, c8, rfl⟩ := ho8.form
    have z78 := hb8.size
    simp at z78
    have B78 : Below w7.heap.size w7 w8 := (al7 _).trans (hb8.mono (by simp))
    have x8 : w8.cell? ⟨w.heap.size, 0, none⟩ = some (.slice a n c) := (B78.cell (by show w.heap.size < _; omega)).trans x7
    have y8 : w8.cell? ⟨w.heap.size + 1, 0, none⟩ = some (.slice a' n' c') := (B78.cell (by show w.heap.size + 1 < _; omega)).trans y7
    have u8 : w8.cell? ⟨b7, 0, none⟩ = some (.slice a3 m c3) := (B78.cell (by show b7 < _; omega)).trans u7
    have v8 : w8.cell? ⟨w6.heap.size, 0, none⟩ = some (.slice a6 n c6) := (B78.cell (by show w6.heap.size < _; omega)).trans v7
    have t8 : w8.cell? ⟨w7.heap.size, 0, none⟩ = some (.slice a7 n' c7) := by rw [hb8.cell (by simp)]; simp [World.cell?_alloc_new]
    have HB8 : Hid (Below w.heap.size w w8) := HB7.out.trans (B78.mono HB7.out.size)
    have HO68 : Hid (OwnAt w8 b6 (.slice a6 n c6) n N) := HO67.out.below B78
    have HO78 : Hid (OwnAt w8 b7' (.slice a7 n' c7) n' M) := HO7.out.below B78
    have HK8 : Hid (OwnAt w8 g3 (.slice a3 m c3) m (ndS L8)) := HK7.out.below B78
    have HG8 : Hid (OwnAt w8 g8 (.slice a8 m c8) m (ndS L8)) := ho8
    have HGL : Hid (m ≠ 0 → w7.heap.size < g8 ∧ g8 < w8.heap.size) := fun h => by have := hg8 (hL0 h); simp at this; omega
    have z8 : w.heap.size + 1 < w8.heap.size := by omega
    have z8' : w.heap.size < w8.heap.size := by omega
    have z8u : w6.heap.size < w8.heap.size := by omega
    have z8v : w7.heap.size < w8.heap.size := by omega
    have z8b : b7 < w8.heap.size := by omega
    clear hb8 hq8 hg8 ho8 B78 al7 HO67 HO7 HK7 x7 y7 u7 v7
    go_wp2_with fail
    have al8 : ∀ o, Below w8.heap.size w8 (w8.alloc o) := fun o => (Below.refl _ _).alloc (Nat.le_refl _) o
    refine (eqValue_any _ _ m (ndS L8) _ ((HG8.out.below (al8 _)).slice) ((HK8.out.below (al8 _)).slice)).mono ?_
    rintro e w9 ⟨rfl, hb9⟩
    have B89 : Below w8.heap.size w8 w9 := (al8 _).trans (hb9.mono (by simp))
    have z89 := hb9.size
    simp at z89
    have x9 : w9.cell? ⟨w.heap.size, 0, none⟩ = some (.slice a n c) := (B89.cell (by show w.heap.size < _; omega)).trans x8
    have y9 : w9.cell? ⟨w.heap.size + 1, 0, none⟩ = some (.slice a' n' c') := (B89.cell (by show w.heap.size + 1 < _; omega)).trans y8
    have u9 : w9.cell? ⟨b7, 0, none⟩ = some (.slice a3 m c3) := (B89.cell (by show b7 < _; omega)).trans u8
    have v9 : w9.cell? ⟨w6.heap.size, 0, none⟩ = some (.slice a6 n c6) := (B89.cell (by show w6.heap.size < _; omega)).trans v8
    have t9 : w9.cell? ⟨w7.heap.size, 0, none⟩ = some (.slice a7 n' c7) := (B89.cell (by show w7.heap.size < _; omega)).trans t8
    have HB9 : Hid (Below w.heap.size w w9) := HB8.out.trans (B89.mono HB8.out.size)
    have p9 : w9.cell? ⟨w8.heap.size, 0, none⟩ = some (.slice a8 m c8) := by rw [hb9.cell (by simp)]; simp [World.cell?_alloc_new]
    have HO69 : Hid (OwnAt w9 b6 (.slice a6 n c6) n N) := HO68.out.below B89
    have HO79 : Hid (OwnAt w9 b7' (.slice a7 n' c7) n' M) := HO78.out.below B89
    have HK9 : Hid (OwnAt w9 g3 (.slice a3 m c3) m (ndS L8)) := HK8.out.below B89
    have HG9 : Hid (OwnAt w9 g8 (.slice a8 m c8) m (ndS L8)) := HG8.out.below B89
    clear hb9 B89 al8 HO68 HO78 HK8 HG8 x8 y8 u8 v8 t8
    have z9 : w.heap.size + 1 < w9.heap.size := by omega
    have z9' : w.heap.size < w9.heap.size := by omega
    have z9u : w6.heap.size < w9.heap.size := by omega
    have z9v : w7.heap.size < w9.heap.size := by omega
    go_wp2_with fail
    go_region_held3 (fun w' => w'.cell? ⟨w.heap.size, 0, none⟩ = some (.slice a n c) ∧ w'.cell? ⟨w6.heap.size, 0, none⟩ = some (.slice a6 n c6)) (first | exact ⟨x9, v9⟩ | exact ⟨x10, v10⟩ | exact ⟨x11, v11⟩ | fail)
      (first | (go_at_call 10; go_fit (toValue_any a c n N w9.drew n20 (H.out.below HB9.out.drew)); rintro e w10 ⟨b10, a10, c10, rfl, l10, m10, ho10, hb10⟩; have x10 := (hb10.cell (p := ⟨w.heap.size, 0, none⟩) z9').trans x9; have v10 := (hb10.cell (p := ⟨w6.heap.size, 0, none⟩) z9u).trans v9; have zz10 : w9.heap.size ≤ w10.heap.size := hb10.size; have B910 : Below w9.heap.size w9 w10 := (Below.drew (Below.refl w9.heap.size w9)).trans hb10) | (go_at_call 12; refine (eqValue_any _ _ n N _ ((HO69.out.below B910).slice) ho10.slice).mono ?_; rintro e w11 ⟨rfl, hb11⟩; have x11 := (hb11.cell (p := ⟨w.heap.size, 0, none⟩) (Nat.lt_of_lt_of_le z9' zz10)).trans x10; have v11 := (hb11.cell (p := ⟨w6.heap.size, 0, none⟩) (Nat.lt_of_lt_of_le z9u zz10)).trans v10))
    have B911 : Below w9.heap.size w9 w11 := B910.trans (hb11.mono zz10)
    have zz11 := B911.size
    have y11 : w11.cell? ⟨w.heap.size + 1, 0, none⟩ = some (.slice a' n' c') := (B911.cell (by show w.heap.size + 1 < _; omega)).trans y9
    have u11 : w11.cell? ⟨b7, 0, none⟩ = some (.slice a3 m c3) := (B911.cell (by show b7 < _; omega)).trans u9
    have t11 : w11.cell? ⟨w7.heap.size, 0, none⟩ = some (.slice a7 n' c7) := (B911.cell (by show w7.heap.size < _; omega)).trans t9
    have p11 : w11.cell? ⟨w8.heap.size, 0, none⟩ = some (.slice a8 m c8) := (B911.cell (by show w8.heap.size < _; omega)).trans p9
    have HB11 : Hid (Below w.heap.size w w11) := HB9.out.trans (B911.mono HB9.out.size)
    have HO611 : Hid (OwnAt w11 b6 (.slice a6 n c6) n N) := HO69.out.below B911
    have HO711 : Hid (OwnAt w11 b7' (.slice a7 n' c7) n' M) := HO79.out.below B911
    have HK11 : Hid (OwnAt w11 g3 (.slice a3 m c3) m (ndS L8)) := HK9.out.below B911
    have HG11 : Hid (OwnAt w11 g8 (.slice a8 m c8) m (ndS L8)) := HG9.out.below B911
    have z11 : w.heap.size + 1 < w11.heap.size := by omega
    have z11v : w7.heap.size < w11.heap.size := by omega
    clear hb10 hb11 B910 B911 ho10 l10 m10 x9 y9 u9 v9 t9 p9 x10 v10 HO69 HO79 HK9 HG9 zz10
    go_wp2_with fail
    go_region_held3 (fun w' => w'.cell? ⟨w.heap.size + 1, 0, none⟩ = some (.slice a' n' c') ∧ w'.cell? ⟨w7.heap.size, 0, none⟩ = some (.slice a7 n' c7)) (first | exact ⟨y11, t11⟩ | exact ⟨y12, t12⟩ | exact ⟨y13, t13⟩ | fail)
      (first | (go_at_call 10; go_fit (toValue_any a' c' n' M w11.drew n20' (H'.out.below HB11.out.drew)); rintro e w12 ⟨b12, a12, c12, rfl, l12, m12, ho12, hb12⟩; have y12 := (hb12.cell (p := ⟨w.heap.size + 1, 0, none⟩) z11).trans y11; have t12 := (hb12.cell (p := ⟨w7.heap.size, 0, none⟩) z11v).trans t11; have zz12 : w11.heap.size ≤ w12.heap.size := hb12.size; have B1112 : Below w11.heap.size w11 w12 := (Below.drew (Below.refl w11.heap.size w11)).trans hb12) | (go_at_call 12; refine (eqValue_any _ _ n' M _ ((HO711.out.below B1112).slice) ho12.slice).mono ?_; rintro e w13 ⟨rfl, hb13⟩; have y13 := (hb13.cell (p := ⟨w.heap.size + 1, 0, none⟩) (Nat.lt_of_lt_of_le z11 zz12)).trans y12; have t13 := (hb13.cell (p := ⟨w7.heap.size, 0, none⟩) (Nat.lt_of_lt_of_le z11v zz12)).trans t12))
    have B1113 : Below w11.heap.size w11 w13 := B1112.trans (hb13.mono zz12)
    have zz13 := B1113.size
    have x13 : w13.cell? ⟨w.heap.size, 0, none⟩ = some (.slice a n c) := (B1113.cell (by show w.heap.size < _; omega)).trans x11
    have u13 : w13.cell? ⟨b7, 0, none⟩ = some (.slice a3 m c3) := (B1113.cell (by show b7 < _; omega)).trans u11
    have v13 : w13.cell? ⟨w6.heap.size, 0, none⟩ = some (.slice a6 n c6) := (B1113.cell (by show w6.heap.size < _; omega)).trans v11
    have p13 : w13.cell? ⟨w8.heap.size, 0, none⟩ = some (.slice a8 m c8) := (B1113.cell (by show w8.heap.size < _; omega)).trans p11
    have HB13 : Hid (Below w.heap.size w w13) := HB11.out.trans (B1113.mono HB11.out.size)
    have HO613 : Hid (OwnAt w13 b6 (.slice a6 n c6) n N) := HO611.out.below B1113
    have HO713 : Hid (OwnAt w13 b7' (.slice a7 n' c7) n' M) := HO711.out.below B1113
    have HK13 : Hid (OwnAt w13 g3 (.slice a3 m c3) m (ndS L8)) := HK11.out.below B1113
    have HG13 : Hid (OwnAt w13 g8 (.slice a8 m c8) m (ndS L8)) := HG11.out.below B1113
    clear hb12 hb13 B1112 B1113 ho12 l12 m12 x11 y11 u11 v11 t11 p11 y12 t12 HO611 HO711 HK11 HG11 zz12
    go_wp2_with fail
    refine (markValue_any _ b6 n N 1 _ (by omega) (by omega) HO613.out).mono ?_
    rintro e w14 ⟨rfl, hb14, ho14⟩
    have z1314 := hb14.size
    have x14 : w14.cell? ⟨w.heap.size, 0, none⟩ = some (.slice a n c) := (hb14.cell (by show w.heap.size < _; omega) (by show w.heap.size ≠ _; omega)).trans x13
    have y14 : w14.cell? ⟨w.heap.size + 1, 0, none⟩ = some (.slice a' n' c') := (hb14.cell (by show w.heap.size + 1 < _; omega) (by show w.heap.size + 1 ≠ _; omega)).trans y13
    have u14 : w14.cell? ⟨b7, 0, none⟩ = some (.slice a3 m c3) := (hb14.cell (by show b7 < _; omega) (by show b7 ≠ _; omega)).trans u13
    have t14 : w14.cell? ⟨w7.heap.size, 0, none⟩ = some (.slice a7 n' c7) := (hb14.cell (by show w7.heap.size < _; omega) (by show w7.heap.size ≠ _; omega)).trans t13
    have p14 : w14.cell? ⟨w8.heap.size, 0, none⟩ = some (.slice a8 m c8) := (hb14.cell (by show w8.heap.size < _; omega) (by show w8.heap.size ≠ _; omega)).trans p13
    have HB14 : Hid (Below w.heap.size w w14) := HB13.out.trans (hb14.below HB13.out.size (by omega))
    have HO714 : Hid (OwnAt w14 b7' (.slice a7 n' c7) n' M) := HO713.out.but2 hb14 (fun _ => by omega)
    have HK14 : Hid (OwnAt w14 g3 (.slice a3 m c3) m (ndS L8)) := HK13.out.but2 hb14 (fun h => by have := HL3.out h; omega)
    have HG14 : Hid (OwnAt w14 g8 (.slice a8 m c8) m (ndS L8)) := HG13.out.but2 hb14 (fun h => by have := HGL.out h; omega)
    clear hb14 ho14 x13 y13 u13 v13 t13 p13 HO613 HO713 HK13 HG13
    go_wp2_with fail
    refine (markValue_any _ b7' n' M (1 + 5 * n) _ (by omega) (by omega) HO714.out).mono ?_
    rintro e w15 ⟨rfl, hb15, ho15⟩
    have z1415 := hb15.size
    have x15 : w15.cell? ⟨w.heap.size, 0, none⟩ = some (.slice a n c) := (hb15.cell (by show w.heap.size < _; omega) (by show w.heap.size ≠ _; omega)).trans x14
    have y15 : w15.cell? ⟨w.heap.size + 1, 0, none⟩ = some (.slice a' n' c') := (hb15.cell (by show w.heap.size + 1 < _; omega) (by show w.heap.size + 1 ≠ _; omega)).trans y14
    have u15 : w15.cell? ⟨b7, 0, none⟩ = some (.slice a3 m c3) := (hb15.cell (by show b7 < _; omega) (by show b7 ≠ _; omega)).trans u14
    have p15 : w15.cell? ⟨w8.heap.size, 0, none⟩ = some (.slice a8 m c8) := (hb15.cell (by show w8.heap.size < _; omega) (by show w8.heap.size ≠ _; omega)).trans p14
    have HB15 : Hid (Below w.heap.size w w15) := HB14.out.trans (hb15.below HB14.out.size (by omega))
    have HK15 : Hid (OwnAt w15 g3 (.slice a3 m c3) m (ndS L8)) := HK14.out.but2 hb15 (fun h => by have := HL3.out h; omega)
    have HG15 : Hid (OwnAt w15 g8 (.slice a8 m c8) m (ndS L8)) := HG14.out.but2 hb15 (fun h => by have := HGL.out h; omega)
    clear hb15 ho15 x14 y14 u14 t14 p14 HO714 HK14 HG14
    go_wp2_with fail
    refine (eqValue_any _ _ m (ndS L8) _ HG15.out.slice HK15.out.slice).mono ?_
    rintro e w16 ⟨rfl, hb16⟩
    have z1516 := hb16.size
    have x16 : w16.cell? ⟨w.heap.size, 0, none⟩ = some (.slice a n c) := (hb16.cell (by show w.heap.size < _; omega)).trans x15
    have y16 : w16.cell? ⟨w.heap.size + 1, 0, none⟩ = some (.slice a' n' c') := (hb16.cell (by show w.heap.size + 1 < _; omega)).trans y15
    have u16 : w16.cell? ⟨b7, 0, none⟩ = some (.slice a3 m c3) := (hb16.cell (by show b7 < _; omega)).trans u15
    have p16 : w16.cell? ⟨w8.heap.size, 0, none⟩ = some (.slice a8 m c8) := (hb16.cell (by show w8.heap.size < _; omega)).trans p15
    have HB16 : Hid (Below w.heap.size w w16) := HB15.out.trans (hb16.mono HB15.out.size)
    have HK16 : Hid (OwnAt w16 g3 (.slice a3 m c3) m (ndS L8)) := HK15.out.below hb16
    have HG16 : Hid (OwnAt w16 g8 (.slice a8 m c8) m (ndS L8)) := HG15.out.below hb16
    clear hb16 x15 y15 u15 p15 HK15 HG15
    go_wp2_with fail
    obtain ⟨g6, hg6, HG16'⟩ : ∃ g6, (w7.heap.size < g6 ∧ g6 ≠ w8.heap.size ∧ (m ≠ 0 → g6 = g8)) ∧ Hid (OwnAt w16 g6 (.slice a8 m c8) m (ndS L8)) := by
      by_cases hm0 : m = 0
      · refine ⟨w8.heap.size + 1, ⟨by omega, by omega, fun h => absurd hm0 h⟩, ?_⟩
        obtain ⟨a', c', off', e, hn', _⟩ := HG16.out
        exact ⟨a', c', off', e, hn', .inl hm0⟩
      · have := HGL.out hm0
        exact ⟨g8, ⟨by omega, by omega, fun _ => rfl⟩, HG16⟩
    clear HG16
    refine (markValue_any _ g6 m (ndS L8) 1 _ (by omega) (by omega) HG16'.out).mono ?_
    rintro e w17 ⟨rfl, hb17, ho17⟩
    have z1617 := hb17.size
    have x17 : w17.cell? ⟨w.heap.size, 0, none⟩ = some (.slice a n c) := (hb17.cell (by show w.heap.size < _; omega) (by show w.heap.size ≠ _; omega)).trans x16
    have y17 : w17.cell? ⟨w.heap.size + 1, 0, none⟩ = some (.slice a' n' c') := (hb17.cell (by show w.heap.size + 1 < _; omega) (by show w.heap.size + 1 ≠ _; omega)).trans y16
    have u17 : w17.cell? ⟨b7, 0, none⟩ = some (.slice a3 m c3) := (hb17.cell (by show b7 < _; omega) (by show b7 ≠ _; omega)).trans u16
    have p17 : w17.cell? ⟨w8.heap.size, 0, none⟩ = some (.slice a8 m c8) := (hb17.cell (by show w8.heap.size < _; omega) (by show w8.heap.size ≠ _; omega)).trans p16
    have HB17 : Hid (Below w.heap.size w w17) := HB16.out.trans (hb17.below HB16.out.size (by omega))
    have HK17 : Hid (OwnAt w17 g3 (.slice a3 m c3) m (ndS L8)) := HK16.out.but2 hb17 (fun h => by have := HL3.out h; omega)
    have HG17 : Hid (OwnAt w17 g6 (.slice a8 m c8) m (fun i => mk (1 + 5 * i))) := ho17
    clear hb17 ho17 x16 y16 u16 p16 HK16 HG16'
    go_wp2_with fail
    refine (heldValue_any _ g6 m 1 _ (by omega) (by omega) HG17.out).mono ?_
    rintro e w18 ⟨rfl, hb18⟩
    have z1718 := hb18.size
    have x18 : w18.cell? ⟨w.heap.size, 0, none⟩ = some (.slice a n c) := (hb18.cell (by show w.heap.size < _; omega)).trans x17
    have y18 : w18.cell? ⟨w.heap.size + 1, 0, none⟩ = some (.slice a' n' c') := (hb18.cell (by show w.heap.size + 1 < _; omega)).trans y17
    have u18 : w18.cell? ⟨b7, 0, none⟩ = some (.slice a3 m c3) := (hb18.cell (by show b7 < _; omega)).trans u17
    have p18 : w18.cell? ⟨w8.heap.size, 0, none⟩ = some (.slice a8 m c8) := (hb18.cell (by show w8.heap.size < _; omega)).trans p17
    have HB18 : Hid (Below w.heap.size w w18) := HB17.out.trans (hb18.mono HB17.out.size)
    have HK18 : Hid (OwnAt w18 g3 (.slice a3 m c3) m (ndS L8)) := HK17.out.below hb18
    have HG18 : Hid (OwnAt w18 g6 (.slice a8 m c8) m (fun i => mk (1 + 5 * i))) := HG17.out.below hb18
    clear hb18 x17 y17 u17 p17 HK17 HG17
    have z18 : w.heap.size + 1 < w18.heap.size := by omega
    have z18' : w.heap.size < w18.heap.size := by omega
    have z18b : b7 < w18.heap.size := by omega
    have z18p : w8.heap.size < w18.heap.size := by omega
    have HC1 : Hid (∀ W, Below w18.heap.size w18 W → _) := fun W hW => toValue_cap a c n N W n20 (H.out.below (HB18.out.trans (hW.mono HB18.out.size)))
    have HC2 : Hid (∀ W, Below w18.heap.size w18 W → _) := fun W hW => toValue_cap a' c' n' M W n20' (H'.out.below (HB18.out.trans (hW.mono HB18.out.size)))
    have HC3 : Hid (∀ (W : World) (b3 : Nat) (a3 : Option Addr) (c3 b4 : Nat) (a4 : Option Addr) (c4 : Nat), n ≤ c3 → Below w18.heap.size w18 W → OwnAt W b3 (.slice a3 n c3) n N → OwnAt W b4 (.slice a4 n' c4) n' M → Calls Tryz.prog 11 #[.agg #[.slice a3 n c3], .string s, .agg #[.slice a4 n' c4]] W (StIs N n M n' s W)) := fun W b3 a3 c3 b4 a4 c4 hc hW h3 h4 => implSet_own b3 n a3 c3 N s b4 n' a4 c4 M W h3 HSM.out h4 HSM'.out (HTB.out.up (HB18.out.trans (hW.mono HB18.out.size))) hc (HML.out.below (HB18.out.trans (hW.mono HB18.out.size)))
    have HSK : Hid (∀ w', Below w18.heap.size w18 w' → (w'.cell? ⟨w.heap.size, 0, none⟩ = some (.slice a n c) ∧ w'.cell? ⟨w.heap.size + 1, 0, none⟩ = some (.slice a' n' c'))) := fun w' hb => ⟨(hb.cell (by show w.heap.size < _; omega)).trans x18, (hb.cell (by show w.heap.size + 1 < _; omega)).trans y18⟩
    have HS2 : Hid (w18.cell? ⟨w.heap.size, 0, none⟩ = some (.slice a n c) ∧ w18.cell? ⟨w.heap.size + 1, 0, none⟩ = some (.slice a' n' c')) := ⟨x18, y18⟩
    have HBd : Hid (Below w18.heap.size w18 w18.drew) := (Below.refl _ _).drew
    have HBa : Hid (Below w18.heap.size w18 ((w18.alloc (.cells #[.slice none 0 0] 28)).drew)) := ((Below.refl _ _).alloc (Nat.le_refl _) _).drew
    have HBb : Hid (Below w18.heap.size w18 (w18.alloc (.cells #[.slice none 0 0] 28))) := (Below.refl _ _).alloc (Nat.le_refl _) _
    have HFa : Hid (OneAt ((w18.alloc (.cells #[.slice none 0 0] 28)).drew) w18.heap.size (.slice none 0 0)) := oneAt_new w18 (.slice none 0 0) 28
    go_upto_region 10 with fail
    go_cut [17, 18] (fun p q wx => ∃ (b7 : Nat) (u7 : Value) (q7 : Bool) (g7 : Nat) (L7 : List Nd), p = .pointer (some ⟨b7, 0, none⟩) ∧ q = .bool q7 ∧ Hid (CutV N n M n' s w18 wx b7 u7 q7 g7 L7))
    case first =>
      go_region_held3 (fun w' => w'.cell? ⟨w.heap.size, 0, none⟩ = some (.slice a n c) ∧ w'.cell? ⟨w.heap.size + 1, 0, none⟩ = some (.slice a' n' c')) (first | (with_reducible exact HS6) | (with_reducible exact HS5) | (with_reducible exact HS4) | (with_reducible exact HS3) | (with_reducible exact HSK.out _ (hB5.alloc hB5.size _)) | (with_reducible exact HSK.out _ (hB4.alloc hB4.size _)) | (with_reducible exact HSK.out _ (hB3.alloc hB3.size _)) | (with_reducible exact HSK.out _ HBa.out) | (with_reducible exact HSK.out _ HBd.out) | (with_reducible exact HS2.out) | (with_reducible exact HSK.out _ HBb.out) | fail)
        (first | (go_at_call 10; go_fit (HC1.out w18.drew HBd.out); rintro e v3 ⟨b3, a3, c3, rfl, cc3, _, _, ho3, hb3⟩; have hB3 : Below w18.heap.size w18 v3 := HBd.out.trans hb3; have zz3 : w18.heap.size ≤ v3.heap.size := hB3.size; have HS3 := HSK.out v3 hB3; have HO3 : Hid (OwnAt v3 b3 (.slice a3 n c3) n N) := ho3; clear ho3 hb3) | (go_at_call 10; go_fit (HC1.out ((w18.alloc (.cells #[.slice none 0 0] 28)).drew) HBa.out); rintro e v3 ⟨b3, a3, c3, rfl, cc3, _, _, ho3, hb3⟩; have hB3 : Below w18.heap.size w18 v3 := HBa.out.trans (hb3.mono (by show _ ≤ (w18.alloc _).heap.size; simp)); have zz3 : w18.heap.size + 1 ≤ v3.heap.size := (by have := hb3.size; change (w18.alloc _).heap.size ≤ _ at this; rw [World.size_alloc] at this; exact this); have HS3 := HSK.out v3 hB3; have HO3 : Hid (OwnAt v3 b3 (.slice a3 n c3) n N) := ho3; have HZ3 : Hid (OneAt v3 w18.heap.size (.slice none 0 0)) := HFa.out.below hb3 (by show _ < (w18.alloc _).heap.size; simp); clear ho3 hb3) | (go_at_call 10; go_fit (HC2.out v3 hB3); rintro e v4 ⟨b4, a4, c4, rfl, cc4, _, _, ho4, hb4⟩; have HZ4 : Hid (OneAt v4 w18.heap.size (.slice none 0 0)) := HZ3.out.below hb4 (by omega); have hB4 : Below w18.heap.size w18 v4 := hB3.trans (hb4.mono hB3.size); have zz4 : w18.heap.size + 1 ≤ v4.heap.size := Nat.le_trans zz3 hb4.size; have HS4 := HSK.out v4 hB4; have HO34 : Hid (OwnAt v4 b3 (.slice a3 n c3) n N) := HO3.out.below hb4; have HO4 : Hid (OwnAt v4 b4 (.slice a4 n' c4) n' M) := ho4; clear ho4 hb4) | (go_at_call 10; go_fit (HC2.out v3 hB3); rintro e v4 ⟨b4, a4, c4, rfl, cc4, _, _, ho4, hb4⟩; have hB4 : Below w18.heap.size w18 v4 := hB3.trans (hb4.mono hB3.size); have zz4 : w18.heap.size ≤ v4.heap.size := hB4.size; have HS4 := HSK.out v4 hB4; have HO34 : Hid (OwnAt v4 b3 (.slice a3 n c3) n N) := HO3.out.below hb4; have HO4 : Hid (OwnAt v4 b4 (.slice a4 n' c4) n' M) := ho4; clear ho4 hb4) | (go_at_call 10; go_fit (HC2.out (v3.alloc (.cells #[.slice none 0 0] 28)) (hB3.alloc hB3.size _)); rintro e v4 ⟨b4, a4, c4, rfl, cc4, _, _, ho4, hb4⟩; have HY4 : Hid (OneAt v4 v3.heap.size (.slice none 0 0)) := (oneAt_new v3 (.slice none 0 0) 28).below hb4 (by simp); have hB4 : Below w18.heap.size w18 v4 := (hB3.alloc hB3.size _).trans (hb4.mono (by simp; omega)); have zz4 : v3.heap.size + 1 ≤ v4.heap.size := (by have := hb4.size; rw [World.size_alloc] at this; exact this); have HS4 := HSK.out v4 hB4; have HO34 : Hid (OwnAt v4 b3 (.slice a3 n c3) n N) := (HO3.out.below ((Below.refl _ _).alloc (Nat.le_refl _) _)).below hb4; have HO4 : Hid (OwnAt v4 b4 (.slice a4 n' c4) n' M) := ho4; clear ho4 hb4) | (go_at_call 11; go_fit (HC3.out v4 b3 a3 c3 b4 a4 c4 cc3 hB4 HO34.out HO4.out); rintro e v5 ⟨u5, q5, g5, L5, rfl, hq5, hg5, ho5, hl5, hb5⟩; have hB5 : Below w18.heap.size w18 v5 := hB4.trans (hb5.mono hB4.size); have HS5 := HSK.out v5 hB5; have HZ5 : Hid (OneAt v5 w18.heap.size (.slice none 0 0)) := HZ4.out.below hb5 (by omega); have HGG : Hid (CutV N n M n' s w18 (v5.setCell ⟨w18.heap.size, 0, none⟩ u5) w18.heap.size u5 q5 g5 L5) := cutV_set hB5 (Nat.le_refl _) HZ5.out hq5 (fun h => ⟨by have := hg5 h; omega, (hg5 h).2⟩) ho5 hl5; have HS6 := HSK.out _ HGG.out.2.2.1; obtain ⟨la5, lc5, rfl⟩ := ho5.form; obtain ⟨q0, g0⟩ := HZ5.out; clear hq5 hg5 ho5 hl5 hb5) | (go_at_call 11; go_fit (HC3.out v4 b3 a3 c3 b4 a4 c4 cc3 hB4 HO34.out HO4.out); rintro e v5 ⟨u5, q5, g5, L5, rfl, hq5, hg5, ho5, hl5, hb5⟩; have hB5 : Below w18.heap.size w18 v5 := hB4.trans (hb5.mono hB4.size); have HS5 := HSK.out v5 hB5; have HZ5 : Hid (OneAt v5 v3.heap.size (.slice none 0 0)) := HY4.out.below hb5 (by omega); have HGG : Hid (CutV N n M n' s w18 (v5.setCell ⟨v3.heap.size, 0, none⟩ u5) v3.heap.size u5 q5 g5 L5) := cutV_set hB5 zz3 HZ5.out hq5 (fun h => ⟨by have := hg5 h; omega, (hg5 h).2⟩) ho5 hl5; have HS6 := HSK.out _ HGG.out.2.2.1; obtain ⟨la5, lc5, rfl⟩ := ho5.form; obtain ⟨q0, g0⟩ := HZ5.out; clear hq5 hg5 ho5 hl5 hb5) | (go_at_call 11; go_fit (HC3.out v4 b3 a3 c3 b4 a4 c4 cc3 hB4 HO34.out HO4.out); rintro e v5 ⟨u5, q5, g5, L5, rfl, hq5, hg5, ho5, hl5, hb5⟩; have hB5 : Below w18.heap.size w18 v5 := hB4.trans (hb5.mono hB4.size); have HS5 := HSK.out v5 hB5; have HGG : Hid (CutV N n M n' s w18 (v5.alloc (.cells #[u5] 28)) v5.heap.size u5 q5 g5 L5) := cutV_new hB5 hq5 (fun h => (hg5 h).2) ho5 hl5 _; obtain ⟨la5, lc5, rfl⟩ := ho5.form; clear hq5 hg5 ho5 hl5 hb5) | (go_at_call 11; go_fit (HC3.out (v4.alloc (.cells #[.slice none 0 0] 28)) b3 a3 c3 b4 a4 c4 cc3 (hB4.alloc hB4.size _) (HO34.out.below ((Below.refl _ _).alloc (Nat.le_refl _) _)) (HO4.out.below ((Below.refl _ _).alloc (Nat.le_refl _) _))); rintro e v5 ⟨u5, q5, g5, L5, rfl, hq5, hg5, ho5, hl5, hb5⟩; have hB5 : Below w18.heap.size w18 v5 := (hB4.alloc hB4.size _).trans (hb5.mono (by simp; omega)); have HS5 := HSK.out v5 hB5; have HZ5 : Hid (OneAt v5 v4.heap.size (.slice none 0 0)) := (oneAt_new v4 (.slice none 0 0) 28).below hb5 (by simp); have HGG : Hid (CutV N n M n' s w18 (v5.setCell ⟨v4.heap.size, 0, none⟩ u5) v4.heap.size u5 q5 g5 L5) := cutV_set hB5 zz4 HZ5.out hq5 (fun h => ⟨by have := (hg5 h).1; rw [World.size_alloc] at this; omega, (hg5 h).2⟩) ho5 hl5; have HS6 := HSK.out _ HGG.out.2.2.1; obtain ⟨la5, lc5, rfl⟩ := ho5.form; obtain ⟨q0, g0⟩ := HZ5.out; clear hq5 hg5 ho5 hl5 hb5))
      all_goals
        clear HS3 HS4 HS5
        go_wp2_with fail
        go_meet
        case rel => exact ⟨_, _, _, _, _, rfl, rfl, HGG⟩
    case rest =>
      obtain ⟨b19, u19', q', g19, L19, rfl, rfl, HGG⟩ := hcut
      obtain ⟨⟨⟨s19, _⟩, hq19⟩, hb19, hB19, hg19, ho19, _⟩ := HGG.out
      obtain ⟨rfl, rfl⟩ : q' = q8 ∧ L19 = L8 := hq19.same HQ.out
      obtain ⟨a19, c19, rfl⟩ := ho19.form
      rw [← HM.out] at ho19 s19
      have z1819 := hB19.size
      have u19 : wc.cell? ⟨b7, 0, none⟩ = some (.slice a3 m c3) := (hB19.cell z18b).trans u18
      have p19 : wc.cell? ⟨w8.heap.size, 0, none⟩ = some (.slice a8 m c8) := (hB19.cell z18p).trans p18
      have HB19 : Hid (Below w.heap.size w wc) := HB18.out.trans (hB19.mono HB18.out.size)
      have HK19 : Hid (OwnAt wc g3 (.slice a3 m c3) m (ndS L19)) := HK18.out.below hB19
      have HG19 : Hid (OwnAt wc g6 (.slice a8 m c8) m (fun i => mk (1 + 5 * i))) := HG18.out.below hB19
      have HH19 : Hid (OwnAt wc g19 (.slice a19 m c19) m (ndS L19)) := ho19
      clear HGG hq19 hB19 hg19 ho19 HC1 HC2 HC3 HSK HS2 HBd HBa HBb HFa x18 y18 u18 p18 HK18 HG18
      go_wp2_with fail
      refine (eqValue_any _ _ m (ndS L19) _ HH19.out.slice HK19.out.slice).mono ?_
      rintro e w20 ⟨rfl, hb20⟩
      have z1920 := hb20.size
      have p20 : w20.cell? ⟨w8.heap.size, 0, none⟩ = some (.slice a8 m c8) := (hb20.cell (by show w8.heap.size < _; omega)).trans p19
      have HB20 : Hid (Below w.heap.size w w20) := HB19.out.trans (hb20.mono HB19.out.size)
      have HG20 : Hid (OwnAt w20 g6 (.slice a8 m c8) m (fun i => mk (1 + 5 * i))) := HG19.out.below hb20
      clear hb20 HK19 HG19 HH19 u19 p19 s19
      go_wp2_with fail
      refine (heldValue_any _ g6 m 1 _ (by omega) (by omega) HG20.out).mono ?_
      rintro e w21 ⟨rfl, hb21⟩
      have HB21 : Hid (Below w.heap.size w w21) := HB20.out.trans (hb21.mono HB20.out.size)
      clear hb21 HG20
      go_wp2
      go_ret
      exact ⟨rfl, HB21.out⟩

end Go.Proofs.YtadlflgflnlhjaaGreatDoor
