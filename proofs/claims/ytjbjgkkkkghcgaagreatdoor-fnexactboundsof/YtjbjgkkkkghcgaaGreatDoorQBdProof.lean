/- The bounds of a clause by the program. The bounds of a clause by the program. The bounds of any clause by the program. The bounds of a term by the specification. The bounds of a term by the specification: terms that stand alone. The bounds that a filter sets for a path: what both BoundsOf answer. FnExactBoundsOf answers true at every filter and path: BoundsOf answers as the specification and writes into nothing. FnExactBoundsOf: for every filter and every text the law answers true and its arguments read as they did; the library's tables are tied to its text by the card. No other condition. -/
import Derived.Test.YtjbjgkkkkghcgaaGreatDoorQBdM
import Derived.Test.YtjbjgkkkkghcgaaGreatDoorQKeyOwn0
import Derived.Test.YtjbjgkkkkghcgaaGreatDoorQClAs
import Derived.Test.YtjbjgkkkkghcgaaGreatDoorQPlN
import Derived.Laws.StructEq
import Derived.Deep.RegionHeld3
import Derived.Deep.DeepFit
import Derived.Test.YtjbjgkkkkghcgaaGreatDoorQIn
import Derived.Test.YtjbjgkkkkghcgaaGreatDoorQFilS
import Derived.Test.YtjbjgkkkkghcgaaGreatDoorQFilToA
import Derived.Test.YtjbjgkkkkghcgaaGreatDoorQKeyMarks
namespace Go.Proofs.YtjbjgkkkkghcgaaGreatDoor
open Go.RowKit
set_option linter.unusedVariables false

set_option maxRecDepth 100000 in
set_option maxHeartbeats 1000000 in
theorem above_any (s : ByteArray) (w : World) (hs : s.size ≤ 1000) :
    Calls Tryz.prog 50 #[.string s] w fun e w' => e = .returned (.string (abv s s.size)) ∧ Below w.heap.size w w' := by
  have hm : s.size ≤ maxLen := by unfold maxLen; omega
  go_enter Tryz.func50, Tryz.ntmps50
  go_wp2_with fail
  refine (implAbove_any s w hm).mono ?_
  rintro e w1 ⟨rfl, hb⟩
  rw [if_pos hs]
  have HB : Hid (Below w.heap.size w w1) := hb
  clear hb
  go_wp2
  go_ret
  exact ⟨rfl, HB.out⟩

set_option maxRecDepth 100000 in
set_option maxHeartbeats 1000000 in
theorem goodKeyed_any (a : Option Addr) (c n : Nat) (N : Nat → Nd) (w : World) (h : ArgIs w a n N) (hs : SmallN n N) (htab : Tab w.heap.size w) :
    Calls Tryz.prog 48 #[.agg #[.slice a n c]] w (BoolIs (GoodV N n ∧ FlatK (N 0).kind) w) := by
  have H : Hid (ArgIs w a n N) := h
  have HS : Hid (SmallN n N) := hs
  have HT : Hid (Tab w.heap.size w) := htab
  have hal : ∀ o, Below w.heap.size w (w.alloc o) := fun o => (Below.refl _ _).alloc (Nat.le_refl _) o
  clear h hs htab
  go_enter Tryz.func48, Tryz.ntmps48
  go_wp2_with fail
  refine (implGood_arg a c n N _ (H.out.below (hal _)) HS.out (HT.out.up (hal _))).mono ?_
  rintro e w1 ⟨q, rfl, hq, hb⟩
  have x1 : w1.cell? ⟨w.heap.size, 0, none⟩ = some (.slice a n c) := by rw [hb.cell (by simp)]; simp [go_sem]
  have HB : Hid (Below w.heap.size w w1) := (hal _).trans (hb.mono (by simp))
  clear hb hal
  cases q with
  | false =>
    have HN : Hid (¬ (GoodV N n ∧ FlatK (N 0).kind)) := fun h => by simpa using hq.2 h.1
    clear hq
    go_wp2
    go_ret
    exact ⟨false, rfl, by simp [HN.out], HB.out⟩
  | true =>
    have hg := hq.1 rfl
    have HG : Hid (GoodV N n) := hg
    have n0 : 0 < n := hg.1.1
    obtain ⟨b, off, rfl, hb, hat⟩ : ∃ b off, a = some ⟨b, off, none⟩ ∧ b < w1.heap.size ∧ NodesAt w1 b off n N := by
      rcases H.out.below HB.out with h0 | h0
      · omega
      · exact h0
    have c0 := (hat 0 n0).1
    have i1 : (0 : Int) < (n : Int) := by omega
    obtain ⟨kd, hkd⟩ : ∃ kd, kd = (N 0).kind := ⟨_, rfl⟩
    rw [← hkd] at c0
    simp only [Nat.zero_mul, Nat.add_zero] at c0
    have HK : Hid (kd = (N 0).kind) := hkd
    clear hq hg hat hkd
    go_wp2_with fail
    refine (isKeyed_any kd _).mono ?_
    rintro e w2 ⟨q2, rfl, hq2, hb2⟩
    have HQ : Hid (q2 = true ↔ GoodV N n ∧ FlatK (N 0).kind) := by
      show _ ↔ _
      rw [hq2, HK.out]
      exact ⟨fun h => ⟨HG.out, h⟩, fun h => h.2⟩
    have HB2 : Hid (Below w.heap.size w w2) := HB.out.trans (hb2.mono HB.out.size)
    clear hq2 hb2
    go_wp2
    go_ret
    exact ⟨q2, rfl, HQ.out, HB2.out⟩

/-- A bound as the program has it. -/
def bdV (b : ByteArray × ByteArray) : Value := .agg #[.int .i64 0, .string b.1, .string b.2]


theorem text_cases (x : ByteArray) : x = ⟨#[]⟩ ∨ (x ≠ ⟨#[]⟩ ∧ x.toList.isEmpty = false ∧ ¬ x.toList = []) := by
  by_cases h : x = ⟨#[]⟩
  · exact .inl h
  · refine .inr ⟨h, ?_, ?_⟩
    · cases hh : x.toList.isEmpty with
      | false => rfl
      | true => exact absurd (empty_is x hh) h
    · intro hh
      exact h (empty_is x (by rw [hh]; rfl))
theorem both_left {b : ByteArray × ByteArray} : bothB (⟨#[]⟩, ⟨#[]⟩) b = b := if_pos rfl
theorem both_right {a : ByteArray × ByteArray} (h : a.1 ≠ ⟨#[]⟩ ∨ a.2 ≠ ⟨#[]⟩) : bothB a (⟨#[]⟩, ⟨#[]⟩) = a := by
  unfold bothB
  rw [if_neg (fun e => by rw [e] at h; exact h.elim (fun h => h rfl) (fun h => h rfl)), if_pos (show ((⟨#[]⟩, ⟨#[]⟩) : ByteArray × ByteArray) = noB from rfl)]
theorem both_two {a b : ByteArray × ByteArray} (h : a.1 ≠ ⟨#[]⟩ ∨ a.2 ≠ ⟨#[]⟩) (k : b.1 ≠ ⟨#[]⟩ ∨ b.2 ≠ ⟨#[]⟩) : bothB a b = (Lib.maxS a.1 b.1, Lib.minS a.2 b.2) := by
  unfold bothB
  rw [if_neg (fun e => by rw [e] at h; exact h.elim (fun h => h rfl) (fun h => h rfl)), if_neg (fun e => by rw [e] at k; exact k.elim (fun h => h rfl) (fun h => h rfl))]

set_option maxRecDepth 100000 in
set_option maxHeartbeats 1000000 in
theorem bothBounds_any (a1 a2 b1 b2 : ByteArray) (w : World) :
    Calls Tryz.prog 51 #[.agg #[.int .i64 0, .string a1, .string a2], .agg #[.int .i64 0, .string b1, .string b2]] w fun e w' => e = .returned (bdV (bothB (a1, a2) (b1, b2))) ∧ Below w.heap.size w w' := by
  have hmx := fun (w : World) (ts : Array TypeId) (t : TypeId) (x y : ByteArray) => Lib.run_max_strs (P := Tryz.prog) w ts t x y
  have hmn := fun (w : World) (ts : Array TypeId) (t : TypeId) (x y : ByteArray) => Lib.run_min_strs (P := Tryz.prog) w ts t x y
  rcases text_cases a1 with rfl | ⟨n1, e1, f1⟩ <;> rcases text_cases a2 with rfl | ⟨n2, e2, f2⟩
  · rw [both_left]
    go_enter Tryz.func51, Tryz.ntmps51
    go_wp2
    exact bodyPost_ret (v := .agg #[.int .i64 0, .string b1, .string b2]) (by simp [results, Tryz.results51, go_sem]) rfl ⟨rfl, by go_grown⟩
  all_goals
    rcases text_cases b1 with rfl | ⟨m1, g1, h1⟩ <;> rcases text_cases b2 with rfl | ⟨m2, g2, h2⟩
    · first | rw [both_right (.inl n1)] | rw [both_right (.inr n2)]
      go_enter Tryz.func51, Tryz.ntmps51
      go_wp2
      exact bodyPost_ret (v := .agg #[.int .i64 0, .string _, .string _]) (by simp [results, Tryz.results51, go_sem]) rfl ⟨rfl, by go_grown⟩
    all_goals
      first | rw [both_two (.inl n1) (.inl m1)] | rw [both_two (.inr n2) (.inl m1)] | rw [both_two (.inl n1) (.inr m2)] | rw [both_two (.inr n2) (.inr m2)]
      go_enter Tryz.func51, Tryz.ntmps51
      go_wp2
      exact bodyPost_ret (v := .agg #[.int .i64 0, .string _, .string _]) (by simp [results, Tryz.results51, go_sem]) rfl ⟨rfl, by go_grown⟩

end Go.Proofs.YtjbjgkkkkghcgaaGreatDoor
namespace Go.Proofs.YtjbjgkkkkghcgaaGreatDoor
open Go.RowKit
set_option linter.unusedVariables false

set_option maxRecDepth 100000 in
set_option maxHeartbeats 2000000 in
theorem boundOfTerm_any (x : Tm) (cc : Tc) (p : ByteArray) (w : World) (hx : TermC w cc x) (hL : LeafOK x) (htab : Tab w.heap.size w) (hmk : Marks w) :
    Calls Tryz.prog 34 #[.agg #[.int .i64 cc.kind, .string cc.path, .slice cc.va cc.vn cc.vc, .slice cc.ka cc.km cc.kc], .string p] w fun e w' => e = .returned (bdV (leafB p x)) ∧ Below w.heap.size w w' := by
  obtain ⟨⟨e0, e1, e2, e3, hva, _⟩, hcp⟩ := hx
  have hsm := leaf_smallB hL
  have hgd : x.kind = 1 ∨ x.kind = 2 ∨ x.kind = 3 → GoodV x.N x.n := fun h => leaf_goodB hL h
  obtain ⟨X, hX⟩ : ∃ X, X = leafB p x := ⟨_, rfl⟩
  have HN : Hid (¬ (x.path = p ∧ (x.kind = 1 ∨ x.kind = 2 ∨ x.kind = 3) ∧ FlatK (x.N 0).kind) → X = noB) := fun h => by rw [hX]; exact leafB_no h
  have HY : Hid ((x.path = p ∧ (x.kind = 1 ∨ x.kind = 2 ∨ x.kind = 3) ∧ FlatK (x.N 0).kind) → X = if x.kind = 1 then (keyB x, abv (keyB x) (keyB x).size) else if x.kind = 2 then (markB x, keyB x) else (keyB x, abv (markB x) (markB x).size)) := fun h => by rw [hX]; exact leafB_yes h
  have HKL : Hid (GoodV x.N x.n → FlatK (x.N 0).kind → (keyB x).size ≤ 40) := fun h hf => keyB_len h.1.1 hf (by have := (content_bounds (h.1.2.2 0 h.1.1).1).2.2; exact this)
  rw [← hX]
  clear hX hL
  obtain ⟨kd0, p0, va, vn, vc, ka, km, kc⟩ := cc
  obtain ⟨kd, q, m, N, u, K⟩ := x
  dsimp only at e0 e1 e2 e3 hva hcp hsm hgd HN HY HKL ⊢
  subst e0 e1 e2 e3
  obtain ⟨X1, X2⟩ := X
  have HV : Hid (ArgIs w va vn N) := hva
  have HSM : Hid (SmallN vn N) := hsm.1
  have HK3 : Hid (GoodV N vn ∧ FlatK (N 0).kind → kd0 = 1 ∨ kd0 = 2 ∨ kd0 = 3) := hsm.2
  have HGD : Hid (kd0 = 1 ∨ kd0 = 2 ∨ kd0 = 3 → GoodV N vn) := hgd
  have HT : Hid (Tab w.heap.size w) := htab
  have HMK : Hid (Marks w) := hmk
  unfold bdV
  dsimp only
  clear hva hsm hgd htab hmk
  by_cases hp : p0 = p
  · subst hp
    go_enter Tryz.func34, Tryz.ntmps34
    go_wp2_with fail
    have al : ∀ o o', Below w.heap.size w ((w.alloc o).alloc o') := fun o o' => ((Below.refl _ _).alloc (Nat.le_refl _) o).alloc (by simp) o'
    refine (goodKeyed_any va vc vn N _ (HV.out.below (al _ _)) HSM.out (HT.out.up (al _ _))).mono ?_
    rintro e w1 ⟨q, rfl, hq, hb1⟩
    have x0 : w1.cell? ⟨w.heap.size, 0, none⟩ = some (.int .i64 kd0) := by rw [hb1.cell (by simp; omega)]; simp [go_sem]
    have x2 : w1.cell? ⟨w.heap.size, 2, none⟩ = some (.slice va vn vc) := by rw [hb1.cell (by simp; omega)]; simp [go_sem]
    have r0 : w1.cell? ⟨w.heap.size + 1, 0, none⟩ = some (.int .i64 0) := by rw [hb1.cell (by simp)]; simp [go_sem]
    have r1 : w1.cell? ⟨w.heap.size + 1, 1, none⟩ = some (.string ⟨#[]⟩) := by rw [hb1.cell (by simp)]; simp [go_sem]
    have r2 : w1.cell? ⟨w.heap.size + 1, 2, none⟩ = some (.string ⟨#[]⟩) := by rw [hb1.cell (by simp)]; simp [go_sem]
    have s0 : w1.frozen? ⟨w.heap.size + 1, 0, none⟩ = false := by rw [hb1.frozen (by simp)]; simp [go_sem]
    have s1 : w1.frozen? ⟨w.heap.size + 1, 1, none⟩ = false := by rw [hb1.frozen (by simp)]; simp [go_sem]
    have s2 : w1.frozen? ⟨w.heap.size + 1, 2, none⟩ = false := by rw [hb1.frozen (by simp)]; simp [go_sem]
    have HB1 : Hid (Below w.heap.size w w1) := (al _ _).trans (hb1.mono (by simp; omega))
    have z1 : w.heap.size + 1 < w1.heap.size := World.block_lt_of_cell? _ _ r0
    have z1' : w.heap.size < w1.heap.size := by omega
    clear hb1 al
    cases q with
    | false =>
      obtain ⟨rfl, rfl⟩ : X1 = ⟨#[]⟩ ∧ X2 = ⟨#[]⟩ := by
        have := HN.out (fun h => by have := hq.2 ⟨HGD.out h.2.1, h.2.2⟩; simp at this)
        injection this with h1 h2
        exact ⟨h1, h2⟩
      clear hq
      go_wp2
      exact bodyPost_ret (v := .agg #[.int .i64 0, .string ⟨#[]⟩, .string ⟨#[]⟩]) (by simp [results, Tryz.results34, go_sem, r0, r1, r2]) rfl ⟨rfl, by first | exact HB1.out | exact ((HB1.out.setCell (by simp) _).setCell (by simp) _).setCell (by simp) _⟩
    | true =>
      have hgf := hq.1 rfl
      have HG : Hid (GoodV N vn) := hgf.1
      have n0 : 0 < vn := hgf.1.1.1
      have n80 : vn ≤ 80 := hgf.1.1.2.1
      have hk3 := HK3.out hgf
      obtain ⟨ky, hky⟩ : ∃ ky, ky = strL (tree N vn 0).key := ⟨_, rfl⟩
      obtain ⟨mk, hmk⟩ : ∃ mk, mk = strL [kindB (N 0).kind] := ⟨_, rfl⟩
      have HXE : Hid ((X1, X2) = if kd0 = 1 then (ky, abv ky ky.size) else if kd0 = 2 then (mk, ky) else (ky, abv mk mk.size)) := by
        have := HY.out ⟨trivial, hk3, hgf.2⟩
        rw [hky, hmk]
        exact this
      have HKZ : Hid (ky.size ≤ 1000 ∧ mk.size ≤ 1000) := by
        have h1 := HKL.out hgf.1 hgf.2
        have h2 : (strL [kindB (N 0).kind]).size = 1 := rfl
        refine ⟨?_, by rw [hmk, h2]; decide⟩
        rw [hky]
        exact Nat.le_trans h1 (by decide)
      obtain ⟨b, off, rfl, hb, hat⟩ : ∃ b off, va = some ⟨b, off, none⟩ ∧ b < w1.heap.size ∧ NodesAt w1 b off vn N := by
        rcases HV.out.below HB1.out with h0 | h0
        · omega
        · exact h0
      have HAT : Hid (NodesAt w1 b off vn N) := hat
      have HTOK : Hid (TOK N vn) := good_tok hgf.1
      obtain ⟨kn, hkn⟩ : ∃ kn : Nat, (N 0).kind = (kn : Int) ∧ 1 ≤ kn ∧ kn ≤ 7 := by
        rcases hgf.2 with h | h
        · exact ⟨4, h, by decide, by decide⟩
        · exact ⟨5, h, by decide, by decide⟩
      have HKN : Hid (∀ W, Below w1.heap.size w1 W → W.cell? ⟨b, off, none⟩ = some (.int .i64 (kn : Int)) ∧ W.cell? ⟨0, kn, none⟩ = some (.string mk)) := fun W hW => by
        have c0 := (hat 0 n0).1
        simp only [Nat.zero_mul, Nat.add_zero] at c0
        have hm := (HMK.out.below HB1.out).below hW
        refine ⟨(hW.cell hb).trans (by rw [c0, hkn.1]), ?_⟩
        rw [hm.2 kn hkn.2.1 hkn.2.2, hmk, hkn.1]
      have i1 : (0 : Int) < (vn : Int) := by omega
      have k1 : (1 : Int) ≤ (kn : Int) := by omega
      have k7 : (kn : Int) ≤ 7 := by omega
      have k0 : (0 : Int) ≤ (kn : Int) := by omega
      have k8 : (kn : Int) < 8 := by omega
      have HKY : Hid (ky = strL (tree N vn 0).key) := hky
      clear hq hat hky hmk hkn HY HN HK3 HGD HKL
      go_wp2_with fail
      refine (keyOfNodes_any b off vc vn N _ n80 n0 hb HAT.out HTOK.out (HMK.out.below HB1.out)).mono ?_
      rintro e w2 ⟨rfl, hb2⟩
      rw [← HKY.out]
      obtain ⟨c0, m0⟩ := HKN.out w2 hb2
      replace x0 := (hb2.cell z1').trans x0
      replace x2 := (hb2.cell z1').trans x2
      replace r0 := (hb2.cell z1).trans r0
      replace r1 := (hb2.cell z1).trans r1
      replace r2 := (hb2.cell z1).trans r2
      replace s0 := (hb2.frozen z1).trans s0
      replace s1 := (hb2.frozen z1).trans s1
      replace s2 := (hb2.frozen z1).trans s2
      have z2 := Nat.lt_of_lt_of_le z1 hb2.size
      have HB2 : Hid (Below w.heap.size w w2) := HB1.out.trans (hb2.mono HB1.out.size)
      clear hb2 HKN HAT HTOK HKY hgf
      rcases hk3 with rfl | rfl | rfl
      · obtain ⟨rfl, rfl⟩ : X1 = ky ∧ X2 = abv ky ky.size := by
          have := HXE.out
          rw [if_pos rfl] at this
          injection this with h1 h2
          exact ⟨h1, h2⟩
        go_wp2_with fail
        refine (above_any X1 w2 HKZ.out.1).mono ?_
        rintro e w3 ⟨rfl, hb3⟩
        replace r0 := (hb3.cell z2).trans r0
        replace r1 := (hb3.cell z2).trans r1
        replace r2 := (hb3.cell z2).trans r2
        replace s0 := (hb3.frozen z2).trans s0
        replace s1 := (hb3.frozen z2).trans s1
        replace s2 := (hb3.frozen z2).trans s2
        have HB3 : Hid (Below w.heap.size w w3) := HB2.out.trans (hb3.mono HB2.out.size)
        clear hb3 x0 x2 c0 m0
        go_wp2
        exact bodyPost_ret (v := .agg #[.int .i64 0, .string X1, .string (abv X1 X1.size)]) (by simp [results, Tryz.results34, go_sem, r0, r1, r2]) rfl ⟨rfl, ((HB3.out.setCell (by simp) _).setCell (by simp) _).setCell (by simp) _⟩
      · obtain ⟨rfl, rfl⟩ : X1 = mk ∧ X2 = ky := by
          have := HXE.out
          rw [if_neg (by decide), if_pos rfl] at this
          injection this with h1 h2
          exact ⟨h1, h2⟩
        go_wp2
        exact bodyPost_ret (v := .agg #[.int .i64 0, .string X1, .string X2]) (by simp [results, Tryz.results34, go_sem, r0, r1, r2]) rfl ⟨rfl, ((HB2.out.setCell (by simp) _).setCell (by simp) _).setCell (by simp) _⟩
      · obtain ⟨rfl, rfl⟩ : X1 = ky ∧ X2 = abv mk mk.size := by
          have := HXE.out
          rw [if_neg (by decide), if_neg (by decide)] at this
          injection this with h1 h2
          exact ⟨h1, h2⟩
        go_wp2_with fail
        refine (above_any mk w2 HKZ.out.2).mono ?_
        rintro e w3 ⟨rfl, hb3⟩
        replace r0 := (hb3.cell z2).trans r0
        replace r1 := (hb3.cell z2).trans r1
        replace r2 := (hb3.cell z2).trans r2
        replace s0 := (hb3.frozen z2).trans s0
        replace s1 := (hb3.frozen z2).trans s1
        replace s2 := (hb3.frozen z2).trans s2
        have HB3 : Hid (Below w.heap.size w w3) := HB2.out.trans (hb3.mono HB2.out.size)
        clear hb3 x0 x2 c0 m0
        go_wp2
        exact bodyPost_ret (v := .agg #[.int .i64 0, .string X1, .string (abv mk mk.size)]) (by simp [results, Tryz.results34, go_sem, r0, r1, r2]) rfl ⟨rfl, ((HB3.out.setCell (by simp) _).setCell (by simp) _).setCell (by simp) _⟩
  · obtain ⟨rfl, rfl⟩ : X1 = ⟨#[]⟩ ∧ X2 = ⟨#[]⟩ := by
      have := HN.out (fun h => hp h.1)
      injection this with h1 h2
      exact ⟨h1, h2⟩
    have hne : (p0.toList == p.toList) = false := by
      cases h : (p0.toList == p.toList) with
      | false => rfl
      | true => exact absurd (text_eq h) hp
    go_enter Tryz.func34, Tryz.ntmps34
    go_wp2
    exact bodyPost_ret (v := .agg #[.int .i64 0, .string ⟨#[]⟩, .string ⟨#[]⟩]) (by simp [results, Tryz.results34, go_sem]) rfl ⟨rfl, by go_grown⟩

end Go.Proofs.YtjbjgkkkkghcgaaGreatDoor
namespace Go.Proofs.YtjbjgkkkkghcgaaGreatDoor
open Go.RowKit
set_option linter.unusedVariables false

/-- What boundOf answers of a clause. -/
def BoSaid (w0 : World) (p : ByteArray) (C : Cl) : Prop := ∀ (X : ByteArray × ByteArray) (w : World) (S : Nat → Prop) (T : TypeId) (y : Value), X = C.bd p → Below w0.heap.size w0 w → ClIs w0 w S C (.iface T y) →
    Calls Tryz.prog 16 #[.iface T y, .string p] w fun e w' => e = .returned (.agg #[.int .i64 0, .string X.1, .string X.2]) ∧ Below w.heap.size w w'

set_option maxRecDepth 100000 in
set_option maxHeartbeats 2000000 in
theorem boundOf_leaf (w0 : World) (p : ByteArray) (ht : Tab w0.heap.size w0) (hm : Marks w0) (x : Tm) (hL : LeafOK x) : BoSaid w0 p (.leaf x) := by
  intro X w S T y hX hw h
  rw [ClIs] at h
  obtain ⟨cc, e, hc⟩ := h
  injection e with e1 e2
  subst e1 e2
  have HC : Hid (∀ W, Below w.heap.size w W → Calls Tryz.prog 34 #[.agg #[.int .i64 cc.kind, .string cc.path, .slice cc.va cc.vn cc.vc, .slice cc.ka cc.km cc.kc], .string p] W fun e w' => e = .returned (.agg #[.int .i64 0, .string X.1, .string X.2]) ∧ Below W.heap.size W w') := fun W hW => by
    have hB := hw.trans (hW.mono hw.size)
    rw [hX, Cl.bd]
    exact boundOfTerm_any x cc p W ⟨hc.1.below hB, hc.2⟩ hL (ht.up hB) (hm.below hB)
  obtain ⟨kd, q, va, vn, vc, ka, km, kc⟩ := cc
  obtain ⟨X1, X2⟩ := X
  dsimp only at HC ⊢
  clear hc hX hw ht hm
  have a0 := as_alone_alone
  have al : ∀ o o', Below w.heap.size w ((w.alloc o).alloc o') := fun o o' => ((Below.refl _ _).alloc (Nat.le_refl _) o).alloc (by simp) o'
  go_enter Tryz.func16, Tryz.ntmps16
  go_wp2_with fail
  refine (HC.out _ (al _ _)).mono ?_
  rintro e w1 ⟨rfl, hb1⟩
  have r0 : w1.cell? ⟨w.heap.size, 0, none⟩ = some (.int .i64 0) := by rw [hb1.cell (by simp; omega)]; simp [go_sem]
  have r1 : w1.cell? ⟨w.heap.size, 1, none⟩ = some (.string ⟨#[]⟩) := by rw [hb1.cell (by simp; omega)]; simp [go_sem]
  have r2 : w1.cell? ⟨w.heap.size, 2, none⟩ = some (.string ⟨#[]⟩) := by rw [hb1.cell (by simp; omega)]; simp [go_sem]
  have s0 : w1.frozen? ⟨w.heap.size, 0, none⟩ = false := by rw [hb1.frozen (by simp; omega)]; simp [go_sem]
  have s1 : w1.frozen? ⟨w.heap.size, 1, none⟩ = false := by rw [hb1.frozen (by simp; omega)]; simp [go_sem]
  have s2 : w1.frozen? ⟨w.heap.size, 2, none⟩ = false := by rw [hb1.frozen (by simp; omega)]; simp [go_sem]
  have HB1 : Hid (Below w.heap.size w w1) := (al _ _).trans (hb1.mono (by simp; omega))
  clear hb1 al
  go_wp2
  exact bodyPost_ret (v := .agg #[.int .i64 0, .string X1, .string X2]) (by simp [results, Tryz.results16, go_sem, r0, r1, r2]) rfl ⟨rfl, ((HB1.out.setCell (by simp) _).setCell (by simp) _).setCell (by simp) _⟩

set_option maxRecDepth 100000 in
set_option maxHeartbeats 2000000 in
theorem boundOf_any' (w0 : World) (p : ByteArray) (l : List Cl) : BoSaid w0 p (.any l) := by
  intro X w S T y hX hw h
  rw [ClIs] at h
  obtain ⟨a, c, e, _⟩ := h
  injection e with e1 e2
  subst e1 e2
  rw [Cl.bd] at hX
  subst hX
  have a0 := as_anyOf_alone
  have a1 := as_anyOf_allOf
  go_enter Tryz.func16, Tryz.ntmps16
  go_wp2
  exact bodyPost_ret (v := .agg #[.int .i64 0, .string ⟨#[]⟩, .string ⟨#[]⟩]) (by simp [results, Tryz.results16, go_sem]) rfl ⟨rfl, by go_grown⟩

set_option maxRecDepth 100000 in
set_option maxHeartbeats 2000000 in
theorem boundOf_neg (w0 : World) (p : ByteArray) (C : Cl) : BoSaid w0 p (.neg C) := by
  intro X w S T y hX hw h
  rw [ClIs] at h
  obtain ⟨u, e, hu⟩ := h
  injection e with e1 e2
  subst e1 e2
  rw [Cl.bd] at hX
  subst hX
  obtain ⟨T', y', rfl⟩ := hu.form
  have a0 := as_notOf_alone
  have a1 := as_notOf_allOf
  clear hu
  go_enter Tryz.func16, Tryz.ntmps16
  go_wp2
  exact bodyPost_ret (v := .agg #[.int .i64 0, .string ⟨#[]⟩, .string ⟨#[]⟩]) (by simp [results, Tryz.results16, go_sem]) rfl ⟨rfl, by go_grown⟩

set_option maxRecDepth 100000 in
set_option maxHeartbeats 4000000 in
theorem boundOfAll_any (w0 : World) (p : ByteArray) (l : List Cl) (hl : l.length ≤ 2 ^ 21) (ih : ∀ C ∈ l, BoSaid w0 p C) (X : ByteArray × ByteArray) (hX : X = Cl.bds p l noB) (w : World) (S : Nat → Prop) (a : Option Addr) (c : Nat) (hw : Below w0.heap.size w0 w) (hS : l = [] ∨ ∃ g, a = some ⟨g, 0, none⟩ ∧ S g ∧ g < w.heap.size ∧ ClsAt w0 w S l g 0) :
    Calls Tryz.prog 35 #[.slice a l.length c, .string p] w fun e w' => e = .returned (.agg #[.int .i64 0, .string X.1, .string X.2]) ∧ Below w.heap.size w w' := by
  have HI : Hid (∀ C ∈ l, BoSaid w0 p C) := ih
  have HS : Hid (l = [] ∨ ∃ g, a = some ⟨g, 0, none⟩ ∧ S g ∧ g < w.heap.size ∧ ClsAt w0 w S l g 0) := hS
  have HW : Hid (Below w0.heap.size w0 w) := hw
  have zW := hw.size
  have HX : Hid (X = Cl.bds p l noB) := hX
  obtain ⟨X1, X2⟩ := X
  dsimp only
  obtain ⟨k, hk⟩ : ∃ k, k = l.length := ⟨_, rfl⟩
  have HK : Hid (k = l.length) := hk
  rw [← hk] at hl ⊢
  clear hS ih hw hX hk
  go_enter Tryz.func35, Tryz.ntmps35
  go_wp2_with fail
  go_loopw [10] (fun i wr => ∃ (j : Nat) (A1 A2 : ByteArray), j ≤ k ∧ i = .int .i64 (j : Int) ∧ Below w.heap.size w wr ∧ w.heap.size + 1 < wr.heap.size ∧ ((wr.cell? ⟨w.heap.size, 0, none⟩ = some (.int .i64 0) ∧ wr.cell? ⟨w.heap.size, 1, none⟩ = some (.string ⟨#[]⟩) ∧ wr.cell? ⟨w.heap.size, 2, none⟩ = some (.string ⟨#[]⟩)) ∧ wr.frozen? ⟨w.heap.size, 0, none⟩ = false ∧ wr.frozen? ⟨w.heap.size, 1, none⟩ = false ∧ wr.frozen? ⟨w.heap.size, 2, none⟩ = false) ∧ ((wr.cell? ⟨w.heap.size + 1, 0, none⟩ = some (.int .i64 0) ∧ wr.cell? ⟨w.heap.size + 1, 1, none⟩ = some (.string A1) ∧ wr.cell? ⟨w.heap.size + 1, 2, none⟩ = some (.string A2)) ∧ wr.frozen? ⟨w.heap.size + 1, 0, none⟩ = false ∧ wr.frozen? ⟨w.heap.size + 1, 1, none⟩ = false ∧ wr.frozen? ⟨w.heap.size + 1, 2, none⟩ = false) ∧ Hid ((A1, A2) = Cl.bds p (l.take j) noB)) (fun i _ => k - (intOf i).toNat)
  case atStart => exact ⟨0, ⟨#[]⟩, ⟨#[]⟩, Nat.zero_le _, rfl, ((Below.refl _ _).alloc (Nat.le_refl _) _).alloc (by simp) _, by simp, by simp [go_sem], by simp [go_sem], by rw [List.take_zero, Cl.bds]; rfl⟩
  case round =>
    rename World => wr
    obtain ⟨j, A1, A2, hj, rfl, hnx, zv, ⟨⟨r0, r1, r2⟩, r3, r4, r5⟩, ⟨⟨c0, c1, c2⟩, c3, c4, c5⟩, HA⟩ := hrel
    have zr := hnx.size
    have zv' : w.heap.size < wr.heap.size := by omega
    by_cases hlt : j < k
    · have hjl : j < l.length := by have := HK.out; omega
      rcases HS.out with h0 | ⟨g0, rfl, hS0, hg0, hat⟩
      · rw [h0] at hjl; simp at hjl
      obtain ⟨C, hC⟩ : ∃ C, l[j]? = some C := ⟨_, List.getElem?_eq_getElem hjl⟩
      have hCm : C ∈ l := List.mem_of_getElem? hC
      obtain ⟨u, hu, hcl⟩ := (clsAt_iff.1 hat) j C hC
      rw [Nat.zero_add] at hu
      obtain ⟨T, y, rfl⟩ := hcl.form
      have d0 : wr.cell? ⟨g0, j, none⟩ = some (.iface T y) := (hnx.cell hg0).trans hu
      have hclr : ClIs w0 wr (fun b => S b ∧ b < w.heap.size) C (.iface T y) := ClIs.keep (fun b hb hlt' => hnx.block b hlt') (fun b hb hlt' => ⟨hb, hlt'⟩) zr _ _ hcl
      obtain ⟨⟨Y1, Y2⟩, hY⟩ : ∃ Y, Y = C.bd p := ⟨_, rfl⟩
      have HB0 : Hid (Below w0.heap.size w0 wr) := HW.out.trans (hnx.mono zW)
      have HNEW : Hid (bothB (A1, A2) (Y1, Y2) = Cl.bds p (l.take (j + 1)) noB) := by
        show _ = _
        have ht : l.take (j + 1) = l.take j ++ [C] := by rw [List.take_add_one, hC]; rfl
        rw [ht, bds_snoc, ← HA.out, hY]
      have HCALL : Hid (∀ W, Below wr.heap.size wr W → Calls Tryz.prog 16 #[.iface T y, .string p] W fun e w' => e = .returned (.agg #[.int .i64 0, .string Y1, .string Y2]) ∧ Below W.heap.size W w') := fun W hW =>
        HI.out C hCm (Y1, Y2) W _ T y hY (HB0.out.trans (hW.mono HB0.out.size)) (ClIs.keep (S' := fun b => S b ∧ b < w.heap.size) (fun b hb hlt' => hW.block b hlt') (fun b hb _ => hb) hW.size _ _ hclr)
      obtain ⟨⟨Z1, Z2⟩, hZ⟩ : ∃ Z, Z = bothB (A1, A2) (Y1, Y2) := ⟨_, rfl⟩
      have HBOTH : Hid (∀ W, Calls Tryz.prog 51 #[.agg #[.int .i64 0, .string A1, .string A2], .agg #[.int .i64 0, .string Y1, .string Y2]] W fun e w' => e = .returned (.agg #[.int .i64 0, .string Z1, .string Z2]) ∧ Below W.heap.size W w') := fun W => by
        have := bothBounds_any A1 A2 Y1 Y2 W
        rw [← hZ] at this
        exact this
      rw [← hZ] at HNEW
      have j0 : (0 : Int) ≤ (j : Int) := by omega
      have j1 : (j : Int) < (k : Int) := by omega
      have hgr : g0 < wr.heap.size := by omega
      have HNX : Hid (Below w.heap.size w wr) := hnx
      clear hat hu hcl hclr hC hY hZ hnx hCm
      go_wp2_with fail
      go_region_with (first | (go_at_call 16; go_fit (HCALL.out _ (Below.refl _ _).drew); rintro e w2 ⟨rfl, hb2⟩; have hz2 : w.heap.size + 1 < w2.heap.size := Nat.lt_of_lt_of_le zv hb2.size; have p0 := (hb2.cell (p := ⟨w.heap.size + 1, 0, none⟩) zv).trans c0; have p1 := (hb2.cell (p := ⟨w.heap.size + 1, 1, none⟩) zv).trans c1; have p2 := (hb2.cell (p := ⟨w.heap.size + 1, 2, none⟩) zv).trans c2; have p3 := (hb2.frozen (p := ⟨w.heap.size + 1, 0, none⟩) zv).trans c3; have p4 := (hb2.frozen (p := ⟨w.heap.size + 1, 1, none⟩) zv).trans c4; have p5 := (hb2.frozen (p := ⟨w.heap.size + 1, 2, none⟩) zv).trans c5) | (go_at_call 51; go_fit (HBOTH.out w2); rintro e w3 ⟨rfl, hb3⟩; have q0 := (hb3.cell (p := ⟨w.heap.size + 1, 0, none⟩) hz2).trans p0; have q1 := (hb3.cell (p := ⟨w.heap.size + 1, 1, none⟩) hz2).trans p1; have q2 := (hb3.cell (p := ⟨w.heap.size + 1, 2, none⟩) hz2).trans p2; have q3 := (hb3.frozen (p := ⟨w.heap.size + 1, 0, none⟩) hz2).trans p3; have q4 := (hb3.frozen (p := ⟨w.heap.size + 1, 1, none⟩) hz2).trans p4; have q5 := (hb3.frozen (p := ⟨w.heap.size + 1, 2, none⟩) hz2).trans p5))
      all_goals
        have HB3 : Hid (Below w.heap.size w w3) := (HNX.out.trans ((((Below.refl _ _).drew).trans hb2).mono zr)).trans (hb3.mono (Nat.le_trans zr hb2.size))
        have hz3 : w.heap.size + 1 < w3.heap.size := Nat.lt_of_lt_of_le hz2 hb3.size
        have R0 := (hb3.cell (p := ⟨w.heap.size, 0, none⟩) (by show w.heap.size < _; omega)).trans ((hb2.cell (p := ⟨w.heap.size, 0, none⟩) zv').trans r0)
        have R1 := (hb3.cell (p := ⟨w.heap.size, 1, none⟩) (by show w.heap.size < _; omega)).trans ((hb2.cell (p := ⟨w.heap.size, 1, none⟩) zv').trans r1)
        have R2 := (hb3.cell (p := ⟨w.heap.size, 2, none⟩) (by show w.heap.size < _; omega)).trans ((hb2.cell (p := ⟨w.heap.size, 2, none⟩) zv').trans r2)
        have R3 := (hb3.frozen (p := ⟨w.heap.size, 0, none⟩) (by show w.heap.size < _; omega)).trans ((hb2.frozen (p := ⟨w.heap.size, 0, none⟩) zv').trans r3)
        have R4 := (hb3.frozen (p := ⟨w.heap.size, 1, none⟩) (by show w.heap.size < _; omega)).trans ((hb2.frozen (p := ⟨w.heap.size, 1, none⟩) zv').trans r4)
        have R5 := (hb3.frozen (p := ⟨w.heap.size, 2, none⟩) (by show w.heap.size < _; omega)).trans ((hb2.frozen (p := ⟨w.heap.size, 2, none⟩) zv').trans r5)
        clear hb2 hb3 p0 p1 p2 p3 p4 p5 r0 r1 r2 r3 r4 r5 c0 c1 c2 c3 c4 c5 d0
        go_wp2
        go_roundw
        case rel => exact ⟨j + 1, Z1, Z2, by omega, by go_num, ((HB3.out.setCell (by simp) _).setCell (by simp) _).setCell (by simp) _, by simpa using hz3, by simp [go_sem, R0, R1, R2, R3, R4, R5], by simp [go_sem, q0, q1, q2, q3, q4, q5], HNEW⟩
        case measure => simp [intOf]; omega
    · obtain rfl : j = k := by omega
      obtain ⟨rfl, rfl⟩ : X1 = A1 ∧ X2 = A2 := by
        have h1 := HX.out
        have h2 := HA.out
        rw [HK.out, List.take_length, ← h1] at h2
        injection h2 with h3 h4
        exact ⟨h3.symm, h4.symm⟩
      have HNX : Hid (Below w.heap.size w wr) := hnx
      clear hnx
      go_wp2
      exact bodyPost_ret (v := .agg #[.int .i64 0, .string X1, .string X2]) (by simp [results, Tryz.results35, go_sem, r0, r1, r2]) rfl ⟨rfl, ((HNX.out.setCell (by simp) _).setCell (by simp) _).setCell (by simp) _⟩

set_option maxRecDepth 100000 in
set_option maxHeartbeats 2000000 in
theorem boundOf_all (w0 : World) (p : ByteArray) (l : List Cl) (hl : l.length ≤ 2 ^ 21) (ih : ∀ C ∈ l, BoSaid w0 p C) : BoSaid w0 p (.all l) := by
  intro X w S T y hX hw h
  rw [ClIs] at h
  obtain ⟨a, c, e, hS⟩ := h
  injection e with e1 e2
  subst e1 e2
  rw [Cl.bd] at hX
  have HC : Hid (∀ W, Below w.heap.size w W → Calls Tryz.prog 35 #[.slice a l.length c, .string p] W fun e w' => e = .returned (.agg #[.int .i64 0, .string X.1, .string X.2]) ∧ Below W.heap.size W w') := fun W hW =>
    boundOfAll_any w0 p l hl ih X hX W S a c (hw.trans (hW.mono hw.size)) (by
      rcases hS with h | ⟨g, e, h1, h2, h3⟩
      · exact .inl h
      · exact .inr ⟨g, e, h1, Nat.lt_of_lt_of_le h2 hW.size, ClsAt.keep (fun b _ hl => hW.block b hl) (fun b hs _ => hs) hW.size l g 0 h1 h2 h3⟩)
  obtain ⟨X1, X2⟩ := X
  obtain ⟨k, hk⟩ : ∃ k, k = l.length := ⟨_, rfl⟩
  rw [← hk] at HC ⊢
  dsimp only at HC ⊢
  clear hX hw hS hk hl ih
  have a0 := as_allOf_alone
  have a1 := as_allOf_allOf
  have al : ∀ o o', Below w.heap.size w ((w.alloc o).alloc o') := fun o o' => ((Below.refl _ _).alloc (Nat.le_refl _) o).alloc (by simp) o'
  go_enter Tryz.func16, Tryz.ntmps16
  go_wp2_with fail
  refine (HC.out _ (al _ _)).mono ?_
  rintro e w1 ⟨rfl, hb1⟩
  have r0 : w1.cell? ⟨w.heap.size, 0, none⟩ = some (.int .i64 0) := by rw [hb1.cell (by simp; omega)]; simp [go_sem]
  have r1 : w1.cell? ⟨w.heap.size, 1, none⟩ = some (.string ⟨#[]⟩) := by rw [hb1.cell (by simp; omega)]; simp [go_sem]
  have r2 : w1.cell? ⟨w.heap.size, 2, none⟩ = some (.string ⟨#[]⟩) := by rw [hb1.cell (by simp; omega)]; simp [go_sem]
  have s0 : w1.frozen? ⟨w.heap.size, 0, none⟩ = false := by rw [hb1.frozen (by simp; omega)]; simp [go_sem]
  have s1 : w1.frozen? ⟨w.heap.size, 1, none⟩ = false := by rw [hb1.frozen (by simp; omega)]; simp [go_sem]
  have s2 : w1.frozen? ⟨w.heap.size, 2, none⟩ = false := by rw [hb1.frozen (by simp; omega)]; simp [go_sem]
  have HB1 : Hid (Below w.heap.size w w1) := (al _ _).trans (hb1.mono (by simp; omega))
  clear hb1 al
  go_wp2
  exact bodyPost_ret (v := .agg #[.int .i64 0, .string X1, .string X2]) (by simp [results, Tryz.results16, go_sem, r0, r1, r2]) rfl ⟨rfl, ((HB1.out.setCell (by simp) _).setCell (by simp) _).setCell (by simp) _⟩

theorem boundOf_every (w0 : World) (p : ByteArray) (ht : Tab w0.heap.size w0) (hm : Marks w0) : ∀ (s : Nat) (C : Cl), C.size ≤ s → C.size ≤ 2 ^ 20 → C.ok → BoSaid w0 p C := by
  intro s
  induction s with
  | zero => intro C h; have := Cl.size_one C; omega
  | succ s ih =>
    intro C hs h20 hok
    cases C with
    | leaf x => exact boundOf_leaf w0 p ht hm x hok
    | any l => exact boundOf_any' w0 p l
    | neg c => exact boundOf_neg w0 p c
    | all l =>
      simp only [Cl.size] at hs h20
      have hl := Cl.len_sizes l
      refine boundOf_all w0 p l (by omega) fun C hC => ?_
      have := Cl.size_in hC
      refine ih C (by omega) (by omega) ?_
      clear ih hs h20 hl this
      have hoks : Cl.oks l := hok
      induction l with
      | nil => simp at hC
      | cons d l ihl =>
        rcases List.mem_cons.1 hC with rfl | h
        · exact hoks.1
        · exact ihl hoks.2 h hoks.2
theorem boundOf_any (w0 : World) (p : ByteArray) (ht : Tab w0.heap.size w0) (hm : Marks w0) (C : Cl) (hok : C.ok) (h20 : C.size ≤ 2 ^ 20) (w : World) (S : Nat → Prop) (T : TypeId) (y : Value) (hw : Below w0.heap.size w0 w) (h : ClIs w0 w S C (.iface T y)) :
    Calls Tryz.prog 16 #[.iface T y, .string p] w fun e w' => e = .returned (.agg #[.int .i64 0, .string (C.bd p).1, .string (C.bd p).2]) ∧ Below w.heap.size w w' :=
  boundOf_every w0 p ht hm C.size C (Nat.le_refl _) h20 hok _ w S T y rfl hw h

end Go.Proofs.YtjbjgkkkkghcgaaGreatDoor
namespace Go.Proofs.YtjbjgkkkkghcgaaGreatDoor
open Go.RowKit
set_option linter.unusedVariables false

theorem step_none {a : ByteArray × ByteArray} {y : ByteArray} : stepB a (y, ⟨#[]⟩) = a := if_pos rfl
theorem step_some {a1 a2 y1 y2 : ByteArray} (h : y2 ≠ ⟨#[]⟩) : stepB (a1, a2) (y1, y2) = (if gtB y1 a1 = true then y1 else a1, if a2 = noT ∨ ltB y2 a2 = true then y2 else a2) := if_neg h

def LtSaid (w0 : World) (a : Option Addr) (c t : Nat) (F : Nat → Tm) (p : ByteArray) (k : Nat) : Prop := ∀ (x : ByteArray × ByteArray) (w : World), x = (clF F (k + 1) k).bd p → Below w0.heap.size w0 w →
    Calls Tryz.prog 12 #[.agg #[.slice a t c], .int .i64 k, .string p] w fun e w' => e = .returned (.tuple #[.string x.1, .string x.2]) ∧ Below w.heap.size w w'

set_option maxRecDepth 100000 in
set_option maxHeartbeats 4000000 in
theorem l9Term_all (w0 : World) (a : Option Addr) (c t : Nat) (F : Nat → Tm) (p : ByteArray) (hF : FArg w0 a t F) (hA : Ahead F t) (ht : t ≤ 2 ^ 20) (hok : ∀ k f, k < t → k < f → (clF F f k).ok) (k : Nat) (hk : k < t) (hkd : (F k).kind = 6) (ih : ∀ q, q < k → LtSaid w0 a c t F p q) : LtSaid w0 a c t F p k := by
  intro x w hx hw
  obtain ⟨b, off, va, vc, ka, kc, rfl, hb, a0, a1, a2, a3, hvl, hkk⟩ := hF.at hk
  have zW := hw.size
  obtain ⟨m, hm⟩ : ∃ m, m = (F k).m := ⟨_, rfl⟩
  have m20 : m ≤ 2 ^ 20 := by rw [hm]; exact hA.2.2 k hk
  have hxe : x = Cl.bds p (kidsC F k m) noB := by
    rw [hx, clF, if_pos hkd, hm, Cl.bd]
    rfl
  replace a0 := (hw.cell hb).trans a0
  replace a1 := (hw.cell hb).trans a1
  replace a2 := (hw.cell hb).trans a2
  replace a3 := (hw.cell hb).trans a3
  rw [hkd] at a0
  rw [← hm] at a3
  have i0 : (0 : Int) ≤ (k : Int) := by omega
  have i1 : (k : Int) < (t : Int) := by omega
  have hbw : b < w.heap.size := by omega
  have HKID : Hid (∀ j, j < m → ∃ q : Nat, (F k).K j = (q : Int) ∧ q < k ∧ (clF F (q + 1) q).ok ∧ kidsC F k (j + 1) = kidsC F k j ++ [clF F (q + 1) q]) := fun j hj => by
    obtain ⟨k0, k1⟩ := hA.1 k hk j (by omega)
    refine ⟨((F k).K j).toNat, by omega, by omega, hok _ _ (by omega) (by omega), ?_⟩
    rw [kidsC_succ, clF_same hA.1 hA.2.1 _ (by omega) k (((F k).K j).toNat + 1) (by omega) (by omega)]
  have HFN : Hid (∀ j, j ≤ m → FineB (Cl.bds p (kidsC F k j) noB)) := fun j hj => by
    have hkk : ∀ j, j ≤ m → Cl.oks (kidsC F k j) := fun j => by
      induction j with
      | zero => intro _; exact trivial
      | succ j ihj =>
        intro h
        obtain ⟨q, _, hqk, hqo, e⟩ := HKID.out j (by omega)
        rw [e]
        have h1 := ihj (by omega)
        revert h1
        generalize kidsC F k j = l
        induction l with
        | nil => intro _; exact ⟨hqo, trivial⟩
        | cons d l ihl => intro h; exact ⟨h.1, ihl h.2⟩
    exact Cl.bds_fine p _ noB (hkk j hj) noB_fine
  have HI : Hid (∀ q, q < k → ∀ W, Below w.heap.size w W → Calls Tryz.prog 12 #[.agg #[.slice (some ⟨b, off, none⟩) t c], .int .i64 q, .string p] W fun e w' => e = .returned (.tuple #[.string ((clF F (q + 1) q).bd p).1, .string ((clF F (q + 1) q).bd p).2]) ∧ Below W.heap.size W w') := fun q hqk W hW =>
    ih q hqk _ W rfl (hw.trans (hW.mono zW))
  have HKK : Hid (ArgI w ka m (F k).K) := by rw [hm]; exact hkk.below hw
  have HX : Hid (x = Cl.bds p (kidsC F k m) noB) := hxe
  clear hF hA ih hw hx hxe hm hvl hkk hkd hok
  go_enter Tryz.func12, Tryz.ntmps12
  go_wp2_with fail
  go_loopw [9, 10, 29] (fun vl vh i wr => ∃ (j : Nat) (A1 A2 : ByteArray), j ≤ m ∧ i = .int .i64 (j : Int) ∧ vl = .string A1 ∧ vh = .string A2 ∧ Below w.heap.size w wr ∧ w.heap.size < wr.heap.size ∧ wr.cell? ⟨w.heap.size, 0, none⟩ = some (.slice (some ⟨b, off, none⟩) t c) ∧ Hid ((A1, A2) = Cl.bds p (kidsC F k j) noB)) (fun _ _ i _ => m - (intOf i).toNat)
  case atStart => exact ⟨0, ⟨#[]⟩, ⟨#[]⟩, Nat.zero_le _, rfl, rfl, rfl, ((Below.refl _ _).alloc (Nat.le_refl _) _).alloc (by simp) _, by simp; omega, by simp [go_sem], rfl⟩
  case round =>
    rename World => x0
    obtain ⟨j, A1, A2, hj, rfl, rfl, rfl, hnx, zv, f0, HA⟩ := hrel
    have zr := hnx.size
    by_cases hlt : j < m
    · obtain ⟨q, hKq, hqk, hqo, hkc⟩ := HKID.out j hlt
      rcases HKK.out with h0 | ⟨b', off', rfl, hb', hat⟩
      · omega
      have d0 := (hnx.cell hb').trans (hat j hlt)
      rw [hKq] at d0
      have j0 : (0 : Int) ≤ (j : Int) := by omega
      have j1 : (j : Int) < (m : Int) := by omega
      have hbx : b' < x0.heap.size := by omega
      obtain ⟨⟨Y1, Y2⟩, hY⟩ : ∃ Y, Y = (clF F (q + 1) q).bd p := ⟨_, rfl⟩
      have HC : Hid (Calls Tryz.prog 12 #[.agg #[.slice (some ⟨b, off, none⟩) t c], .int .i64 q, .string p] x0 fun e w' => e = .returned (.tuple #[.string Y1, .string Y2]) ∧ Below x0.heap.size x0 w') := by
        have := HI.out q hqk x0 hnx
        rw [← hY] at this
        exact this
      have HST : Hid (stepB (A1, A2) (Y1, Y2) = Cl.bds p (kidsC F k (j + 1)) noB) := by
        show _ = _
        have h1 := HFN.out j (by omega)
        rw [← HA.out] at h1
        rw [step_is h1 (by rw [hY]; exact Cl.bd_fine p _ hqo), hkc, bds_snoc, ← HA.out, hY]
      have HNX : Hid (Below w.heap.size w x0) := hnx
      clear hat hnx hY hKq hqo hkc
      go_wp2_with fail
      refine (HC.out).mono ?_
      rintro e w2 ⟨rfl, hb2⟩
      have f2 := (hb2.cell zv).trans f0
      have HB2 : Hid (Below w.heap.size w w2) := HNX.out.trans (hb2.mono zr)
      have z2 : w.heap.size < w2.heap.size := Nat.lt_of_lt_of_le zv hb2.size
      clear hb2 f0 d0 HC
      rcases text_cases Y2 with rfl | ⟨n2, e2, g2⟩
      · have HE : Hid ((A1, A2) = Cl.bds p (kidsC F k (j + 1)) noB) := by
          have := HST.out
          rw [step_none] at this
          exact this
        go_wp2
        go_roundw
        case rel => exact ⟨j + 1, A1, A2, by omega, by go_num, rfl, rfl, HB2.out, z2, f2, HE⟩
        case measure => simp [intOf]; omega
      · rw [step_some n2] at HST
        cases hg : (!Op.bytesLess Y1.toList A1.toList && !Y1.toList == A1.toList) with
        | true =>
          rw [if_pos (show gtB Y1 A1 = true from hg)] at HST
          rcases text_cases A2 with rfl | ⟨k2, l2, h2⟩
          · rw [if_pos (show (⟨#[]⟩ : ByteArray) = noT ∨ ltB Y2 ⟨#[]⟩ = true from .inl rfl)] at HST
            go_wp2
            go_roundw
            case rel => exact ⟨j + 1, Y1, Y2, by omega, by go_num, rfl, rfl, HB2.out, z2, f2, HST⟩
            case measure => simp [intOf]; omega
          · cases hl : Op.bytesLess Y2.toList A2.toList with
            | true =>
              rw [if_pos (show A2 = noT ∨ ltB Y2 A2 = true from .inr hl)] at HST
              go_wp2
              go_roundw
              case rel => exact ⟨j + 1, Y1, Y2, by omega, by go_num, rfl, rfl, HB2.out, z2, f2, HST⟩
              case measure => simp [intOf]; omega
            | false =>
              rw [if_neg (show ¬ (A2 = noT ∨ ltB Y2 A2 = true) from fun h => h.elim k2 (fun h => by unfold ltB at h; rw [hl] at h; cases h))] at HST
              go_wp2
              go_roundw
              case rel => exact ⟨j + 1, Y1, A2, by omega, by go_num, rfl, rfl, HB2.out, z2, f2, HST⟩
              case measure => simp [intOf]; omega
        | false =>
          rw [if_neg (show ¬ gtB Y1 A1 = true from fun h => by unfold gtB at h; rw [hg] at h; cases h)] at HST
          rcases text_cases A2 with rfl | ⟨k2, l2, h2⟩
          · rw [if_pos (show (⟨#[]⟩ : ByteArray) = noT ∨ ltB Y2 ⟨#[]⟩ = true from .inl rfl)] at HST
            go_wp2
            go_roundw
            case rel => exact ⟨j + 1, A1, Y2, by omega, by go_num, rfl, rfl, HB2.out, z2, f2, HST⟩
            case measure => simp [intOf]; omega
          · cases hl : Op.bytesLess Y2.toList A2.toList with
            | true =>
              rw [if_pos (show A2 = noT ∨ ltB Y2 A2 = true from .inr hl)] at HST
              go_wp2
              go_roundw
              case rel => exact ⟨j + 1, A1, Y2, by omega, by go_num, rfl, rfl, HB2.out, z2, f2, HST⟩
              case measure => simp [intOf]; omega
            | false =>
              rw [if_neg (show ¬ (A2 = noT ∨ ltB Y2 A2 = true) from fun h => h.elim k2 (fun h => by unfold ltB at h; rw [hl] at h; cases h))] at HST
              go_wp2
              go_roundw
              case rel => exact ⟨j + 1, A1, A2, by omega, by go_num, rfl, rfl, HB2.out, z2, f2, HST⟩
              case measure => simp [intOf]; omega
    · obtain rfl : j = m := by omega
      have hxx := HX.out.trans HA.out.symm
      have HNX : Hid (Below w.heap.size w x0) := hnx
      subst hxx
      clear hnx
      go_wp2
      exact bodyPost_ret (v := .tuple #[.string A1, .string A2]) (by simp [results, Tryz.results12, go_sem]) rfl ⟨rfl, HNX.out⟩

end Go.Proofs.YtjbjgkkkkghcgaaGreatDoor
namespace Go.Proofs.YtjbjgkkkkghcgaaGreatDoor
open Go.RowKit
set_option linter.unusedVariables false

theorem bd_other {F : Nat → Tm} {k : Nat} {p : ByteArray} (h6 : (F k).kind ≠ 6) (h3 : ¬ (1 ≤ (F k).kind ∧ (F k).kind ≤ 3)) : (clF F (k + 1) k).bd p = noB := by
  rw [clF, if_neg h6]
  split
  · rw [Cl.bd]
  · split
    · rw [Cl.bd]
    · rw [Cl.bd]
      exact leafB_no (fun h => h3 (by omega))
theorem bd_leaf {F : Nat → Tm} {k : Nat} {p : ByteArray} (h3 : 1 ≤ (F k).kind ∧ (F k).kind ≤ 3) : (clF F (k + 1) k).bd p = leafB p (F k) := by
  rw [clF, if_neg (by omega), if_neg (by omega), if_neg (by omega), Cl.bd]

set_option maxRecDepth 100000 in
set_option maxHeartbeats 4000000 in
theorem l9Term_other (w0 : World) (a : Option Addr) (c t : Nat) (F : Nat → Tm) (p : ByteArray) (hF : FArg w0 a t F) (ht : t ≤ 2 ^ 20) (k : Nat) (hk : k < t) (h6 : (F k).kind ≠ 6) (h3 : ¬ (1 ≤ (F k).kind ∧ (F k).kind ≤ 3)) : LtSaid w0 a c t F p k := by
  intro x w hx hw
  obtain ⟨b, off, va, vc, ka, kc, rfl, hb, a0, a1, a2, a3, hvl, hkk⟩ := hF.at hk
  rw [bd_other h6 h3] at hx
  subst hx
  replace a0 := (hw.cell hb).trans a0
  replace a1 := (hw.cell hb).trans a1
  replace a2 := (hw.cell hb).trans a2
  replace a3 := (hw.cell hb).trans a3
  have zW := hw.size
  have i0 : (0 : Int) ≤ (k : Int) := by omega
  have i1 : (k : Int) < (t : Int) := by omega
  have hbw : b < w.heap.size := by omega
  obtain ⟨kd, hkd'⟩ : ∃ kd, kd = (F k).kind := ⟨_, rfl⟩
  rw [← hkd'] at a0 h6 h3
  have k6 : (kd == 6) = false := by rw [beq_eq_false_iff_ne]; omega
  have HIN : Hid (∀ W, Calls Tryz.prog 21 #[.int .i64 kd, .int .i64 1, .int .i64 3] W fun e w' => e = .returned (.bool false) ∧ Below W.heap.size W w') := fun W => by
    have e : (decide ((1 : Int) ≤ kd) && decide (kd ≤ 3)) = false := by
      rw [← Bool.not_eq_true, Bool.and_eq_true, decide_eq_true_eq, decide_eq_true_eq]
      exact h3
    have := l1In_any kd 1 3 W
    rw [e] at this
    exact this
  have al : ∀ o o', Below w.heap.size w ((w.alloc o).alloc o') := fun o o' => ((Below.refl _ _).alloc (Nat.le_refl _) o).alloc (by simp) o'
  clear hvl hkk hkd' h6 h3 hF hw
  rcases Bool.eq_false_or_eq_true ((F k).path.toList == p.toList) with pe | pe
  · go_enter Tryz.func12, Tryz.ntmps12
    go_wp2_with fail
    refine (HIN.out _).mono ?_
    rintro e w1 ⟨rfl, hb1⟩
    have HB1 : Hid (Below w.heap.size w w1) := (al _ _).trans (hb1.mono (by simp; omega))
    clear hb1 al
    go_wp2
    exact bodyPost_ret (v := .tuple #[.string ⟨#[]⟩, .string ⟨#[]⟩]) (by simp [results, Tryz.results12, go_sem]) rfl ⟨rfl, HB1.out⟩
  · go_enter Tryz.func12, Tryz.ntmps12
    go_wp2
    exact bodyPost_ret (v := .tuple #[.string ⟨#[]⟩, .string ⟨#[]⟩]) (by simp [results, Tryz.results12, go_sem]) rfl ⟨rfl, by go_grown⟩

set_option maxRecDepth 100000 in
set_option maxHeartbeats 4000000 in
theorem l9Term_leaf (w0 : World) (a : Option Addr) (c t : Nat) (F : Nat → Tm) (p : ByteArray) (hF : FArg w0 a t F) (ht : t ≤ 2 ^ 20) (k : Nat) (hk : k < t) (h3 : 1 ≤ (F k).kind ∧ (F k).kind ≤ 3) (hg : GoodV (F k).N (F k).n) : LtSaid w0 a c t F p k := by
  intro x w hx hw
  obtain ⟨b, off, va, vc, ka, kc, rfl, hb, a0, a1, a2, a3, hvl, hkk⟩ := hF.at hk
  rw [bd_leaf h3] at hx
  have HN : Hid (¬ ((F k).path = p ∧ FlatK ((F k).N 0).kind) → x = noB) := fun h => by rw [hx]; exact leafB_no (fun hh => h ⟨hh.1, hh.2.2⟩)
  have HY : Hid (((F k).path = p ∧ FlatK ((F k).N 0).kind) → x = if (F k).kind = 1 then (keyB (F k), abv (keyB (F k)) (keyB (F k)).size) else if (F k).kind = 2 then (markB (F k), keyB (F k)) else (keyB (F k), abv (markB (F k)) (markB (F k)).size)) := fun h => by rw [hx]; exact leafB_yes ⟨h.1, by omega, h.2⟩
  have HKL : Hid (FlatK ((F k).N 0).kind → (keyB (F k)).size ≤ 40) := fun hf => keyB_len hg.1.1 hf (by have := (content_bounds (hg.1.2.2 0 hg.1.1).1).2.2; exact this)
  unfold keyB markB at HY
  unfold keyB at HKL
  replace a0 := (hw.cell hb).trans a0
  replace a1 := (hw.cell hb).trans a1
  replace a2 := (hw.cell hb).trans a2
  replace a3 := (hw.cell hb).trans a3
  have HVW : Hid (ArgIs w va (F k).n (F k).N) := hvl.below hw
  have zW := hw.size
  have i0 : (0 : Int) ≤ (k : Int) := by omega
  have i1 : (k : Int) < (t : Int) := by omega
  have hbw : b < w.heap.size := by omega
  have HG : Hid (GoodV (F k).N (F k).n) := hg
  clear hx hvl hkk hF hw hg
  generalize (F k).kind = kd at a0 h3 HY
  generalize (F k).path = q at a1 HN HY
  generalize (F k).n = n at a2 HY HKL HVW HG
  generalize (F k).N = N at HN HY HKL HVW HG
  generalize (F k).m = m at a3
  have n0 : 0 < n := HG.out.1.1
  have n80 : n ≤ 80 := HG.out.1.2.1
  have k6 : (kd == 6) = false := by rw [beq_eq_false_iff_ne]; omega
  have HIN : Hid (∀ W, Calls Tryz.prog 21 #[.int .i64 kd, .int .i64 1, .int .i64 3] W fun e w' => e = .returned (.bool true) ∧ Below W.heap.size W w') := fun W => by
    have e : (decide ((1 : Int) ≤ kd) && decide (kd ≤ 3)) = true := by
      rw [Bool.and_eq_true, decide_eq_true_eq, decide_eq_true_eq]
      exact h3
    have := l1In_any kd 1 3 W
    rw [e] at this
    exact this
  have al : ∀ o o', Below w.heap.size w ((w.alloc o).alloc o') := fun o o' => ((Below.refl _ _).alloc (Nat.le_refl _) o).alloc (by simp) o'
  obtain ⟨X1, X2⟩ := x
  dsimp only
  rcases Bool.eq_false_or_eq_true (q.toList == p.toList) with pe | pe
  · have hqp : q = p := text_eq pe
    subst hqp
    go_enter Tryz.func12, Tryz.ntmps12
    go_wp2_with fail
    obtain ⟨W, hW⟩ : ∃ W, W = (w.alloc (.cells #[.slice (some ⟨b, off, none⟩) t c] 30)).alloc (.cells #[.int .i64 kd, .string q, .slice va n vc, .slice ka m kc] 62) := ⟨_, rfl⟩
    have bW : Below w.heap.size w W := by rw [hW]; exact al _ _
    have t0 : W.cell? ⟨w.heap.size + 1, 0, none⟩ = some (.int .i64 kd) := by rw [hW]; simp [go_sem]
    have t2 : W.cell? ⟨w.heap.size + 1, 2, none⟩ = some (.slice va n vc) := by rw [hW]; simp [go_sem]
    rw [← hW]
    have zW1 : w.heap.size + 1 < W.heap.size := World.block_lt_of_cell? _ _ t0
    have HBW : Hid (Below w.heap.size w W) := bW
    clear hW bW a0 a1 a2 a3 al
    refine (HIN.out W).mono ?_
    rintro e w1 ⟨rfl, hb1⟩
    replace t0 := (hb1.cell zW1).trans t0
    replace t2 := (hb1.cell zW1).trans t2
    have z1 : w.heap.size + 1 < w1.heap.size := Nat.lt_of_lt_of_le zW1 hb1.size
    have HB1 : Hid (Below w.heap.size w w1) := HBW.out.trans (hb1.mono HBW.out.size)
    clear hb1 HBW zW1 HIN
    go_wp2_with fail
    refine (l1Tree_any N n n80 n 0 (by omega) n0 va vc w1 (HVW.out.below HB1.out)).mono ?_
    rintro e w2 ⟨ya, yc, ym, yka, ykc, ykm, rfl, hyt, hb2⟩
    replace t0 := (hb2.cell z1).trans t0
    have z2 : w.heap.size + 1 < w2.heap.size := Nat.lt_of_lt_of_le z1 hb2.size
    have HB2 : Hid (Below w.heap.size w w2) := HB1.out.trans (hb2.mono HB1.out.size)
    obtain ⟨yk, hyk⟩ : ∃ yk, yk = (N 0).kind := ⟨_, rfl⟩
    obtain ⟨yn, hyn⟩ : ∃ yn, yn = (N 0).num := ⟨_, rfl⟩
    obtain ⟨yt, hyt'⟩ : ∃ yt, yt = (N 0).text := ⟨_, rfl⟩
    rw [← hyk, ← hyn, ← hyt'] at hyt
    rw [← hyk, ← hyn, ← hyt']
    rw [← hyk] at HN HY HKL
    have HT2 : Hid (Tree w2 (tree N n 0) (.agg #[.int .i64 yk, .int .i64 yn, .string yt, .slice ya ym yc, .slice yka ykm ykc])) := hyt.any
    have HYK : Hid (yk = (N 0).kind) := hyk
    clear hyt hb2 hyn hyt' hyk t2
    go_wp2_with fail
    have al2 : ∀ o, Below w2.heap.size w2 (w2.alloc o) := fun o => (Below.refl _ _).alloc (Nat.le_refl _) o
    refine (l8Flat_any yk yn yt _ _ _).mono ?_
    rintro e w3 ⟨q3, rfl, hq3, hb3⟩
    have b23 : Below w2.heap.size w2 w3 := (al2 _).trans (hb3.mono (by simp))
    have v0 : w3.cell? ⟨w2.heap.size, 0, none⟩ = some (.int .i64 yk) := by rw [hb3.cell (by simp)]; simp [go_sem]
    have v1 : w3.cell? ⟨w2.heap.size, 1, none⟩ = some (.int .i64 yn) := by rw [hb3.cell (by simp)]; simp [go_sem]
    have v2 : w3.cell? ⟨w2.heap.size, 2, none⟩ = some (.string yt) := by rw [hb3.cell (by simp)]; simp [go_sem]
    have v3 : w3.cell? ⟨w2.heap.size, 3, none⟩ = some (.slice ya ym yc) := by rw [hb3.cell (by simp)]; simp [go_sem]
    have v4 : w3.cell? ⟨w2.heap.size, 4, none⟩ = some (.slice yka ykm ykc) := by rw [hb3.cell (by simp)]; simp [go_sem]
    have t03 : w3.cell? ⟨w.heap.size + 1, 0, none⟩ = some (.int .i64 kd) := (b23.cell z2).trans t0
    have z3 : w2.heap.size < w3.heap.size := World.block_lt_of_cell? _ _ v0
    have z3' : w.heap.size + 1 < w3.heap.size := by omega
    have HB3 : Hid (Below w.heap.size w w3) := HB2.out.trans (b23.mono HB2.out.size)
    have HT3 : Hid (Tree w3 (tree N n 0) (.agg #[.int .i64 yk, .int .i64 yn, .string yt, .slice ya ym yc, .slice yka ykm ykc])) := HT2.out.below b23
    clear hb3 b23 al2 t0 HT2
    cases q3 with
    | false =>
      obtain ⟨rfl, rfl⟩ : X1 = ⟨#[]⟩ ∧ X2 = ⟨#[]⟩ := by
        have := HN.out (fun h => by have := hq3.2 h.2; simp at this)
        injection this with h1 h2
        exact ⟨h1, h2⟩
      clear hq3
      go_wp2
      exact bodyPost_ret (v := .tuple #[.string ⟨#[]⟩, .string ⟨#[]⟩]) (by simp [results, Tryz.results12, go_sem]) rfl ⟨rfl, HB3.out⟩
    | true =>
      have hfl := hq3.1 rfl
      have HXE := HY.out ⟨trivial, hfl⟩
      have HKZ := HKL.out hfl
      have HFL : Hid (FlatK yk) := hfl
      have yk8 : 0 ≤ yk ∧ yk < 256 := by unfold FlatK at hfl; omega
      obtain ⟨yk0, yk1⟩ := yk8
      obtain ⟨ky, hky⟩ : ∃ ky, ky = strL (tree N n 0).key := ⟨_, rfl⟩
      obtain ⟨mk, hmk⟩ : ∃ mk, mk = strL [kindB yk] := ⟨_, rfl⟩
      rw [← hky, ← hmk] at HXE
      rw [← hky] at HKZ
      have HXH : Hid ((X1, X2) = if kd = 1 then (ky, abv ky ky.size) else if kd = 2 then (mk, ky) else (ky, abv mk mk.size)) := HXE
      have HKH : Hid (ky.size ≤ 1000 ∧ mk.size ≤ 1000) := ⟨Nat.le_trans HKZ (by decide), by rw [hmk]; show 1 ≤ 1000; decide⟩
      have HKC : Hid (∀ (W : World), Tree W (tree N n 0) (.agg #[.int .i64 yk, .int .i64 yn, .string yt, .slice ya ym yc, .slice yka ykm ykc]) → Calls Tryz.prog 27 #[.agg #[.int .i64 yk, .int .i64 yn, .string yt, .slice ya ym yc, .slice yka ykm ykc]] W fun e w' => e = .returned (.string ky) ∧ Below W.heap.size W w') := fun W hT => by
        rw [hky]
        exact l2Key_any (tree N n 0) _ W hT (tree_named N n n 0 rfl n0) (tree_sane (good_tok HG.out) n 0 rfl n0) (good_key_len HG.out) (by have := tree_cnt_le HG.out n0; omega)
      have HMK : Hid (mk = strL [kindB yk]) := hmk
      clear hq3 hfl HXE HKZ HY HKL HN hky hmk
      go_wp2_with fail
      refine (HKC.out w3 HT3.out).mono ?_
      rintro e w4 ⟨rfl, hb4⟩
      replace v0 := (hb4.cell z3).trans v0
      replace t03 := (hb4.cell z3').trans t03
      have HB4 : Hid (Below w.heap.size w w4) := HB3.out.trans (hb4.mono HB3.out.size)
      have z4 : w.heap.size + 1 < w4.heap.size := Nat.lt_of_lt_of_le z3' hb4.size
      clear hb4 v1 v2 v3 v4 HT3 HKC
      have hcv : ∀ W : World, (convert 73 9 (.slice (some ⟨W.heap.size, 0, none⟩) 1 1)).run Tryz.prog (W.alloc (.cells #[.int .u8 yk] 5)) = .ok (.string mk) (W.alloc (.cells #[.int .u8 yk] 5)) := fun W => by
        rw [HMK.out]
        exact conv_oneB W yk
      rcases (show kd = 1 ∨ kd = 2 ∨ kd = 3 by omega) with rfl | rfl | rfl
      · obtain ⟨rfl, rfl⟩ : X1 = ky ∧ X2 = abv ky ky.size := by
          have := HXH.out
          rw [if_pos rfl] at this
          injection this with h1 h2
          exact ⟨h1, h2⟩
        go_wp2_with fail
        have al4 : ∀ o, Below w4.heap.size w4 (w4.alloc o) := fun o => (Below.refl _ _).alloc (Nat.le_refl _) o
        refine (l2Above_any X1 _ HKH.out.1).mono ?_
        rintro e w5 ⟨rfl, hb5⟩
        have HB5 : Hid (Below w.heap.size w w5) := HB4.out.trans (((al4 _).trans (hb5.mono (by simp))).mono HB4.out.size)
        clear hb5 al4
        go_wp2
        exact bodyPost_ret (v := .tuple #[.string X1, .string (abv X1 X1.size)]) (by simp [results, Tryz.results12, go_sem]) rfl ⟨rfl, HB5.out⟩
      · obtain ⟨rfl, rfl⟩ : X1 = mk ∧ X2 = ky := by
          have := HXH.out
          rw [if_neg (by decide), if_pos rfl] at this
          injection this with h1 h2
          exact ⟨h1, h2⟩
        go_wp2
        exact bodyPost_ret (v := .tuple #[.string X1, .string X2]) (by simp [results, Tryz.results12, go_sem]) rfl ⟨rfl, HB4.out.trans ((Below.refl _ _).alloc HB4.out.size _)⟩
      · obtain ⟨rfl, rfl⟩ : X1 = ky ∧ X2 = abv mk mk.size := by
          have := HXH.out
          rw [if_neg (by decide), if_neg (by decide)] at this
          injection this with h1 h2
          exact ⟨h1, h2⟩
        go_wp2_with fail
        have al4 : ∀ o, Below w4.heap.size w4 (w4.alloc o) := fun o => (Below.refl _ _).alloc (Nat.le_refl _) o
        refine (l2Above_any mk _ HKH.out.2).mono ?_
        rintro e w5 ⟨rfl, hb5⟩
        have HB5 : Hid (Below w.heap.size w w5) := HB4.out.trans (((al4 _).trans (hb5.mono (by simp))).mono HB4.out.size)
        clear hb5 al4
        go_wp2
        exact bodyPost_ret (v := .tuple #[.string X1, .string (abv mk mk.size)]) (by simp [results, Tryz.results12, go_sem]) rfl ⟨rfl, HB5.out⟩
  · obtain ⟨rfl, rfl⟩ : X1 = ⟨#[]⟩ ∧ X2 = ⟨#[]⟩ := by
      have := HN.out (fun h => by rw [h.1] at pe; simp at pe)
      injection this with h1 h2
      exact ⟨h1, h2⟩
    go_enter Tryz.func12, Tryz.ntmps12
    go_wp2
    exact bodyPost_ret (v := .tuple #[.string ⟨#[]⟩, .string ⟨#[]⟩]) (by simp [results, Tryz.results12, go_sem]) rfl ⟨rfl, by go_grown⟩

theorem l9Term_any (w0 : World) (a : Option Addr) (c t : Nat) (F : Nat → Tm) (p : ByteArray) (hF : FArg w0 a t F) (hGF : GoodF F t) (hS : SmallF t F) : ∀ k, k < t → LtSaid w0 a c t F p k := by
  have ht : t ≤ 2 ^ 20 := by have := hGF.1; omega
  have hA := good_ahead hGF hS
  intro k
  induction k using Nat.strongRecOn with
  | ind k ih =>
    intro hk
    by_cases h6 : (F k).kind = 6
    · exact l9Term_all w0 a c t F p hF hA ht (fun k f h1 h2 => clF_ok hGF f k h2 h1) k hk h6 fun q hq => ih q hq (by omega)
    · by_cases h3 : 1 ≤ (F k).kind ∧ (F k).kind ≤ 3
      · exact l9Term_leaf w0 a c t F p hF ht k hk h3 (leaf_goodB (leaf_of hGF hk (by omega) (by omega) (by omega)) (by omega))
      · exact l9Term_other w0 a c t F p hF ht k hk h6 h3

end Go.Proofs.YtjbjgkkkkghcgaaGreatDoor
namespace Go.Proofs.YtjbjgkkkkghcgaaGreatDoor
open Go.RowKit
set_option linter.unusedVariables false

/-- WHAT BoundsOf ANSWERS. -/
def BdTold (F : Nat → Tm) (t : Nat) (p x y : ByteArray) (q : Bool) : Prop := (q = true ∧ (GoodF F t ∧ PathIs p) ∧ (x, y) = (clF F t (t - 1)).bd p) ∨ (q = false ∧ ¬ (GoodF F t ∧ PathIs p) ∧ (x, y) = noB)
theorem BdTold.same {F : Nat → Tm} {t : Nat} {p x y x' y' : ByteArray} {q q' : Bool} (h : BdTold F t p x y q) (k : BdTold F t p x' y' q') : x = x' ∧ y = y' ∧ q = q' := by
  rcases h with ⟨rfl, h1, e⟩ | ⟨rfl, h1, e⟩ <;> rcases k with ⟨rfl, h2, e'⟩ | ⟨rfl, h2, e'⟩
  · rw [← e'] at e; injection e with e1 e2; exact ⟨e1, e2, rfl⟩
  · exact absurd h1 h2
  · exact absurd h2 h1
  · rw [← e'] at e; injection e with e1 e2; exact ⟨e1, e2, rfl⟩
def BdIs (F : Nat → Tm) (t : Nat) (p : ByteArray) (w : World) (e : Ending) (w' : World) : Prop := ∃ x y q, e = .returned (.tuple #[.string x, .string y, .bool q]) ∧ BdTold F t p x y q ∧ Below w.heap.size w w'

set_option maxRecDepth 100000 in
set_option maxHeartbeats 4000000 in
theorem specBounds_any (a : Option Addr) (c t : Nat) (F : Nat → Tm) (p : ByteArray) (w : World) (hF : FArg w a t F) (hs : SmallF t F) (hp : p.size ≤ 2 ^ 20) :
    Calls Tryz.prog 5 #[.agg #[.slice a t c], .string p] w (BdIs F t p w) := by
  have H : Hid (FArg w a t F) := hF
  have HS : Hid (SmallF t F) := hs
  have t20 := hs.1
  have s1 : p.data.toList.length ≤ 2 ^ 20 := hp
  clear hF hs
  go_enter Tryz.func5, Tryz.ntmps5
  go_wp2_with fail
  have al : ∀ o, Below w.heap.size w (w.alloc o) := fun o => (Below.refl _ _).alloc (Nat.le_refl _) o
  refine (show Calls Tryz.prog 10 #[.string p] _ (NamesIs p.data.toList _) from l3Path_any p.data.toList _ s1).mono ?_
  rintro e w1 ⟨vv, g, rfl, hg1, hos, hb1⟩
  have f0 : w1.cell? ⟨w.heap.size, 0, none⟩ = some (.slice a t c) := by rw [hb1.cell (by simp)]; simp [go_sem]
  have HB1 : Hid (Below w.heap.size w w1) := (al _).trans (hb1.mono (by simp))
  obtain ⟨pa, pc, rfl⟩ : ∃ pa pc, vv = .slice pa (namesN p.data.toList) pc := by
    obtain ⟨pa, pc, e, _⟩ := hos
    exact ⟨pa, pc, e⟩
  obtain ⟨g, hg⟩ : ∃ g, g = (namesL p.data.toList).isSome := ⟨_, rfl⟩
  rw [← hg]
  have HP : Hid (g = true ↔ PathIs p) := by rw [hg]; exact Iff.rfl
  clear hb1 hos hg1 hg al
  go_wp2_with fail
  refine (specGoodF_any a c t F w1 (H.out.below HB1.out) HS.out).mono ?_
  rintro e w2 ⟨q, rfl, hq, hb2⟩
  have z01 : w.heap.size < w1.heap.size := World.block_lt_of_cell? _ _ f0
  have f2 := (hb2.cell z01).trans f0
  have HB2 : Hid (Below w.heap.size w w2) := HB1.out.trans (hb2.mono HB1.out.size)
  clear hb2 f0
  cases q with
  | false =>
    have HN : Hid (¬ (GoodF F t ∧ PathIs p)) := fun h => by simpa using hq.2 h.1
    clear hq
    go_wp2
    exact bodyPost_ret (v := .tuple #[.string ⟨#[]⟩, .string ⟨#[]⟩, .bool false]) (by simp [results, Tryz.results5, go_sem]) rfl ⟨_, _, false, rfl, .inr ⟨rfl, HN.out, rfl⟩, HB2.out⟩
  | true =>
    have hGF := hq.1 rfl
    have HGF : Hid (GoodF F t) := hGF
    have tt := hGF.1
    clear hq hGF
    cases g with
    | false =>
      have HN : Hid (¬ (GoodF F t ∧ PathIs p)) := fun h => by simpa using HP.out.2 h.2
      go_wp2
      exact bodyPost_ret (v := .tuple #[.string ⟨#[]⟩, .string ⟨#[]⟩, .bool false]) (by simp [results, Tryz.results5, go_sem]) rfl ⟨_, _, false, rfl, .inr ⟨rfl, HN.out, rfl⟩, HB2.out⟩
    | true =>
      obtain ⟨x, hx⟩ : ∃ x, x = (clF F t (t - 1)).bd p := ⟨_, rfl⟩
      have HX : Hid (x = (clF F t (t - 1)).bd p) := hx
      have HC : Hid (∀ W, Below w.heap.size w W → Calls Tryz.prog 12 #[.agg #[.slice a t c], .int .i64 ((t : Int) - 1), .string p] W fun e w' => e = .returned (.tuple #[.string x.1, .string x.2]) ∧ Below W.heap.size W w') := fun W hW => by
        have h := l9Term_any w a c t F p H.out HGF.out HS.out (t - 1) (by omega) x W (by rw [hx, show t - 1 + 1 = t by omega]) hW
        rw [show (((t - 1 : Nat)) : Int) = (t : Int) - 1 by omega] at h
        exact h
      clear hx
      go_wp2_with fail
      refine (HC.out _ HB2.out).mono ?_
      rintro e w3 ⟨rfl, hb3⟩
      have HB3 : Hid (Below w.heap.size w w3) := HB2.out.trans (hb3.mono HB2.out.size)
      clear hb3
      go_wp2
      exact bodyPost_ret (v := .tuple #[.string x.1, .string x.2, .bool true]) (by simp [results, Tryz.results5, go_sem]) rfl ⟨_, _, true, rfl, .inl ⟨rfl, ⟨HGF.out, HP.out.1 (by trivial)⟩, HX.out⟩, HB3.out⟩

set_option maxRecDepth 100000 in
set_option maxHeartbeats 4000000 in
theorem implBounds_any (a : Option Addr) (c t : Nat) (F : Nat → Tm) (p : ByteArray) (w : World) (hF : FArg w a t F) (hCF : CapF w a t) (hs : SmallF t F) (htab : Tab w.heap.size w) (hml : ML w) (hmk : Marks w) :
    Calls Tryz.prog 7 #[.agg #[.slice a t c], .string p] w (BdIs F t p w) := by
  have H : Hid (FArg w a t F) := hF
  have HCF : Hid (CapF w a t) := hCF
  have HS : Hid (SmallF t F) := hs
  have HT : Hid (Tab w.heap.size w) := htab
  have HML : Hid (ML w) := hml
  have HMK : Hid (Marks w) := hmk
  have t20 := hs.1
  clear hF hs hCF htab hml hmk
  go_enter Tryz.func7, Tryz.ntmps7
  go_wp2_with fail
  have al : ∀ o, Below w.heap.size w (w.alloc o) := fun o => (Below.refl _ _).alloc (Nat.le_refl _) o
  refine (implGoodF_any a c t F _ (H.out.below (al _)) HS.out (HT.out.up (al _)) (HML.out.below (al _))).mono ?_
  rintro e w1 ⟨q, rfl, hq, hb1⟩
  have f1 : w1.cell? ⟨w.heap.size, 0, none⟩ = some (.slice a t c) := by rw [hb1.cell (by simp)]; simp [go_sem]
  have HB1 : Hid (Below w.heap.size w w1) := (al _).trans (hb1.mono (by simp))
  have z1 : w.heap.size < w1.heap.size := World.block_lt_of_cell? _ _ f1
  clear hb1 al
  cases q with
  | false =>
    have HN : Hid (¬ (GoodF F t ∧ PathIs p)) := fun h => by simpa using hq.2 h.1
    clear hq
    go_wp2
    exact bodyPost_ret (v := .tuple #[.string ⟨#[]⟩, .string ⟨#[]⟩, .bool false]) (by simp [results, Tryz.results7, go_sem]) rfl ⟨_, _, false, rfl, .inr ⟨rfl, HN.out, rfl⟩, HB1.out⟩
  | true =>
    have hGF := hq.1 rfl
    have HGF : Hid (GoodF F t) := hGF
    have tt := hGF.1
    clear hq hGF
    go_wp2_with fail
    refine (isPath_any p w1 (HML.out.below HB1.out)).mono ?_
    rintro e w2 ⟨q, rfl, hq, hb2⟩
    have f2 := (hb2.cell z1).trans f1
    have HB2 : Hid (Below w.heap.size w w2) := HB1.out.trans (hb2.mono HB1.out.size)
    clear hb2 f1
    cases q with
    | false =>
      have HN : Hid (¬ (GoodF F t ∧ PathIs p)) := fun h => by simpa using hq.2 h.2
      clear hq
      go_wp2
      exact bodyPost_ret (v := .tuple #[.string ⟨#[]⟩, .string ⟨#[]⟩, .bool false]) (by simp [results, Tryz.results7, go_sem]) rfl ⟨_, _, false, rfl, .inr ⟨rfl, HN.out, rfl⟩, HB2.out⟩
    | true =>
      have HP : Hid (PathIs p) := hq.1 rfl
      clear hq
      obtain ⟨C, hC⟩ : ∃ C, C = clF F t (t - 1) := ⟨_, rfl⟩
      have HOK : Hid (C.ok ∧ C.size ≤ 2 ^ 20) := by
        have h1 := clF_ok HGF.out t (t - 1) (by omega) (by omega)
        have h2 := clF_size HGF.out t (t - 1) (by omega) (by omega)
        have h3 : (2 : Nat) ^ (t - 1) ≤ 2 ^ 19 := Nat.pow_le_pow_right (by decide) (by omega)
        rw [← hC] at h1 h2
        exact ⟨h1, by omega⟩
      obtain ⟨x, hx⟩ : ∃ x, x = C.bd p := ⟨_, rfl⟩
      have HX : Hid (x = (clF F t (t - 1)).bd p) := by rw [← hC]; exact hx
      have HB : Hid (∀ (W : World) (S : Nat → Prop) (T : TypeId) (y : Value), Below w.heap.size w W → ClIs w W S C (.iface T y) → Calls Tryz.prog 16 #[.iface T y, .string p] W fun e w' => e = .returned (.agg #[.int .i64 0, .string x.1, .string x.2]) ∧ Below W.heap.size W w') := fun W S T y hW hcl => by
        rw [hx]
        exact boundOf_any w p HT.out HMK.out C HOK.out.1 HOK.out.2 W S T y hW hcl
      have HCO : Hid (∀ W, Below w2.heap.size w2 W → Calls Tryz.prog 17 #[.agg #[.slice a t c]] W fun e w' => ∃ T y, e = .returned (.iface T y) ∧ ClIs w w' (fun b => W.heap.size ≤ b) C (.iface T y) ∧ Below W.heap.size W w') := fun W hW => by
        rw [hC]
        exact clauseOf_any w a c t F H.out HCF.out (good_ahead HGF.out HS.out) (by omega) (by omega) W (HB2.out.trans (hW.mono HB2.out.size))
      clear hC hx
      go_wp2_with fail
      refine (HCO.out w2 (Below.refl _ _)).mono ?_
      rintro e w3 ⟨T, y, rfl, hcl, hb3⟩
      have HB3 : Hid (Below w.heap.size w w3) := HB2.out.trans (hb3.mono HB2.out.size)
      have HCL : Hid (ClIs w w3 (fun b => w2.heap.size ≤ b) C (.iface T y)) := hcl
      clear hcl hb3 HCO
      go_wp2_with fail
      refine (HB.out w3 _ T y HB3.out HCL.out).mono ?_
      rintro e w4 ⟨rfl, hb4⟩
      have HB4 : Hid (Below w.heap.size w w4) := HB3.out.trans (hb4.mono HB3.out.size)
      clear hb4 HCL HB
      obtain ⟨x1, x2⟩ := x
      dsimp only
      go_wp2
      go_region
      all_goals go_wp2
      all_goals exact bodyPost_ret (v := .tuple #[.string x1, .string x2, .bool true]) (by simp [results, Tryz.results7, go_sem]) rfl ⟨x1, x2, true, rfl, .inl ⟨rfl, ⟨HGF.out, HP.out⟩, HX.out⟩, by first | exact (HB4.out.trans ((Below.refl _ _).alloc HB4.out.size _)).drew | exact (HB4.out.trans ((Below.refl _ _).alloc HB4.out.size _)).drew.drew | exact HB4.out.trans ((Below.refl _ _).alloc HB4.out.size _)⟩

end Go.Proofs.YtjbjgkkkkghcgaaGreatDoor
namespace Go.Proofs.YtjbjgkkkkghcgaaGreatDoor
open Go.RowKit
set_option linter.unusedVariables false

set_option maxRecDepth 100000 in
set_option maxHeartbeats 2000000 in
theorem boundsOf_law (a : Option Addr) (c n : Nat) (N : Nat → Tm) (s : ByteArray) (w : World) (hn : n ≤ maxLen) (hsz : s.size ≤ maxLen) (h : FArg w a n N) (hz : ∀ i, i < n → BigT (N i)) (htab : Tab w.heap.size w) (hml : ML w) (hmk : Marks w) :
    Calls Tryz.prog 3 #[.agg #[.slice a n c], .string s] w fun e w' => e = .returned (.bool true) ∧ Below w.heap.size w w' := by
  have HZ : Hid (∀ i, i < n → BigT (N i)) := hz
  have HML : Hid (ML w) := hml
  have H : Hid (FArg w a n N) := h
  have HTB : Hid (Tab w.heap.size w) := htab
  have HMK : Hid (Marks w) := hmk
  clear hz h htab hml hmk
  unfold maxLen at hsz
  by_cases h20 : 1048576 < s.size
  · go_enter Tryz.func3, Tryz.ntmps3
    go_wp2
    go_ret
    exact ⟨rfl, by go_grown⟩
  have h20' : s.size ≤ 2 ^ 20 := by omega
  go_enter Tryz.func3, Tryz.ntmps3
  go_wp2_with fail
  have hbl0 : ∀ o, Below w.heap.size w (w.alloc o) := fun o => (Below.refl _ _).alloc (Nat.le_refl _) o
  refine (szFilter_left a c n N 1048576 (by decide) (by decide) _ hn (H.out.below (hbl0 _)) HZ.out).mono ?_
  rintro e w1 ⟨r, rfl, hr, hb1⟩
  have x1 : w1.cell? ⟨w.heap.size, 0, none⟩ = some (.slice a n c) := by rw [hb1.cell (by simp)]; simp [go_sem]
  have HB1 : Hid (Below w.heap.size w w1) := (hbl0 _).trans (hb1.mono (by simp))
  have z1 : w.heap.size < w1.heap.size := by have := hb1.size; simp at this; omega
  clear hb1 hbl0
  rcases hr with rfl | ⟨r0, _, hsm⟩
  · go_wp2
    go_ret
    exact ⟨rfl, HB1.out⟩
  have HSM : Hid (SmallF n N) := hsm
  have n20 : n ≤ 2 ^ 20 := hsm.1
  have HFT : Hid (∀ i, i < n → FitT (N i)) := fun i hi => (hsm.2 i hi).fit
  have r1 : ¬ r < 0 := by omega
  clear hsm
  go_wp2_with fail
  refine (toFilter_any a c n N _ HSM.out (H.out.below HB1.out)).mono ?_
  rintro e w2 ⟨a2, c2, rfl, ho2, hb2⟩
  have x2 : w2.cell? ⟨w.heap.size, 0, none⟩ = some (.slice a n c) := (hb2.cell z1).trans x1
  have HB2 : Hid (Below w.heap.size w w2) := HB1.out.trans (hb2.mono HB1.out.size)
  have z2 : w.heap.size < w2.heap.size := by have := hb2.size; omega
  have HO2 : Hid (FArg w2 a2 n N) := ho2.arg
  clear ho2 hb2
  go_wp2_with fail
  refine (specBounds_any a2 c2 n N s _ HO2.out HSM.out h20').mono ?_
  rintro e w3 ⟨x, y, q, rfl, hq, hb3⟩
  have HQ : Hid (BdTold N n s x y q) := hq
  have x3 : w3.cell? ⟨w.heap.size, 0, none⟩ = some (.slice a n c) := (hb3.cell z2).trans x2
  have HB3 : Hid (Below w.heap.size w w3) := HB2.out.trans (hb3.mono HB2.out.size)
  have z3 : w.heap.size < w3.heap.size := by have := hb3.size; omega
  clear hb3 hq HO2
  go_wp2_with fail
  refine (toFilter_any a c n N _ HSM.out (H.out.below HB3.out)).mono ?_
  rintro e w4 ⟨a4, c4, rfl, ho4, hb4⟩
  have x4 : w4.cell? ⟨w.heap.size, 0, none⟩ = some (.slice a n c) := (hb4.cell z3).trans x3
  have HB4 : Hid (Below w.heap.size w w4) := HB3.out.trans (hb4.mono HB3.out.size)
  have z4 : w.heap.size < w4.heap.size := by have := hb4.size; omega
  have HO4 : Hid (FArg w4 a4 n N) := ho4.arg
  have HC4 : Hid (CapF w4 a4 n) := by
    obtain ⟨_, b6, P6, Q6, _, _, _, hF6⟩ := ho4
    exact hF6.caps
  clear ho4 hb4
  go_wp2_with fail
  have hal : ∀ o, Below w4.heap.size w4 (w4.alloc o) := fun o => (Below.refl _ _).alloc (Nat.le_refl _) o
  have HB4' := fun o => HB4.out.trans ((hal o).mono HB4.out.size)
  refine (implBounds_any a4 c4 n N s _ (HO4.out.below (hal _)) (HC4.out.below HO4.out (hal _)) HSM.out (HTB.out.up (HB4' _)) (HML.out.below (HB4' _)) (HMK.out.below (HB4' _))).mono ?_
  rintro e w5 ⟨x', y', g, rfl, hg, hb5⟩
  obtain ⟨hxx, hyy, hgq⟩ := hg.same HQ.out
  subst hxx hyy hgq
  have x5 : w5.cell? ⟨w.heap.size, 0, none⟩ = some (.slice a n c) := by rw [hb5.cell (by simp; omega)]; simp [World.cell?_alloc_past, z4, x4]
  have y5 : w5.cell? ⟨w4.heap.size, 0, none⟩ = some (.slice a4 n c4) := by rw [hb5.cell (by simp)]; simp [World.cell?_alloc_new]
  have hbb : Below w4.heap.size w4 w5 := (hal _).trans (hb5.mono (by simp))
  have HB5 : Hid (Below w.heap.size w w5) := HB4.out.trans (hbb.mono HB4.out.size)
  have z5 : w4.heap.size < w5.heap.size := by have := hb5.size; simp at this; omega
  have z5' : w.heap.size < w5.heap.size := by omega
  have HO5 : Hid (FArg w5 a4 n N) := HO4.out.below hbb
  clear hb5 hbb hal hg HO4 HC4 HB4'
  go_wp2_with fail
  go_region_held3 (fun w' => w'.cell? ⟨w.heap.size, 0, none⟩ = some (.slice a n c) ∧ w'.cell? ⟨w4.heap.size, 0, none⟩ = some (.slice a4 n c4)) (first | exact ⟨x5, y5⟩ | exact ⟨(hc7 _ _ (Nat.lt_of_lt_of_le z5' zz6)).trans ((hc6 _ _ z5').trans x5), (hc7 _ _ (Nat.lt_of_lt_of_le z5 zz6)).trans ((hc6 _ _ z5).trans y5)⟩ | exact ⟨(hc6 _ _ z5').trans x5, (hc6 _ _ z5).trans y5⟩)
    (first | (go_at_call 6; refine (toFilter_any a c n N _ HSM.out (H.out.below (HB5.out.drew))).mono ?_; rintro e w6 ⟨a6, c6, rfl, ho6, hb6⟩; obtain ⟨hc6, hf6⟩ := bcell hb6; have zz6 := hb6.size) | (go_at_call 8; refine (eqFilter_same a4 a6 c4 c6 n N _ (by omega) HFT.out (HO5.out.below ((Below.drew (Below.refl w5.heap.size w5)).trans (hb6.mono (Nat.le_refl w5.heap.size)))) ho6.arg).mono ?_; rintro e w7 ⟨rfl, hb7⟩; obtain ⟨hc7, hf7⟩ := bcell hb7))
  go_wp2
  go_ret
  exact ⟨rfl, (HB5.out.drew.trans (hb6.mono HB5.out.size)).trans (hb7.mono (Nat.le_trans HB5.out.size zz6))⟩

end Go.Proofs.YtjbjgkkkkghcgaaGreatDoor
namespace Go.Proofs.YtjbjgkkkkghcgaaGreatDoor
open Go.ChangeShapes Go.WideShapes Go.ChangeAt Go.RowKit
open Go.ChangeMaps (open_string shut_string)
set_option linter.unusedVariables false

set_option maxRecDepth 100000 in
/-- WHAT THE WALK GIVES, for every argument and every world that holds the tables. -/
theorem boundsof_contract (H : Type) (enc : TypeId × Value → H) (W : World) (base : Nat) (args : Array Value) (ds gs : List (DataW H)) (before : List MemPlace)
    (hval : ∀ (j : Nat) t v, Tryz.f3.params[j]? = some t → args[j]? = some v → Value.okWide Tryz.prog W .any base t v)
    (hW : DataW.Whole enc Tryz.prog Tryz.f3.params.toList Rows.fnExactBoundsOfSpec.vars false W args.toList ds gs before) (hL : laidMetH Tryz.prog Rows.fnExactBoundsOfRow.laid W) (hS : W.ShapedOpen Tryz.prog) :
    Calls Tryz.prog 3 args W fun e W' => ∃ v, e = .returned v ∧ Rows.fnExactBoundsOfSpec.post enc Tryz.prog Tryz.f3 false true false false W args v W' := by
  have hW' := hW
  obtain ⟨p, q, hA0, hV, rfl, hfz, hnd⟩ := hW
  have hA : DataW.TrodAll enc Tryz.prog W 0 (fun _ => true) true Tryz.f3.params.toList args.toList ds p := hA0
  rw [Tryz.params3] at hA hval
  obtain ⟨v0, vs0, d0, ds0, p0, q0, hargs, rfl, rfl, h0, r0⟩ := trodAll_cons hA
  obtain ⟨v1, vs1, d1, ds1, p1, q1, hvs, rfl, rfl, h1, r1⟩ := trodAll_cons r0
  obtain ⟨rfl, rfl, rfl⟩ := trodAll_nil r1
  obtain rfl : args = #[v0, v1] := by cases args; simp_all
  obtain ⟨g1, rfl⟩ : ∃ g1, gs = [g1] := by
    cases gs with
    | nil => exact hV.elim
    | cons g gs =>
      cases gs with
      | nil => exact ⟨g, rfl⟩
      | cons g' gs =>
        obtain ⟨_, _, _, _, _, _, _, _, _, _, hs, _⟩ := hV
        exact hs.elim
  have k0 := h0
  have lt0 : ∀ x ∈ p0, x.block < W.heap.size := by obtain ⟨m, hm⟩ := k0; exact DataW.trod_lt m _ _ _ hm
  obtain ⟨a, n, c, N, rfl, hn, harg, hz⟩ := open_filter (hval 0 24 v0 rfl rfl) h0
  obtain ⟨a0, rfl, rfl, rfl, w0⟩ := open_string Tryz.underlying9 (hval 1 9 v1 rfl rfl) h1
  clear hA0
  refine (boundsOf_law a c n N a0 W hn w0 harg hz (table (show laidMet Tryz.prog Rows.fnExactBoundsOfRow.laid W from hL)) (ml_of hS) (marks_of (laidMet.tail (show laidMet Tryz.prog Rows.fnExactBoundsOfRow.laid W from hL)))).mono fun e W' ⟨he, bel⟩ => ?_
  subst he
  exact ⟨_, rfl, _, _, _, [], _, _, hW', trodAll_mk1 (shut_bool Tryz.underlying4 _), (trodAll_cons_mk (Below.trod laidOut (by kernel_rfl) (of_decide_eq_true (by kernel_rfl)) k0 bel lt0) (trodAll_cons_mk (shut_string Tryz.underlying9 w0) trodAll_mk0)), Below.trodVars laidOut bel (by kernel_rfl) hV, bel.frame _, fun h => by cases h⟩

theorem boundsof_reads (os : Os) {H : Type} (enc : TypeId × Value → H) : ∃ places, DataW.whole enc Tryz.prog ((layRunes (layMarks (World.holding Tryz.prog os ⟨#[], #[], []⟩))).forCall (fun _ _ => 0) ⟨#[], #[.agg #[.slice none 0 0], .string ⟨#[]⟩], []⟩).memory Tryz.f3.params.toList Rows.fnExactBoundsOfSpec.vars false #[Value.agg #[.slice none 0 0], .string ⟨#[]⟩].toList 8 = some ([.agg [.nil], .lit (.string [])], [Rows.laid_loop_example_g00274_impl_kindMarks], places) :=
  ⟨MemPlace.row ⟨0, 0, none⟩ 8, by kernel_rfl⟩
theorem boundsof_laid (os : Os) : laidMet Tryz.prog Rows.fnExactBoundsOfRow.laid ((layRunes (layMarks (World.holding Tryz.prog os ⟨#[], #[], []⟩))).forCall (fun _ _ => 0) ⟨#[], #[.agg #[.slice none 0 0], .string ⟨#[]⟩], []⟩).memory :=
  laidMet_of_run' 8 (by kernel_rfl) (by kernel_rfl)

set_option maxRecDepth 100000 in
theorem boundsof_lifted (os : Os) (started : os.Started) (H : Type) (enc : TypeId × Value → H) (F : Stop.Interp) :
    ReturnsInHanded {} Tryz.checked os 3 .any ((OpenSpec.ofChange Rows.fnExactBoundsOfSpec).preRow enc Tryz.prog Tryz.f3 Rows.fnExactBoundsOfRow.domain false Rows.fnExactBoundsOfRow.laid) (((OpenSpec.ofChange Rows.fnExactBoundsOfSpec).at F).post enc Tryz.prog Tryz.f3 false true false false) := by
  obtain ⟨places, hx⟩ := boundsof_reads os enc
  refine returnsInHanded_of_row (C := Tryz.checked) (s := OpenSpec.ofChange Rows.fnExactBoundsOfSpec) own started (by kernel_rfl) Tryz.func3
    (witness_row_at (enc := enc) (C := Tryz.checked) false (layRunes (layMarks (World.holding Tryz.prog os ⟨#[], #[], []⟩))) #[.agg #[.slice none 0 0], .string ⟨#[]⟩] rfl (by kernel_rfl) (by kernel_rfl) (by kernel_rfl)
      (OpenSpec.preRow_of_cond 8 hx (by kernel_rfl) (fun k hk => by cases hk) (by kernel_rfl) (boundsof_laid os))) ?_
  intro W base args ds gs before hval hW _ _ _ hL hS _
  exact boundsof_contract H enc W base args ds gs before hval hW hL hS

theorem boundsof_said : Rows.FnExactBoundsOfSaid :=
  OpenClaim.holds_of_cond 3 Tryz.f3 rfl rfl rfl rfl rfl rfl rfl ⟨rfl, rfl, rfl, rfl, rfl⟩ rfl rfl rfl rfl rfl (by kernel_rfl) Tryz.func3 (by kernel_rfl)
    (of_decide_eq_true (by kernel_rfl)) (by unfold Func.isWrapper; first | (rw [if_pos (by decide +kernel)]; kernel_rfl) | (rw [if_neg (by decide +kernel)]; exact ⟨rfl, rfl⟩))
    (fun os started H enc _ F => by rw [OpenClaim.pre_eq_preRow]; exact boundsof_lifted os started H enc F)

theorem boundsof_plain (f : FuncId) (fn : Func) (hf : Tryz.pinned.checked.prog.funcNamed "loop.example/g00274/laws.FnExactBoundsOf" = some f) (hfn : Tryz.pinned.checked.prog.funcs[f]? = some fn) :
    true = Tryz.pinned.checked.prog.looks [] ∧ ∀ (j : Nat) t, fn.params[j]? = some t → Tryz.pinned.checked.prog.wantsStandIn t = false := by
  obtain rfl : f = 3 := Option.some.inj ((show Tryz.prog.funcNamed "loop.example/g00274/laws.FnExactBoundsOf" = some 3 by kernel_rfl).symm.trans hf) |>.symm
  obtain rfl : fn = Tryz.f3 := (Option.some.inj (Tryz.func3.symm.trans hfn)).symm
  refine ⟨by kernel_rfl, fun j t ht => ?_⟩
  rw [Tryz.params3] at ht
  have hm := Array.mem_of_getElem? ht
  have h2 : t = 24 ∨ t = 9 := by simpa using hm
  rcases h2 with rfl | rfl
  · exact (show Tryz.prog.wantsStandIn 24 = false by kernel_rfl)
  · exact (show Tryz.prog.wantsStandIn 9 = false by kernel_rfl)

/-- THE CARD. -/
theorem boundsOf_card : Rows.FnExactBoundsOfCardSaid :=
  Claim7.holds_tied_plain_at .later [] _ _ _ _ boundsof_said (fun _ h => by cases h) (by kernel_rfl) (fun _ h => by cases h) fnExactBoundsOf_row_tie rfl ⟨rfl, rfl⟩ (by kernel_rfl) rfl boundsof_plain (by kernel_rfl)
#print axioms boundsOf_card

end Go.Proofs.YtjbjgkkkkghcgaaGreatDoor
