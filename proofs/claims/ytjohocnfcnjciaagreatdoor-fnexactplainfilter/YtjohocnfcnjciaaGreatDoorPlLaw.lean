/- A filter made plain: the specification's PlainFilter. FnExactPlainFilter answers true at every filter: PlainFilter answers as the specification, writes into nothing, and its answer is its own. -/
import Derived.Test.YtjohocnfcnjciaaGreatDoorClG
import Derived.Test.YtjohocnfcnjciaaGreatDoorClV
import Derived.Test.YtjohocnfcnjciaaGreatDoorFilS
import Derived.Test.YtjohocnfcnjciaaGreatDoorFilHd
import Derived.Test.YtjohocnfcnjciaaGreatDoorFilAw
namespace Go.Proofs.YtjohocnfcnjciaaGreatDoor
open Go.RowKit
set_option linter.unusedVariables false

theorem ris_le {K : Nat → Int} {m own : Nat} (h : RisA K m own) : m ≤ own := by
  have hk : ∀ j, j < m → (j : Int) ≤ K j := by
    intro j
    induction j with
    | zero => intro hj; exact (h 0 hj).1.1
    | succ j ih =>
      intro hj
      have h1 := ih (by omega)
      have h2 := (h (j + 1) hj).2 (by omega)
      rw [Nat.add_sub_cancel] at h2
      omega
  rcases Nat.eq_zero_or_pos m with h0 | h0
  · omega
  · have h1 := hk (m - 1) (by omega)
    have h2 := (h (m - 1) (by omega)).1.2
    omega
theorem goodV_small {N : Nat → Nd} {n : Nat} (h : GoodV N n) : n ≤ 80 ∧ SmallN n N := by
  have hn := h.1.2.1
  refine ⟨hn, by omega, fun i hi => ?_⟩
  obtain ⟨h1, h2, _⟩ := h.1.2.2 i hi
  have hp : ∀ t : ByteArray, plainB t = true → t.size ≤ 24 := fun t h => by
    unfold plainB at h
    simp only [Bool.and_eq_true, decide_eq_true_eq] at h
    exact h.1
  have e1 := (content_bounds h1).2.2
  have e2 := hp _ (name_plain h2)
  omega
theorem pathIs_small {p : ByteArray} (h : PathIs p) : p.size ≤ 60 := by
  unfold PathIs namesL at h
  by_cases e : p.data.toList.length ≤ 60 ∧ (p.data.toList = [] ∨ p.data.toList.head? = some 47)
  · have := e.1
    simpa using this
  · rw [if_neg e] at h
    simp at h
theorem smallN_none (N : Nat → Nd) : SmallN 0 N := ⟨by omega, fun i hi => by omega⟩
/-- A term whose fields are as they should be is small. -/
theorem fields_small {x : Tm} {own : Nat} (h : FieldsOK x) (hr : RisA x.K x.m own) (ho : own ≤ 2 ^ 20) : SmallT x ∧ x.n ≤ 80 ∧ x.m ≤ own := by
  have hm := ris_le hr
  unfold FieldsOK at h
  rcases h with ⟨_, hp, hg, _⟩ | ⟨_, hp, hn, _⟩ | ⟨_, hp, ⟨hg, _⟩, _⟩ | ⟨_, hp, hn⟩ | ⟨_, hp, hn, _⟩
  · have h1 := pathIs_small hp
    have h2 := goodV_small hg
    exact ⟨⟨by omega, h2.2, by omega⟩, h2.1, hm⟩
  · have h1 := pathIs_small hp
    exact ⟨⟨by omega, by rw [hn]; exact smallN_none _, by omega⟩, by omega, hm⟩
  · have h1 := pathIs_small hp
    have h2 := goodV_small hg
    exact ⟨⟨by omega, h2.2, by omega⟩, h2.1, hm⟩
  · exact ⟨⟨by omega, by rw [hn]; exact smallN_none _, by omega⟩, by omega, hm⟩
  · exact ⟨⟨by omega, by rw [hn]; exact smallN_none _, by omega⟩, by omega, hm⟩
theorem emit_facts {c : Cl} (h : c.ok) (hz : c.size ≤ 2 ^ 20) : ∀ i, i < c.size → SmallT (TL (c.emit 0) i) ∧ (TL (c.emit 0) i).n ≤ 80 ∧ (TL (c.emit 0) i).m ≤ i := fun i hi => by
  have hlt : i < (c.emit 0).length := by rw [Cl.emit_len]; exact hi
  have hg : (c.emit 0)[i]? = some (TL (c.emit 0) i) := by
    unfold TL atL
    rw [List.getD_eq_getElem?_getD, List.getElem?_eq_getElem hlt]
    rfl
  have := Cl.emit_ok c 0 h i _ hg
  rw [Nat.zero_add] at this
  exact fields_small this.1 this.2 (by omega)
theorem emit_small {c : Cl} (h : c.ok) (hz : c.size ≤ 2 ^ 20) : SmallF c.size (TL (c.emit 0)) := ⟨hz, fun i hi => (emit_facts h hz i hi).1⟩
theorem emit_goodT (c : Cl) (h : c.ok) : GoodF (TL (c.emit 0)) c.size ↔ c.size ≤ 20 := Cl.emit_good c h

set_option maxRecDepth 100000 in
set_option maxHeartbeats 4000000 in
theorem specPlain_any (a : Option Addr) (c t : Nat) (F : Nat → Tm) (w : World) (h : FArg w a t F) (hs : SmallF t F) :
    Calls Tryz.prog 14 #[.agg #[.slice a t c]] w (PlIs F t w) := by
  have H : Hid (FArg w a t F) := h
  have HS : Hid (SmallF t F) := hs
  have t20 := hs.1
  clear h hs
  go_enter Tryz.func14, Tryz.ntmps14
  go_wp2_with fail
  obtain ⟨W, hW⟩ : ∃ W, W = (w.alloc (.cells #[.slice a t c] 34)).alloc (.cells #[.slice none 0 0] 34) := ⟨_, rfl⟩
  have bW : Below w.heap.size w W := by rw [hW]; exact ((Below.refl _ _).alloc (Nat.le_refl _) _).alloc (by simp) _
  have zW : w.heap.size + 1 < W.heap.size := by rw [hW]; simp
  have zW' : w.heap.size < W.heap.size := by omega
  have f0 : W.cell? ⟨w.heap.size, 0, none⟩ = some (.slice a t c) := by rw [hW]; simp [go_sem]
  have r0 : W.cell? ⟨w.heap.size + 1, 0, none⟩ = some (.slice none 0 0) := by rw [hW]; simp [go_sem]
  have fr0 : W.frozen? ⟨w.heap.size + 1, 0, none⟩ = false := by rw [hW]; simp [go_sem]
  have HFW : Hid (FArg W a t F) := H.out.below bW
  have HBW : Hid (Below w.heap.size w W) := bW
  rw [← hW]
  clear hW
  refine (specGoodF_any a c t F W HFW.out HS.out).mono ?_
  rintro e w1 ⟨q, rfl, hq, hb1⟩
  have z1 := hb1.size
  have f1 : w1.cell? ⟨w.heap.size, 0, none⟩ = some (.slice a t c) := (hb1.cell zW').trans f0
  have r1 : w1.cell? ⟨w.heap.size + 1, 0, none⟩ = some (.slice none 0 0) := (hb1.cell zW).trans r0
  have fr1 : w1.frozen? ⟨w.heap.size + 1, 0, none⟩ = false := (hb1.frozen zW).trans fr0
  have HB1 : Hid (Below W.heap.size W w1) := hb1
  have HBw1 : Hid (Below w.heap.size w w1) := HBW.out.trans (hb1.mono HBW.out.size)
  clear hb1 bW f0 r0 fr0
  cases q with
  | false =>
    have HN : Hid (¬ (GoodF F t ∧ (plC F t).size ≤ 20)) := fun h => by simpa using hq.2 h.1
    clear hq
    go_wp2
    exact bodyPost_ret (v := .tuple #[.agg #[.slice none 0 0], .bool false]) (by simp [results, Tryz.results14, go_sem, r1]) rfl (PlIs.no HN.out (HBw1.out.setCell (by simp) _))
  | true =>
    have hg := hq.1 rfl
    have ht20 := hg.1
    have HG : Hid (GoodF F t) := hg
    have HP : Hid ((clF F t (t - 1)).ok ∧ (clF F t (t - 1)).size ≤ 2 ^ 19 ∧ (plC F t).ok ∧ (plC F t).size ≤ 2 ^ 20) := plC_facts hg
    have HC : Hid (∀ W', Below W.heap.size W W' → Calls Tryz.prog 40 #[.agg #[.slice a t c], .int .i64 ((t : Int) - 1), .bool false, .slice none 0 0] W' fun e w' => ∃ a' c', e = .returned (.slice a' (plC F t).size c') ∧ TBld w' W.heap.size (.slice a' (plC F t).size c') (plC F t).size (TL ((plC F t).emit 0)) ∧ Below W'.heap.size W' w') := fun W' hW' => by
      have h := l5Plain_any W a c t F HFW.out HG.out (good_ahead HG.out HS.out) (t - 1) (by omega) false (plC F t) W' (fun _ => False) (.slice none 0 0) [] 0 (fun _ => zeroTc) (by rw [if_neg (by decide), show t - 1 + 1 = t by omega]; rfl) rfl hW' (TBldX.nil _ _ _ _) (fun q h => h.elim) (by have := HP.out.2.2.2; omega)
      rw [show (((t - 1 : Nat)) : Int) = (t : Int) - 1 by omega] at h
      refine h.mono ?_
      rintro e w' ⟨v', R', rfl, hT, hgr, _⟩
      rw [Nat.zero_add, List.nil_append] at hT
      have hTb := hT.bld
      obtain ⟨a', c', rfl⟩ := hTb.form
      exact ⟨a', c', rfl, hTb, (Below.refl _ _).grown hgr (Nat.le_refl _) (fun b hb => by simp [Value.ownBlock] at hb)⟩
    obtain ⟨u, hu⟩ : ∃ u, u = (plC F t).size := ⟨_, rfl⟩
    obtain ⟨G, hG⟩ : ∃ G, G = TL ((plC F t).emit 0) := ⟨_, rfl⟩
    rw [← hu, ← hG] at HC
    have u20 : u ≤ 2 ^ 20 := by rw [hu]; exact HP.out.2.2.2
    have HU : Hid (u = (plC F t).size ∧ G = TL ((plC F t).emit 0)) := ⟨hu, hG⟩
    have HSM : Hid (SmallF u G) := by rw [hu, hG]; exact emit_small HP.out.2.2.1 HP.out.2.2.2
    have HGI : Hid (GoodF G u ↔ u ≤ 20) := by rw [hu, hG]; exact emit_goodT _ HP.out.2.2.1
    clear hq hg hu hG
    go_wp2_with fail
    refine (HC.out _ HB1.out).mono ?_
    rintro e w2 ⟨a2, c2, rfl, hT2, hb2⟩
    have z2 := hb2.size
    have r2 : w2.cell? ⟨w.heap.size + 1, 0, none⟩ = some (.slice none 0 0) := (hb2.cell (by show w.heap.size + 1 < _; omega)).trans r1
    have fr2 : w2.frozen? ⟨w.heap.size + 1, 0, none⟩ = false := (hb2.frozen (by show w.heap.size + 1 < _; omega)).trans fr1
    have HB2 : Hid (Below w.heap.size w w2) := HBw1.out.trans (hb2.mono HBw1.out.size)
    have HT2 : Hid (TBld w2 W.heap.size (.slice a2 u c2) u G) := hT2
    have HF2 : Hid (FArg w2 a2 u G) := by
      obtain ⟨a', c', b', P', Q', e', _, _, _, h3⟩ := hT2.own (by omega)
      injection e' with e1 _ e3
      subst e1 e3
      exact h3.arg
    have al2 : ∀ o, Below w2.heap.size w2 (w2.alloc o) := fun o => (Below.refl _ _).alloc (Nat.le_refl _) o
    clear hT2 hb2 f1 r1 fr1
    go_wp2_with fail
    refine (specGoodF_any a2 c2 u G _ (HF2.out.below (al2 _)) HSM.out).mono ?_
    rintro e w3 ⟨q, rfl, hq, hb3⟩
    have z3 := hb3.size
    simp at z3
    have hb3' : Below w2.heap.size w2 w3 := (al2 _).trans (hb3.mono (by simp))
    have o3 : w3.cell? ⟨w2.heap.size, 0, none⟩ = some (.slice a2 u c2) := by rw [hb3.cell (by simp)]; simp [World.cell?_alloc_new]
    have r3 : w3.cell? ⟨w.heap.size + 1, 0, none⟩ = some (.slice none 0 0) := (hb3'.cell (by show w.heap.size + 1 < _; omega)).trans r2
    have fr3 : w3.frozen? ⟨w.heap.size + 1, 0, none⟩ = false := (hb3'.frozen (by show w.heap.size + 1 < _; omega)).trans fr2
    have HB3 : Hid (Below w.heap.size w w3) := HB2.out.trans (hb3'.mono HB2.out.size)
    have HT3 : Hid (TBld w3 W.heap.size (.slice a2 u c2) u G) := HT2.out.below hb3'
    have HQ : Hid (q = true ↔ u ≤ 20) := hq.trans HGI.out
    clear hq hb3 hb3' r2 fr2 HT2
    cases q with
    | false =>
      have HN : Hid (¬ (GoodF F t ∧ (plC F t).size ≤ 20)) := fun h => by
        have := HQ.out.2 (by rw [HU.out.1]; exact h.2)
        simp at this
      go_wp2
      exact bodyPost_ret (v := .tuple #[.agg #[.slice none 0 0], .bool false]) (by simp [results, Tryz.results14, go_sem, r3]) rfl (PlIs.no HN.out (HB3.out.setCell (by simp) _))
    | true =>
      go_wp2
      have h20 : u ≤ 20 := HQ.out.1 (by trivial)
      exact bodyPost_ret (v := .tuple #[.agg #[.slice a2 u c2], .bool true]) (by simp [results, Tryz.results14, go_sem, r3]) rfl (PlIs.yes (B := W.heap.size) HG.out h20 HU.out.1 (by omega) (by rw [← HU.out.2]; exact HT3.out) rfl (by omega) (HB3.out.setCell (by simp) _))

end Go.Proofs.YtjohocnfcnjciaaGreatDoor
namespace Go.Proofs.YtjohocnfcnjciaaGreatDoor
open Go.RowKit
set_option linter.unusedVariables false

theorem totF_bound {G : Nat → Tm} (d : Nat) : ∀ u, (∀ i, i < u → (G i).n + (G i).m ≤ d) → totF G u ≤ d * u := by
  intro u
  induction u with
  | zero => intro _; exact Nat.zero_le _
  | succ u ih =>
    intro h
    have h1 := ih (fun i hi => h i (by omega))
    have h2 := h u (by omega)
    rw [totF, Nat.mul_succ]
    omega

set_option maxRecDepth 100000 in
set_option maxHeartbeats 4000000 in
theorem plainFilter_law (a : Option Addr) (c n : Nat) (N : Nat → Tm) (w : World) (hn : n ≤ maxLen) (h : FArg w a n N) (hz : ∀ i, i < n → BigT (N i)) (htab : Tab w.heap.size w) (hml : ML w) :
    Calls Tryz.prog 4 #[.agg #[.slice a n c]] w fun e w' => e = .returned (.bool true) ∧ Below w.heap.size w w' := by
  have HZ : Hid (∀ i, i < n → BigT (N i)) := hz
  have HML : Hid (ML w) := hml
  have H : Hid (FArg w a n N) := h
  have HTB : Hid (Tab w.heap.size w) := htab
  clear hz h htab hml
  go_enter Tryz.func4, Tryz.ntmps4
  go_wp2_with fail
  have hbl0 : ∀ o, Below w.heap.size w (w.alloc o) := fun o => (Below.refl _ _).alloc (Nat.le_refl _) o
  refine (szFilter_less a c n N 1048576 (by decide) (by decide) _ hn (H.out.below (hbl0 _)) HZ.out).mono ?_
  rintro e w1 ⟨r, rfl, hr, hb1⟩
  have x1 : w1.cell? ⟨w.heap.size, 0, none⟩ = some (.slice a n c) := by rw [hb1.cell (by simp)]; simp [go_sem]
  have HB1 : Hid (Below w.heap.size w w1) := (hbl0 _).trans (hb1.mono (by simp))
  have z1 : w.heap.size < w1.heap.size := by have := hb1.size; simp at this; omega
  clear hb1 hbl0
  rcases hr with rfl | ⟨r0, rt, hsm⟩
  · go_wp2
    go_ret
    exact ⟨rfl, HB1.out⟩
  have HSM : Hid (SmallF n N) := hsm
  have n20 : n ≤ 2 ^ 20 := hsm.1
  have htn : totF N n ≤ 2 ^ 20 := by omega
  have HFT : Hid (∀ i, i < n → FitT (N i)) := fun i hi => (hsm.2 i hi).fit
  have r1 : ¬ r < 0 := by omega
  obtain ⟨G, hG⟩ : ∃ G, G = TL ((plC N n).emit 0) := ⟨_, rfl⟩
  have HGE : Hid (G = TL ((plC N n).emit 0)) := hG
  clear hsm rt hG
  go_wp2_with fail
  refine (toFilter_any a c n N _ HSM.out (H.out.below HB1.out)).mono ?_
  rintro e w2 ⟨a2, c2, rfl, ho2, hb2⟩
  have x2 : w2.cell? ⟨w.heap.size, 0, none⟩ = some (.slice a n c) := (hb2.cell z1).trans x1
  have HB2 : Hid (Below w.heap.size w w2) := HB1.out.trans (hb2.mono HB1.out.size)
  have z2 : w.heap.size < w2.heap.size := by have := hb2.size; omega
  have HO2 : Hid (FArg w2 a2 n N) := ho2.arg
  clear ho2 hb2
  go_wp2_with fail
  refine (specPlain_any a2 c2 n N _ HO2.out HSM.out).mono ?_
  rintro e w3 ⟨u, q, hq, a3, c3, b3, P3, Q3, rfl, hb3, hP3, hF3, hbl3⟩
  have HQ : Hid ((GoodF N n ∧ (plC N n).size ≤ 20 ∧ u = (plC N n).size ∧ q = true) ∨ (¬ (GoodF N n ∧ (plC N n).size ≤ 20) ∧ u = 0 ∧ q = false)) := hq
  have hu : u ≤ 20 := by rcases hq with h | h; omega; omega
  have x3 : w3.cell? ⟨w.heap.size, 0, none⟩ = some (.slice a n c) := (hbl3.cell z2).trans x2
  have HB3 : Hid (Below w.heap.size w w3) := HB2.out.trans (hbl3.mono HB2.out.size)
  have z3 : w.heap.size < w3.heap.size := by have := hbl3.size; omega
  have HU : Hid (totF G u ≤ 2 ^ 22 ∧ ∀ i, i < u → FitT (G i)) := by
    rcases HQ.out with ⟨h1, h2, h3, _⟩ | ⟨_, h3, _⟩
    · have hp := plC_facts h1
      have hf : ∀ i, i < u → SmallT (G i) ∧ (G i).n ≤ 80 ∧ (G i).m ≤ i := fun i hi => by
        rw [HGE.out]
        exact emit_facts hp.2.2.1 hp.2.2.2 i (by omega)
      have h4 := totF_bound (G := G) 100 u (fun i hi => by have := hf i hi; omega)
      exact ⟨by omega, fun i hi => (hf i hi).1.fit⟩
    · subst h3
      exact ⟨by simp [totF], fun i hi => by omega⟩
  have HK3 : Hid (FOwn w3 b3 a3 u G P3 Q3) := by rw [HGE.out]; exact hF3
  have HR3 : Hid ((u ≠ 0 → b3 < w3.heap.size) ∧ ∀ i, i < u → Q3 i ≤ w3.heap.size) := ⟨fun h => (hb3 h).2, fun i hi => (hF3.2.2.1 i hi).2⟩
  clear hbl3 hb3 hP3 hF3 HO2 hq
  go_wp2_with fail
  have al3 : ∀ o, Below w3.heap.size w3 (w3.alloc o) := fun o => (Below.refl _ _).alloc (Nat.le_refl _) o
  refine (toFilter_any a c n N _ HSM.out (H.out.below (HB3.out.trans ((al3 _).mono HB3.out.size)))).mono ?_
  rintro e w4 ⟨a4, c4, rfl, ho4, hb4⟩
  obtain ⟨_, b4, P4, Q4, hb4a, hb4b, hP4, hF4⟩ := ho4
  have z34 := hb4.size
  simp at z34 hb4a hP4
  have x4 : w4.cell? ⟨w.heap.size, 0, none⟩ = some (.slice a n c) := by rw [hb4.cell (by simp; omega)]; simp [World.cell?_alloc_past, z3, x3]
  have u4 : w4.cell? ⟨w3.heap.size, 0, none⟩ = some (.slice a3 u c3) := by rw [hb4.cell (by simp)]; simp [World.cell?_alloc_new]
  have hbb4 : Below w3.heap.size w3 w4 := (al3 _).trans (hb4.mono (by simp))
  have HB4 : Hid (Below w.heap.size w w4) := HB3.out.trans (hbb4.mono HB3.out.size)
  have z4 : w.heap.size < w4.heap.size := by omega
  have zu4 : w3.heap.size < w4.heap.size := by omega
  have HO4 : Hid (FOwn w4 b4 a4 n N P4 Q4) := hF4
  have HR4 : Hid ((w3.heap.size < b4 ∧ b4 < w4.heap.size) ∧ ∀ i, i < n → w3.heap.size < P4 i ∧ Q4 i ≤ w4.heap.size) := ⟨⟨by omega, hb4b⟩, fun i hi => ⟨by have := hP4 i hi; omega, (hF4.2.2.1 i hi).2⟩⟩
  have HK4 : Hid (FOwn w4 b3 a3 u G P3 Q3) := HK3.out.below hbb4
  clear hF4 hb4 HK3 hbb4 al3 hP4 hb4a
  go_wp2_with fail
  have hal : ∀ o, Below w4.heap.size w4 (w4.alloc o) := fun o => (Below.refl _ _).alloc (Nat.le_refl _) o
  refine (implPlain_any a4 c4 n N _ (HO4.out.below (hal _)).arg HSM.out (HTB.out.up (HB4.out.trans ((hal _).mono HB4.out.size))) (HML.out.below (HB4.out.trans ((hal _).mono HB4.out.size)))).mono ?_
  rintro e w5 ⟨u', g, hg, a5, c5, b5, P5, Q5, rfl, hb5, hP5, hF5, hbl5⟩
  obtain ⟨rfl, rfl⟩ : u' = u ∧ g = q := by
    rcases hg with ⟨h1, h2, rfl, rfl⟩ | ⟨h1, rfl, rfl⟩ <;> rcases HQ.out with ⟨h3, h4, rfl, rfl⟩ | ⟨h3, rfl, rfl⟩
    · exact ⟨rfl, rfl⟩
    · exact absurd ⟨h1, h2⟩ h3
    · exact absurd ⟨h3, h4⟩ h1
    · exact ⟨rfl, rfl⟩
  have z45 := hbl5.size
  simp at z45
  have x5 : w5.cell? ⟨w.heap.size, 0, none⟩ = some (.slice a n c) := by rw [hbl5.cell (by simp; omega)]; simp [World.cell?_alloc_past, z4, x4]
  have u5 : w5.cell? ⟨w3.heap.size, 0, none⟩ = some (.slice a3 u' c3) := by rw [hbl5.cell (by simp; omega)]; simp [World.cell?_alloc_past, zu4, u4]
  have y5 : w5.cell? ⟨w4.heap.size, 0, none⟩ = some (.slice a4 n c4) := by rw [hbl5.cell (by simp)]; simp [World.cell?_alloc_new]
  have hbb : Below w4.heap.size w4 w5 := (hal _).trans (hbl5.mono (by simp))
  have HB5 : Hid (Below w.heap.size w w5) := HB4.out.trans (hbb.mono HB4.out.size)
  have z5 : w4.heap.size < w5.heap.size := by omega
  have z5u : w3.heap.size < w5.heap.size := by omega
  have z5' : w.heap.size < w5.heap.size := by omega
  have HO5 : Hid (FOwn w5 b4 a4 n N P4 Q4) := HO4.out.below hbb
  have HK5 : Hid (FOwn w5 b3 a3 u' G P3 Q3) := HK4.out.below hbb
  have HG5 : Hid (FOwn w5 b5 a5 u' G P5 Q5) := by rw [HGE.out]; exact hF5
  have HR5 : Hid ((u' ≠ 0 → w4.heap.size < b5 ∧ b5 < w5.heap.size) ∧ ∀ i, i < u' → w4.heap.size < P5 i ∧ Q5 i ≤ w5.heap.size) := ⟨fun h => by have := hb5 h; simp at this; omega, fun i hi => ⟨by have := hP5 i hi; simp at this; omega, (hF5.2.2.1 i hi).2⟩⟩
  have u40 : u' ≤ 2 ^ 40 := by omega
  have u20 : u' ≤ 2 ^ 20 ∨ u' = 2 ^ 20 + 1 := by omega
  have u20' : u' ≤ 21 := by rcases HQ.out with h | h; omega; omega
  clear hbl5 hbb hal hg HO4 HK4 hb5 hP5 hF5 x4 u4
  go_wp2_with fail
  have al5 : ∀ o, Below w5.heap.size w5 (w5.alloc o) := fun o => (Below.refl _ _).alloc (Nat.le_refl _) o
  refine (eqFilter_same a5 a3 c5 c3 u' G _ u40 HU.out.2 (HG5.out.below (al5 _)).arg (HK5.out.below (al5 _)).arg).mono ?_
  rintro e w6 ⟨rfl, hb6⟩
  have B56 : Below w5.heap.size w5 w6 := (al5 _).trans (hb6.mono (by simp))
  have z56 := hb6.size
  simp at z56
  have x6 : w6.cell? ⟨w.heap.size, 0, none⟩ = some (.slice a n c) := (B56.cell (by show w.heap.size < _; omega)).trans x5
  have u6 : w6.cell? ⟨w3.heap.size, 0, none⟩ = some (.slice a3 u' c3) := (B56.cell (by show w3.heap.size < _; omega)).trans u5
  have y6 : w6.cell? ⟨w4.heap.size, 0, none⟩ = some (.slice a4 n c4) := (B56.cell z5).trans y5
  have v6 : w6.cell? ⟨w5.heap.size, 0, none⟩ = some (.slice a5 u' c5) := by rw [hb6.cell (by simp)]; simp [World.cell?_alloc_new]
  have z6 : w4.heap.size < w6.heap.size := by omega
  have z6u : w3.heap.size < w6.heap.size := by omega
  have z6v : w5.heap.size < w6.heap.size := by omega
  have z6' : w.heap.size < w6.heap.size := by omega
  have HB6 : Hid (Below w.heap.size w w6) := HB5.out.trans (B56.mono HB5.out.size)
  have HO6 : Hid (FOwn w6 b4 a4 n N P4 Q4) := HO5.out.below B56
  have HK6 : Hid (FOwn w6 b3 a3 u' G P3 Q3) := HK5.out.below B56
  have HG6 : Hid (FOwn w6 b5 a5 u' G P5 Q5) := HG5.out.below B56
  clear hb6 HO5 HK5 HG5 B56 al5 x5 u5 y5
  go_wp2_with fail
  go_region_held3 (fun w' => w'.cell? ⟨w.heap.size, 0, none⟩ = some (.slice a n c) ∧ w'.cell? ⟨w4.heap.size, 0, none⟩ = some (.slice a4 n c4)) (first | exact ⟨x6, y6⟩ | exact ⟨(hc8 _ _ (Nat.lt_of_lt_of_le z6' zz7)).trans ((hc7 _ _ z6').trans x6), (hc8 _ _ (Nat.lt_of_lt_of_le z6 zz7)).trans ((hc7 _ _ z6).trans y6)⟩ | exact ⟨(hc7 _ _ z6').trans x6, (hc7 _ _ z6).trans y6⟩)
    (first | (go_at_call 9; refine (toFilter_any a c n N _ HSM.out (H.out.below (HB6.out.drew))).mono ?_; rintro e w7 ⟨a7, c7, rfl, ho7, hb7⟩; obtain ⟨hc7, hf7⟩ := bcell hb7; have zz7 := hb7.size) | (go_at_call 12; refine (eqFilter_same a4 a7 c4 c7 n N _ (by omega) HFT.out (HO6.out.below ((Below.drew (Below.refl w6.heap.size w6)).trans (hb7.mono (Nat.le_refl w6.heap.size)))).arg ho7.arg).mono ?_; rintro e w8 ⟨rfl, hb8⟩; obtain ⟨hc8, hf8⟩ := bcell hb8))
  have B68 : Below w6.heap.size w6 w8 := ((Below.drew (Below.refl w6.heap.size w6)).trans (hb7.mono (Nat.le_refl w6.heap.size))).trans (hb8.mono zz7)
  have z68 := B68.size
  have x8 : w8.cell? ⟨w.heap.size, 0, none⟩ = some (.slice a n c) := (B68.cell z6').trans x6
  have u8 : w8.cell? ⟨w3.heap.size, 0, none⟩ = some (.slice a3 u' c3) := (B68.cell (by show w3.heap.size < _; omega)).trans u6
  have y8 : w8.cell? ⟨w4.heap.size, 0, none⟩ = some (.slice a4 n c4) := (B68.cell z6).trans y6
  have v8 : w8.cell? ⟨w5.heap.size, 0, none⟩ = some (.slice a5 u' c5) := (B68.cell (by show w5.heap.size < _; omega)).trans v6
  have HB8 : Hid (Below w.heap.size w w8) := HB6.out.trans (B68.mono HB6.out.size)
  have HO8 : Hid (FOwn w8 b4 a4 n N P4 Q4) := HO6.out.below B68
  have HK8 : Hid (FOwn w8 b3 a3 u' G P3 Q3) := HK6.out.below B68
  have HG8 : Hid (FOwn w8 b5 a5 u' G P5 Q5) := HG6.out.below B68
  clear hb7 hb8 hc7 hf7 hc8 hf8 zz7 B68 ho7 HO6 HK6 HG6 x6 y6 u6 v6
  go_wp2_with fail
  refine (markFilter_any b4 c4 n a4 N P4 Q4 1 _ (by omega) (by omega) n20 (by omega) HO8.out).mono ?_
  rintro e w9 ⟨rfl, hk9, _⟩
  have z89 := hk9.size
  have hin : ∀ x, InF b4 n P4 Q4 x → w3.heap.size < x ∧ x < w4.heap.size := fun x hx => by
    have := InF.in (lo := w3.heap.size + 1) (hi := w4.heap.size) ⟨by have := HR4.out.1; omega, HR4.out.1.2⟩ (fun i hi => ⟨by have := HR4.out.2 i hi; omega, (HR4.out.2 i hi).2⟩) hx
    omega
  have x9 : w9.cell? ⟨w.heap.size, 0, none⟩ = some (.slice a n c) := (hk9.cell (by omega) (fun hx => by have := hin _ hx; omega)).trans x8
  have u9 : w9.cell? ⟨w3.heap.size, 0, none⟩ = some (.slice a3 u' c3) := (hk9.cell (by omega) (fun hx => by have := hin _ hx; omega)).trans u8
  have v9 : w9.cell? ⟨w5.heap.size, 0, none⟩ = some (.slice a5 u' c5) := (hk9.cell (by omega) (fun hx => by have := hin _ hx; omega)).trans v8
  have HB9 : Hid (Below w.heap.size w w9) := HB8.out.trans (hk9.below HB8.out.size (fun k hk hx => by have := hin _ hx; omega))
  have HK9 : Hid (FOwn w9 b3 a3 u' G P3 Q3) := HK8.out.away hk9 0 w3.heap.size (fun h => ⟨Nat.zero_le _, HR3.out.1 h⟩) (fun i hi => ⟨Nat.zero_le _, HR3.out.2 i hi⟩) (fun x hx => by have := hin _ hx; omega)
  have HG9 : Hid (FOwn w9 b5 a5 u' G P5 Q5) := HG8.out.away hk9 (w4.heap.size + 1) w5.heap.size (fun h => by have := HR5.out.1 h; omega) (fun i hi => by have := HR5.out.2 i hi; omega) (fun x hx => by have := hin _ hx; omega)
  have kb1 := kAt_bound N 1 n
  have nk1 : ¬ kAt N 1 n < 0 := by omega
  clear hk9 hin HO8 HK8 HG8 x8 y8 u8 v8
  go_wp2_with fail
  refine (eqFilter_same a5 a3 c5 c3 u' G _ u40 HU.out.2 HG9.out.arg HK9.out.arg).mono ?_
  rintro e w10 ⟨rfl, hb10⟩
  have z910 := hb10.size
  have x10 : w10.cell? ⟨w.heap.size, 0, none⟩ = some (.slice a n c) := (hb10.cell (by show w.heap.size < _; omega)).trans x9
  have u10 : w10.cell? ⟨w3.heap.size, 0, none⟩ = some (.slice a3 u' c3) := (hb10.cell (by show w3.heap.size < _; omega)).trans u9
  have v10 : w10.cell? ⟨w5.heap.size, 0, none⟩ = some (.slice a5 u' c5) := (hb10.cell (by show w5.heap.size < _; omega)).trans v9
  have HB10 : Hid (Below w.heap.size w w10) := HB9.out.trans (hb10.mono HB9.out.size)
  have HK10 : Hid (FOwn w10 b3 a3 u' G P3 Q3) := HK9.out.below hb10
  obtain ⟨b6, hb6, HG10⟩ : ∃ b6, ((w4.heap.size < b6 ∧ b6 < w5.heap.size) ∨ (u' = 0 ∧ w10.heap.size ≤ b6)) ∧ Hid (FOwn w10 b6 a5 u' G P5 Q5) := by
    by_cases hu0 : u' = 0
    · refine ⟨w10.heap.size, .inr ⟨hu0, Nat.le_refl _⟩, ?_⟩
      exact ⟨by omega, .inl hu0, fun i hi => by omega, fun i j _ hj => by omega⟩
    · exact ⟨b5, .inl (HR5.out.1 hu0), HG9.out.below hb10⟩
  clear hb10 HK9 HG9 x9 u9 v9
  go_wp2_with fail
  refine (markFilter_any b6 c5 u' a5 G P5 Q5 1 _ (by omega) (by omega) (by omega) HU.out.1 HG10.out).mono ?_
  rintro e w11 ⟨rfl, hk11, hF11⟩
  have z1011 := hk11.size
  have hin : ∀ x, InF b6 u' P5 Q5 x → (w4.heap.size < x ∧ x < w5.heap.size) ∨ w10.heap.size ≤ x := fun x hx => by
    rcases hx with rfl | ⟨i, hi, h3, h4⟩
    · omega
    · have := HR5.out.2 i hi; omega
  have x11 : w11.cell? ⟨w.heap.size, 0, none⟩ = some (.slice a n c) := (hk11.cell (by omega) (fun hx => by have := hin _ hx; omega)).trans x10
  have u11 : w11.cell? ⟨w3.heap.size, 0, none⟩ = some (.slice a3 u' c3) := (hk11.cell (by omega) (fun hx => by have := hin _ hx; omega)).trans u10
  have v11 : w11.cell? ⟨w5.heap.size, 0, none⟩ = some (.slice a5 u' c5) := (hk11.cell (by omega) (fun hx => by have := hin _ hx; omega)).trans v10
  have HB11 : Hid (Below w.heap.size w w11) := HB10.out.trans (hk11.below HB10.out.size (fun k hk hx => by have := hin _ hx; omega))
  have HK11 : Hid (FOwn w11 b3 a3 u' G P3 Q3) := HK10.out.away hk11 0 w3.heap.size (fun h => ⟨Nat.zero_le _, HR3.out.1 h⟩) (fun i hi => ⟨Nat.zero_le _, HR3.out.2 i hi⟩) (fun x hx => by have := hin _ hx; omega)
  have HG11 : Hid (FOwn w11 b6 a5 u' (mkTo G 1 u') P5 Q5) := hF11
  have kb2 := kAt_bound G 1 u'
  have HTU := HU.out.1
  have nk2 : ¬ kAt G 1 u' < 0 := by omega
  clear hk11 hin hF11 HK10 HG10 x10 u10 v10
  go_wp2_with fail
  refine (heldFilter_any b6 c5 u' a5 G P5 Q5 1 _ (by omega) (by omega) (by omega) HU.out.1 HG11.out).mono ?_
  rintro e w12 ⟨rfl, hb12⟩
  have z1112 := hb12.size
  have x12 : w12.cell? ⟨w.heap.size, 0, none⟩ = some (.slice a n c) := (hb12.cell (by show w.heap.size < _; omega)).trans x11
  have u12 : w12.cell? ⟨w3.heap.size, 0, none⟩ = some (.slice a3 u' c3) := (hb12.cell (by show w3.heap.size < _; omega)).trans u11
  have v12 : w12.cell? ⟨w5.heap.size, 0, none⟩ = some (.slice a5 u' c5) := (hb12.cell (by show w5.heap.size < _; omega)).trans v11
  have HB12 : Hid (Below w.heap.size w w12) := HB11.out.trans (hb12.mono HB11.out.size)
  have HK12 : Hid (FOwn w12 b3 a3 u' G P3 Q3) := HK11.out.below hb12
  have HG12 : Hid (FOwn w12 b6 a5 u' (mkTo G 1 u') P5 Q5) := HG11.out.below hb12
  obtain ⟨kk, hkk⟩ : ∃ kk, kk = kAt G 1 u' := ⟨_, rfl⟩
  have HKK : Hid (kk = kAt G 1 u') := hkk
  rw [← hkk] at nk2
  rw [← hkk]
  clear hb12 HK11 HG11 x11 u11 v11 hkk kb2
  go_wp2_with fail
  refine (toFilter_any a c n N _ HSM.out (H.out.below HB12.out)).mono ?_
  rintro e w13 ⟨a13, c13, rfl, ho13, hb13⟩
  have z1213 := hb13.size
  have u13 : w13.cell? ⟨w3.heap.size, 0, none⟩ = some (.slice a3 u' c3) := (hb13.cell (by show w3.heap.size < _; omega)).trans u12
  have v13 : w13.cell? ⟨w5.heap.size, 0, none⟩ = some (.slice a5 u' c5) := (hb13.cell (by show w5.heap.size < _; omega)).trans v12
  have HB13 : Hid (Below w.heap.size w w13) := HB12.out.trans (hb13.mono HB12.out.size)
  have HO13 : Hid (FArg w13 a13 n N) := ho13.arg
  have HK13 : Hid (FOwn w13 b3 a3 u' G P3 Q3) := HK12.out.below hb13
  have HG13 : Hid (FOwn w13 b6 a5 u' (mkTo G 1 u') P5 Q5) := HG12.out.below hb13
  clear hb13 ho13 HK12 HG12 x12 u12 v12
  go_wp2_with fail
  refine (implPlain_any a13 c13 n N _ HO13.out HSM.out (HTB.out.up HB13.out) (HML.out.below HB13.out)).mono ?_
  rintro e w14 ⟨u'', g', hg, a14, c14, b14, P14, Q14, rfl, _, _, hF14, hb14⟩
  obtain ⟨rfl, rfl⟩ : u'' = u' ∧ g' = g := by
    rcases hg with ⟨h1, h2, rfl, rfl⟩ | ⟨h1, rfl, rfl⟩ <;> rcases HQ.out with ⟨h3, h4, rfl, rfl⟩ | ⟨h3, rfl, rfl⟩
    · exact ⟨rfl, rfl⟩
    · exact absurd ⟨h1, h2⟩ h3
    · exact absurd ⟨h3, h4⟩ h1
    · exact ⟨rfl, rfl⟩
  have z1314 := hb14.size
  have u14 : w14.cell? ⟨w3.heap.size, 0, none⟩ = some (.slice a3 u'' c3) := (hb14.cell (by show w3.heap.size < _; omega)).trans u13
  have v14 : w14.cell? ⟨w5.heap.size, 0, none⟩ = some (.slice a5 u'' c5) := (hb14.cell (by show w5.heap.size < _; omega)).trans v13
  have z14u : w3.heap.size < w14.heap.size := by omega
  have z14v : w5.heap.size < w14.heap.size := by omega
  have HB14 : Hid (Below w.heap.size w w14) := HB13.out.trans (hb14.mono HB13.out.size)
  have HK14 : Hid (FOwn w14 b3 a3 u'' G P3 Q3) := HK13.out.below hb14
  have HG14 : Hid (FOwn w14 b6 a5 u'' (mkTo G 1 u'') P5 Q5) := HG13.out.below hb14
  have HH14 : Hid (FOwn w14 b14 a14 u'' G P14 Q14) := by rw [HGE.out]; exact hF14
  clear hb14 hF14 HK13 HG13 u13 v13 hg HO13
  go_wp2_with fail
  have al14 : ∀ o, Below w14.heap.size w14 (w14.alloc o) := fun o => (Below.refl _ _).alloc (Nat.le_refl _) o
  refine (eqFilter_same a14 a3 c14 c3 u'' G _ u40 HU.out.2 (HH14.out.below (al14 _)).arg (HK14.out.below (al14 _)).arg).mono ?_
  rintro e w15 ⟨rfl, hb15⟩
  have B45 : Below w14.heap.size w14 w15 := (al14 _).trans (hb15.mono (by simp))
  have v15 : w15.cell? ⟨w5.heap.size, 0, none⟩ = some (.slice a5 u'' c5) := (B45.cell (by show w5.heap.size < _; omega)).trans v14
  have z15 := B45.size
  have HB15 : Hid (Below w.heap.size w w15) := HB14.out.trans (B45.mono HB14.out.size)
  have HG15 : Hid (FOwn w15 b6 a5 u'' (mkTo G 1 u'') P5 Q5) := HG14.out.below B45
  clear hb15 HK14 HG14 HH14 al14 B45 v14 u14
  go_wp2_with fail
  refine (heldFilter_any b6 c5 u'' a5 G P5 Q5 1 _ (by omega) (by omega) (by omega) HU.out.1 HG15.out).mono ?_
  rw [← HKK.out]
  rintro e w16 ⟨rfl, hb16⟩
  have HB16 : Hid (Below w.heap.size w w16) := HB15.out.trans (hb16.mono HB15.out.size)
  clear hb16 HG15
  go_wp2
  go_ret
  exact ⟨rfl, HB16.out⟩

end Go.Proofs.YtjohocnfcnjciaaGreatDoor
