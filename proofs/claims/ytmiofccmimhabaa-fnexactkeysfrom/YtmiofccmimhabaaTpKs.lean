/- FnExactGetKey answers true at every treap and key: GetKey answers as the specification and writes into nothing. -/
import Derived.Test.YtmiofccmimhabaaTpK
namespace Go.Proofs.Ytmiofccmimhabaa
open Go.RowKit
set_option linter.unusedVariables false

/-- A tree's limbs lie in the row from i on. -/
def Emb (N : Nat → Lb) (n : Nat) (t : Bt) (i : Nat) : Prop := (∀ j x, (t.limbs i)[j]? = some x → N (i + j) = x) ∧ i + t.sz ≤ n
theorem Emb.node {N : Nat → Lb} {n b i : Nat} {k v : ByteArray} {l r : Bt} (h : Emb N n (.node b k v l r) i) : N i = ⟨k, v, l.top (i + 1), r.top (i + 1 + l.sz)⟩ ∧ Emb N n l (i + 1) ∧ Emb N n r (i + 1 + l.sz) ∧ i < n := by
  obtain ⟨hN, hs⟩ := h
  rw [Bt.sz] at hs
  refine ⟨?_, ⟨fun j x hx => ?_, by omega⟩, ⟨fun j x hx => ?_, by omega⟩, by omega⟩
  · have := hN 0 ⟨k, v, l.top (i + 1), r.top (i + 1 + l.sz)⟩ (by rw [Bt.limbs]; rfl)
    rwa [Nat.add_zero] at this
  · have := hN (1 + j) x (by
      rw [Bt.limbs, Nat.add_comm 1 j, List.getElem?_cons_succ, List.getElem?_append_left (List.getElem?_eq_some_iff.1 hx).1]
      exact hx)
    rwa [show i + (1 + j) = i + 1 + j by omega] at this
  · have := hN (1 + l.sz + j) x (by
      rw [Bt.limbs, show 1 + l.sz + j = (l.sz + j) + 1 by omega, List.getElem?_cons_succ, List.getElem?_append_right (by rw [Bt.limbs_len]; omega), Bt.limbs_len, Nat.add_sub_cancel_left]
      exact hx)
    rwa [show i + (1 + l.sz + j) = i + 1 + l.sz + j by omega] at this

set_option maxRecDepth 100000 in
set_option maxHeartbeats 2000000 in
theorem specGetKey_any (n c : Nat) (a : Option Addr) (N : Nat → Lb) (key : ByteArray) (w : World) (h : RowIs w w.heap.size (.slice a n c) n N) (hs : SmallR n N) :
    Calls Try.prog 22 #[.agg #[.slice a n c], .string key] w fun e w' => ∃ (v : ByteArray) (s : Int) (q : Bool), e = .returned (.tuple #[.string v, .int .i64 s, .bool q]) ∧ GkTold (lbs n N) key v s q ∧ Below w.heap.size w w' := by
  have HR0 : Hid (RowIs w w.heap.size (.slice a n c) n N) := h
  have HS : Hid ((lbs n N).length ≤ 2 ^ 20 ∧ ∀ x ∈ lbs n N, x.key.size ≤ 2 ^ 20 ∧ x.val.size ≤ 2 ^ 20) := hs.list
  clear h hs
  go_enter Try.func22, Try.ntmps22
  go_wp2_with fail
  obtain ⟨W0, hW0⟩ : ∃ W0, W0 = w.alloc (.cells #[.slice a n c] 31) := ⟨_, rfl⟩
  have b0 : Below w.heap.size w W0 := by rw [hW0]; exact (Below.refl _ _).alloc (Nat.le_refl _) _
  have z0 : W0.heap.size = w.heap.size + 1 := by rw [hW0]; simp
  have t0 : W0.cell? ⟨w.heap.size, 0, none⟩ = some (.slice a n c) := by rw [hW0]; simp [go_sem]
  rw [← hW0]
  have HR : Hid (∀ w', Below W0.heap.size W0 w' → RowIs w' w'.heap.size (.slice a n c) n N ∧ Below w.heap.size w w') := fun w' h => by
    have hb := b0.trans (h.mono (by omega))
    exact ⟨HR0.out.below hb hb.size, hb⟩
  clear hW0 b0
  refine (l7Of_any (lbs n N) _ _ ((HR.out _ (Below.refl _ _)).1).list HS.out.1 HS.out.2).mono ?_
  rintro e w1 ⟨⟨hg, T, v1, rfl, hTo, hTl, ho⟩ | ⟨hg, rfl⟩, hb1⟩
  · obtain ⟨a1, c1, rfl⟩ := ho.form
    have HB1 : Hid (Below W0.heap.size W0 w1) := hb1
    have t1 : w1.cell? ⟨w.heap.size, 0, none⟩ = some (.slice a n c) := (hb1.cell (by show w.heap.size < _; omega)).trans t0
    have z1 := hb1.size
    have HG : Hid (GoodL (lbs n N) ∧ T.ok ∧ T.limbs 0 = lbs n N) := ⟨hg, hTo, hTl⟩
    have hn60 : n ≤ 60 := by have := hg.1; rw [lbs_len] at this; exact this
    have hTn : T.sz = n := by rw [← T.limbs_len 0, hTl, lbs_len]
    have HE : Hid (Emb N n T 0) := ⟨fun i x hx => by
      rw [hTl] at hx
      obtain ⟨hi, rfl⟩ := List.getElem?_eq_some_iff.1 hx
      rw [Nat.zero_add]
      simp [lbs], by omega⟩
    have HTN : Hid (T.sz = n) := hTn
    clear hg hTo hTl ho hb1 t0 hTn
    obtain ⟨m1, hm1⟩ : ∃ m, m = T.ino.length := ⟨_, rfl⟩
    rw [← hm1]
    clear hm1
    by_cases hn0 : n = 0
    · have HD : Hid (GkTold (lbs n N) key ⟨#[]⟩ 0 false) := .inl ⟨HG.out.1, T, HG.out.2.1, HG.out.2.2, .inr ⟨by
        have := HTN.out
        cases T with
        | nil => rfl
        | node => rw [Bt.sz] at this; omega, rfl, rfl, rfl⟩⟩
      subst hn0
      go_wp2_with fail
      exact bodyPost_ret (v := .tuple #[.string ⟨#[]⟩, .int .i64 0, .bool false]) (by simp [results, Try.results22, go_sem]) rfl ⟨_, _, _, rfl, HD.out, (HR.out _ HB1.out).2⟩
    · have hn0' : ¬ (n : Int) = 0 := by omega
      have HTP : Hid (T.top 0 = 0) := by
        show _ = _
        have := HTN.out
        cases T with
        | nil => rw [Bt.sz] at this; omega
        | node => rfl
      obtain ⟨o, ho⟩ : ∃ o, o = T.fnd key 0 := ⟨_, rfl⟩
      have HO : Hid (o = T.fnd key 0) := ho
      clear ho
      go_wp2_with fail
      go_loopw [9, 10] (fun sv kv wr => ∃ (s i : Nat) (t : Bt), sv = .int .i64 s ∧ kv = .int .i64 (t.top i) ∧ s + t.sz ≤ 60 ∧ Hid (Emb N n t i ∧ o = t.fnd key s) ∧ Below w1.heap.size w1 wr) (fun sv _ _ => 61 - (intOf sv).toNat)
      case atStart => exact ⟨0, 0, T, rfl, by rw [HTP.out], by have := HTN.out; omega, ⟨HE.out, HO.out⟩, Below.refl _ _⟩
      case round =>
        obtain ⟨s, i, t, rfl, rfl, hst, HX, hbr⟩ := hrel
        have zr := hbr.size
        have t2 : wr.cell? ⟨w.heap.size, 0, none⟩ = some (.slice a n c) := (hbr.cell (by show w.heap.size < _; omega)).trans t1
        have HBR : Hid (Below w1.heap.size w1 wr ∧ Below w.heap.size w wr) := ⟨hbr, (HR.out _ (HB1.out.trans (hbr.mono z1))).2⟩
        clear hbr
        cases t with
        | nil =>
          have HD : Hid (GkTold (lbs n N) key ⟨#[]⟩ 0 false) := .inl ⟨HG.out.1, T, HG.out.2.1, HG.out.2.2, .inr ⟨by rw [← HO.out]; exact HX.out.2, rfl, rfl, rfl⟩⟩
          rw [show Bt.nil.top i = -1 from rfl]
          clear HX
          go_wp2_with fail
          exact bodyPost_ret (v := .tuple #[.string ⟨#[]⟩, .int .i64 0, .bool false]) (by simp [results, Try.results22, go_sem]) rfl ⟨_, _, _, rfl, HD.out, HBR.out.2⟩
        | node b k v l r =>
          obtain ⟨hNi, hEl, hEr, hin⟩ := HX.out.1.node
          have HF : Hid (o = if kLt key k then l.fnd key (s + 1) else if kLt k key then r.fnd key (s + 1) else some (v, s + 1)) := HX.out.2
          have HEE : Hid (Emb N n l (i + 1) ∧ Emb N n r (i + 1 + l.sz)) := ⟨hEl, hEr⟩
          have hsz : s + 1 + l.sz ≤ 60 ∧ s + 1 + r.sz ≤ 60 := by rw [Bt.sz] at hst; omega
          have hs59 : s < 60 := by omega
          obtain ⟨a', c', e', _, hrow⟩ := HR0.out
          have e'' := e'
          simp only [Value.slice.injEq] at e''
          obtain ⟨rfl, _, rfl⟩ := e''
          clear e'
          rcases hrow with h1 | ⟨g, off, rfl, hg, hat⟩
          · omega
          obtain ⟨a0, a1, a2, a3⟩ := hat.below HBR.out.2 hg i hin
          rw [hNi] at a0 a1 a2 a3
          dsimp only at a0 a1 a2 a3
          obtain ⟨lt, hlt⟩ : ∃ t, t = l.top (i + 1) := ⟨_, rfl⟩
          obtain ⟨rt, hrt⟩ : ∃ t, t = r.top (i + 1 + l.sz) := ⟨_, rfl⟩
          have HLT : Hid (lt = l.top (i + 1) ∧ rt = r.top (i + 1 + l.sz)) := ⟨hlt, hrt⟩
          rw [← hlt] at a2
          rw [← hrt] at a3
          have j0 : (0 : Int) ≤ (i : Int) := by omega
          have j1 : (i : Int) < (n : Int) := by omega
          have hgw : g < wr.heap.size := by omega
          have HAL : Hid (∀ o, Below w1.heap.size w1 (wr.alloc o) ∧ Below w.heap.size w (wr.alloc o)) := fun o => ⟨HBR.out.1.trans ((Below.refl _ _).alloc zr o), HBR.out.2.trans ((Below.refl _ _).alloc (by omega) o)⟩
          rw [show (Bt.node b k v l r).top i = (i : Int) from rfl]
          clear hat hNi hEl hEr hst HX hlt hrt
          cases hke : (k.toList == key.toList) with
          | true =>
            have ek : k = key := toL_inj (eq_of_beq hke)
            have HD : Hid (GkTold (lbs n N) key v ((s : Int) + 1) true) := .inl ⟨HG.out.1, T, HG.out.2.1, HG.out.2.2, .inl ⟨s + 1, by
              rw [← HO.out, HF.out, ek, if_neg (kLt.irr _), if_neg (kLt.irr _)], by omega, rfl⟩⟩
            clear ek
            go_wp2_with fail
            exact bodyPost_ret (v := .tuple #[.string v, .int .i64 ((s : Int) + 1), .bool true]) (by simp [results, Try.results22, go_sem]) rfl ⟨_, _, _, rfl, HD.out, (HAL.out _).2⟩
          | false =>
            have hne : k ≠ key := fun e => by rw [e] at hke; simp at hke
            cases hkl : Op.bytesLess key.toList k.toList with
            | true =>
              have HF' : Hid (o = l.fnd key (s + 1)) := by show _ = _; rw [HF.out, if_pos (show kLt key k from hkl)]
              clear hne
              go_wp2_with fail
              go_roundw
              case rel => exact ⟨s + 1, i + 1, l, by go_num, congrArg (Value.int .i64) HLT.out.1, hsz.1, ⟨HEE.out.1, HF'.out⟩, (HAL.out _).1⟩
              case measure => simp [intOf]; omega
            | false =>
              have hlt2 : kLt k key := by
                rcases kLt_tri k key with h | h | h
                · exact h
                · exact absurd h hne
                · unfold kLt at h; rw [hkl] at h; cases h
              have HF' : Hid (o = r.fnd key (s + 1)) := by show _ = _; rw [HF.out, if_neg (show ¬ kLt key k from fun h => by unfold kLt at h; rw [hkl] at h; cases h), if_pos hlt2]
              clear hne hlt2
              go_wp2_with fail
              go_roundw
              case rel => exact ⟨s + 1, i + 1 + l.sz, r, by go_num, congrArg (Value.int .i64) HLT.out.2, hsz.2, ⟨HEE.out.2, HF'.out⟩, (HAL.out _).1⟩
              case measure => simp [intOf]; omega
  · have HB1 : Hid (Below W0.heap.size W0 w1) := hb1
    have t1 : w1.cell? ⟨w.heap.size, 0, none⟩ = some (.slice a n c) := (hb1.cell (by show w.heap.size < _; omega)).trans t0
    have HD : Hid (GkTold (lbs n N) key ⟨#[]⟩ 0 false) := .inr ⟨hg, rfl, rfl, rfl⟩
    clear hg hb1 t0
    go_wp2_with fail
    exact bodyPost_ret (v := .tuple #[.string ⟨#[]⟩, .int .i64 0, .bool false]) (by simp [results, Try.results22, go_sem]) rfl ⟨_, _, _, rfl, HD.out, (HR.out _ HB1.out).2⟩

set_option maxRecDepth 100000 in
set_option maxHeartbeats 2000000 in
theorem getKey_law (a : Option Addr) (c n : Nat) (N : Nat → Lb) (key : ByteArray) (w : World) (hn : n ≤ maxLen) (h : ArgR w a n N) (hz : ∀ i, i < n → (N i).key.size ≤ maxLen ∧ (N i).val.size ≤ maxLen) (hkey : key.size ≤ maxLen) :
    Calls Try.prog 6 #[.agg #[.slice a n c], .string key] w fun e w' => e = .returned (.bool true) ∧ Below w.heap.size w w' := by
  have HZ : Hid (∀ i, i < n → (N i).key.size ≤ maxLen ∧ (N i).val.size ≤ maxLen) := hz
  have H : Hid (ArgR w a n N) := h
  clear hz h
  unfold maxLen at hkey
  by_cases hk20 : key.size ≤ 1048576
  case neg =>
    have hk' : (1048576 : Int) < (key.size : Int) := by omega
    go_enter Try.func6, Try.ntmps6
    go_wp2_with fail
    go_ret
    exact ⟨rfl, by go_grown⟩
  have hk' : ¬ (1048576 : Int) < (key.size : Int) := by omega
  go_enter Try.func6, Try.ntmps6
  go_wp2_with fail
  have hbl0 : ∀ o, Below w.heap.size w (w.alloc o) := fun o => (Below.refl _ _).alloc (Nat.le_refl _) o
  refine (szTreap_any a c n N _ hn (H.out.below (hbl0 _)) HZ.out).mono ?_
  rintro e w1 ⟨r, rfl, hr, hb1⟩
  have x1 : w1.cell? ⟨w.heap.size, 0, none⟩ = some (.slice a n c) := by rw [hb1.cell (by simp)]; simp [go_sem]
  have HB1 : Hid (Below w.heap.size w w1) := (hbl0 _).trans (hb1.mono (by simp))
  have z1 : w.heap.size < w1.heap.size := by have := hb1.size; simp at this; omega
  clear hb1 hbl0
  rcases hr with rfl | ⟨r0, hsm⟩
  · go_wp2
    go_ret
    exact ⟨rfl, HB1.out⟩
  have HSM : Hid (SmallR n N) := hsm
  have n20 : n ≤ 2 ^ 20 := hsm.1
  have r1 : ¬ r < 0 := by omega
  clear hsm
  go_wp2_with fail
  refine (toTreap_any a c n N _ n20 (H.out.below HB1.out)).mono ?_
  rintro e w2 ⟨b2, a2, c2, rfl, l2, m2, ho2, hb2⟩
  have x2 : w2.cell? ⟨w.heap.size, 0, none⟩ = some (.slice a n c) := (hb2.cell z1).trans x1
  have HB2 : Hid (Below w.heap.size w w2) := HB1.out.trans (hb2.mono HB1.out.size)
  have z2 : w.heap.size < w2.heap.size := by have := hb2.size; omega
  have HO2 : Hid (OwnR w2 b2 (.slice a2 n c2) n N) := ho2
  clear ho2 hb2 l2 m2
  go_wp2_with fail
  refine (specGetKey_any n c2 a2 N key _ HO2.out.row HSM.out).mono ?_
  rintro e w3 ⟨v, d, q, rfl, hq, hb3⟩
  have HQ : Hid (GkTold (lbs n N) key v d q) := hq
  have x3 : w3.cell? ⟨w.heap.size, 0, none⟩ = some (.slice a n c) := (hb3.cell z2).trans x2
  have HB3 : Hid (Below w.heap.size w w3) := HB2.out.trans (hb3.mono HB2.out.size)
  have z3 : w.heap.size < w3.heap.size := by have := hb3.size; omega
  clear hb3 hq HO2
  go_wp2_with fail
  refine (toTreap_any a c n N _ n20 (H.out.below HB3.out)).mono ?_
  rintro e w4 ⟨b4, a4, c4, rfl, l4, m4, ho4, hb4⟩
  have x4 : w4.cell? ⟨w.heap.size, 0, none⟩ = some (.slice a n c) := (hb4.cell z3).trans x3
  have HB4 : Hid (Below w.heap.size w w4) := HB3.out.trans (hb4.mono HB3.out.size)
  have z4 : w.heap.size < w4.heap.size := by have := hb4.size; omega
  have HO4 : Hid (OwnR w4 b4 (.slice a4 n c4) n N) := ho4
  clear ho4 hb4 l4 m4
  go_wp2_with fail
  have hal : ∀ o, Below w4.heap.size w4 (w4.alloc o) := fun o => (Below.refl _ _).alloc (Nat.le_refl _) o
  refine (implGetKey_any n c4 a4 N key _ (HO4.out.below (hal _)).row HSM.out).mono ?_
  rintro e w5 ⟨v', d', g, rfl, hg, hb5⟩
  obtain ⟨rfl, rfl, rfl⟩ := hg.same HQ.out
  have x5 : w5.cell? ⟨w.heap.size, 0, none⟩ = some (.slice a n c) := by rw [hb5.cell (by simp; omega)]; simp [World.cell?_alloc_past, z4, x4]
  have y5 : w5.cell? ⟨w4.heap.size, 0, none⟩ = some (.slice a4 n c4) := by rw [hb5.cell (by simp)]; simp [World.cell?_alloc_new]
  have hbb : Below w4.heap.size w4 w5 := (hal _).trans (hb5.mono (by simp))
  have HB5 : Hid (Below w.heap.size w w5) := HB4.out.trans (hbb.mono HB4.out.size)
  have z5 : w4.heap.size < w5.heap.size := by have := hb5.size; simp at this; omega
  have z5' : w.heap.size < w5.heap.size := by omega
  have HO5 : Hid (OwnR w5 b4 (.slice a4 n c4) n N) := HO4.out.below hbb
  clear hb5 hbb hal hg HO4
  go_wp2_with fail
  go_region_held3 (fun w' => w'.cell? ⟨w.heap.size, 0, none⟩ = some (.slice a n c) ∧ w'.cell? ⟨w4.heap.size, 0, none⟩ = some (.slice a4 n c4)) (first | exact ⟨x5, y5⟩ | exact ⟨(hc7 _ _ (Nat.lt_of_lt_of_le z5' zz6)).trans ((hc6 _ _ z5').trans x5), (hc7 _ _ (Nat.lt_of_lt_of_le z5 zz6)).trans ((hc6 _ _ z5).trans y5)⟩ | exact ⟨(hc6 _ _ z5').trans x5, (hc6 _ _ z5).trans y5⟩)
    (first | (go_at_call 15; refine (toTreap_any a c n N _ n20 (H.out.below (HB5.out.drew))).mono ?_; rintro e w6 ⟨b6, a6, c6, rfl, l6, m6, ho6, hb6⟩; obtain ⟨hc6, hf6⟩ := bcell hb6; have zz6 := hb6.size) | (go_at_call 17; refine (eqTreap_any _ _ n N _ ((HO5.out.below ((Below.refl _ w5).drew.trans hb6)).row) ho6.row).mono ?_; rintro e w7 ⟨rfl, hb7⟩; obtain ⟨hc7, hf7⟩ := bcell hb7))
  go_wp2
  go_ret
  exact ⟨rfl, (HB5.out.drew.trans (hb6.mono HB5.out.size)).trans (hb7.mono (Nat.le_trans HB5.out.size zz6))⟩

end Go.Proofs.Ytmiofccmimhabaa
