/- A key cut: the specification's CutKey. -/
import Derived.Test.YtmiofccmimhabaaTpXs
namespace Go.Proofs.Ytmiofccmimhabaa
open Go.RowKit
set_option linter.unusedVariables false

theorem PAt.part {w : World} {b off c : Nat} {l : List Pr} (h : PAt w b off l) : PartT w (some ⟨b, off, none⟩) l.length c 2 (prCells l) := by
  refine ⟨pr_len l, pr_one l, .inr ⟨_, rfl, fun j u hu => ?_⟩⟩
  have e : (⟨b, off, none⟩ : Addr).add j = ⟨b, off + j, none⟩ := by unfold Addr.add; split <;> simp_all
  rw [e]
  have hj : j < l.length * 2 := by rw [← pr_len]; exact (List.getElem?_eq_some_iff.1 hu).1
  obtain ⟨p, hp⟩ : ∃ p, l[j / 2]? = some p := ⟨l[j / 2]'(by omega), List.getElem?_eq_getElem _⟩
  obtain ⟨g1, g2⟩ := pr_get l (j / 2) p hp
  obtain ⟨k1, k2⟩ := h (j / 2) p hp
  rcases (by omega : j = j / 2 * 2 ∨ j = j / 2 * 2 + 1) with e | e
  · rw [← e] at g1 k1
    rw [k1, ← g1, hu]
  · rw [← e] at g2
    rw [show off + j / 2 * 2 + 1 = off + j by omega] at k2
    rw [k2, ← g2, hu]
theorem PSrc.any {w : World} {v : Value} {l : List Pr} {X : Nat → Prop} (h : PSrc w v l X) : PSrc w v l (fun _ => True) := by
  obtain ⟨a, c, e, hc, h⟩ := h
  exact ⟨a, c, e, hc, h.imp id fun ⟨b, off, e, hb, _, hat⟩ => ⟨b, off, e, hb, trivial, hat⟩⟩
theorem PAt.below {w w' : World} {B b off : Nat} {l : List Pr} (h : PAt w b off l) (hb : Below B w w') (hB : b < B) : PAt w' b off l := fun i p hp => ⟨(hb.cell hB).trans (h i p hp).1, (hb.cell hB).trans (h i p hp).2⟩

theorem step_append_partT {w : World} {ops : Array Oper} {o : Oper} {a : Act} {K : Act → World → Prop} {Q : Exit → Act → World → Prop} {E : Prop} (hgd : o.guard = none) (s x : Operand) (t : TypeId)
    (ho : o.op = .call { callee := .builtin .append, args := #[s, x], argTypes := #[t, t] })
    (base : Nat) (e : TypeId) (i : TypeInfo) (z : Value) (size bytes : Nat) (ht : Try.prog.underlying t = some (.slice e)) (hi : Try.prog.info? e = some i) (hz : i.zero = some z)
    (hsize : i.size = size) (hby : i.bytes = bytes) (hzs : z.cells.size = size) (hsz : 0 < size)
    (v : Value) (n : Nat) (xs : List Value) (hs : a.eval s = v) (hown : w.ownsRow base e size v n xs)
    (ax : Option Addr) (m c : Nat) (news : List Value) (hx : a.eval x = .slice ax m c) (hp : PartT w ax m c size news)
    (h63 : n + m ≤ maxLen) (hbytes : (n + m) * bytes ≤ 140737488355328) (hbase : base ≤ w.heap.size)
    (h : ∀ v' w', w'.ownsRow base e size v' (n + m) (xs ++ news) → w.grownBy w' v.ownBlock → K (a.put o.dst v') w') :
    if Region.wanted o (yielded ops a.tmps) = true then Oper.wp Try.prog o a w K Q else E := by
  have hw : Region.wanted o (yielded ops a.tmps) = true := by simp [Region.wanted, hgd]
  rw [if_pos hw]
  obtain ⟨hl, h1, ⟨rfl, rfl, rfl⟩ | ⟨ad, rfl, hc⟩⟩ := hp
  · obtain rfl : news = [] := List.eq_nil_of_length_eq_zero (by simpa using hl)
    subst hsize
    have hr := run_append_owned_none (P := Try.prog) (w := w) base t o.type e i i.size ht hi v n xs hown
    unfold Oper.wp execOp
    simp only [ho, resolve, invoke, builtin, Sem.run_bind, Sem.run_pure, Result.andThen_ok, List.map_toArray, List.map_cons, List.map_nil, hs, hx, hr]
    exact h v w (by simpa using hown) ⟨rfl, rfl, rfl, Nat.le_refl _, fun _ _ _ => rfl⟩
  · obtain ⟨v', w', hr, h4, h5, _, _⟩ := run_append_own_at (P := Try.prog) w base t o.type e i z size bytes ht hi hz hsize hby hzs hsz v n xs hown ad m c news hl hc h1 h63 hbytes hbase
    unfold Oper.wp execOp
    simp only [ho, resolve, invoke, builtin, Sem.run_bind, Sem.run_pure, Result.andThen_ok, List.map_toArray, List.map_cons, List.map_nil, hs, hx, hr]
    exact h v' w' h4 h5

/-- What CutKey answers. -/
def CutGot (Ls : List Lb) (key : ByteArray) (w : World) (e : Ending) (w' : World) : Prop := ∃ (v : Value) (q : Bool) (g : Nat) (L : List Lb), e = .returned (.tuple #[.agg #[v], .bool q]) ∧ CTold Ls key q L ∧ (L ≠ [] → w.heap.size ≤ g) ∧ OwnR w' g v L.length (lbAt L) ∧ Below w.heap.size w w'

set_option maxRecDepth 100000 in
set_option maxHeartbeats 4000000 in
theorem specCut_own (n c : Nat) (a : Option Addr) (N : Nat → Lb) (key : ByteArray) (w : World) (h : RowIs w w.heap.size (.slice a n c) n N) (hs : SmallR n N) :
    Calls Try.prog 24 #[.agg #[.slice a n c], .string key] w (CutGot (lbs n N) key w) := by
  have HR : Hid (RowIs w w.heap.size (.slice a n c) (lbs n N).length (lbAt (lbs n N))) := h.list
  have HS : Hid ((lbs n N).length ≤ 2 ^ 20 ∧ ∀ x ∈ lbs n N, x.key.size ≤ 2 ^ 20 ∧ x.val.size ≤ 2 ^ 20) := hs.list
  clear h hs
  have HNO : Hid (∀ w' : World, OwnR w' 0 (.slice none 0 0) ([] : List Lb).length (lbAt [])) := fun w' => ⟨none, 0, 0, rfl, by simp, .inl rfl⟩
  go_enter Try.func24, Try.ntmps24
  go_wp2_with fail
  obtain ⟨W0, hW0⟩ : ∃ W0, W0 = (w.alloc (.cells #[.slice a n c] 31)).alloc (.cells #[.slice none 0 0] 31) := ⟨_, rfl⟩
  have b0 : Below w.heap.size w W0 := by rw [hW0]; exact ((Below.refl _ _).alloc (Nat.le_refl _) _).alloc (by simp) _
  have z0 : W0.heap.size = w.heap.size + 1 + 1 := by rw [hW0]; simp
  have r0 : W0.cell? ⟨w.heap.size + 1, 0, none⟩ = some (.slice none 0 0) := by rw [hW0]; simp [go_sem]
  have f0 : W0.frozen? ⟨w.heap.size + 1, 0, none⟩ = false := by rw [hW0]; simp [go_sem]
  rw [← hW0]
  have HB0 : Hid (Below w.heap.size w W0) := b0
  have HK : Hid (∀ w', Below W0.heap.size W0 w' → Below w.heap.size w w' ∧ w'.cell? ⟨w.heap.size + 1, 0, none⟩ = some (.slice none 0 0) ∧ w'.frozen? ⟨w.heap.size + 1, 0, none⟩ = false ∧ w.heap.size + 1 < w'.heap.size) := fun w' h =>
    ⟨b0.trans (h.mono (by omega)), (h.cell (by show w.heap.size + 1 < _; omega)).trans r0, (h.frozen (by show w.heap.size + 1 < _; omega)).trans f0, by have := h.size; omega⟩
  have HKS : Hid (∀ (w' : World) (u : Value), Below w.heap.size w w' → Below w.heap.size w (w'.setCell ⟨w.heap.size + 1, 0, none⟩ u)) := fun w' u h => h.setCell (by simp) _
  clear hW0 b0 r0 f0
  refine (l7Of_any (lbs n N) _ _ (HR.out.below HB0.out (by omega)) HS.out.1 HS.out.2).mono ?_
  rintro e w1 ⟨⟨hg, T, v1, rfl, hTo, hTl, ho⟩ | ⟨hg, rfl⟩, hb1⟩
  · obtain ⟨g1, r1, f1, q1⟩ := HK.out w1 hb1
    have HB1 : Hid (Below W0.heap.size W0 w1) := hb1
    have HO : Hid (OwnsP w1 W0.heap.size v1 T.ino) := ho
    have HG : Hid (GoodL (lbs n N) ∧ T.ok ∧ T.limbs 0 = lbs n N) := ⟨hg, hTo, hTl⟩
    have hT60 : T.sz ≤ 60 := by rw [← T.limbs_len 0, hTl]; exact hg.1
    have HT60 : Hid (T.ino.length ≤ 60) := by show _ ≤ _; rw [Bt.ino_len]; exact hT60
    have HKS20 : Hid (∀ p ∈ T.ino, p.1.size ≤ 2 ^ 20) := fun p hp => by
      have := (Bt.limbs_kv T p 0).2 hp
      rw [hTl] at this
      obtain ⟨x, hx, rfl⟩ := List.mem_map.1 this
      exact (HS.out.2 x hx).1
    obtain ⟨a1, c1, rfl⟩ := ho.form
    have z1 := hb1.size
    have HW1 : Hid (Below w.heap.size w w1) := g1
    obtain ⟨l, hl⟩ : ∃ l, l = T.ino := ⟨_, rfl⟩
    rw [← hl] at HO HT60 HKS20 ⊢
    have HL : Hid (l = T.ino) := hl
    obtain ⟨m, hm⟩ : ∃ m, m = l.length := ⟨_, rfl⟩
    have HM : Hid (m = l.length) := hm
    rw [← hm] at HO HT60 ⊢
    have HSR : Hid (PSrc w1 (.slice a1 m c1) l (fun _ => True)) := HO.out.src.any
    have hm60 : m ≤ 60 := HT60.out
    clear hg hTo hTl ho hb1 g1 hl hm HT60 hT60
    go_wp2_with fail
    refine (l7At_any l key _ _ HSR.out (by rw [← HM.out]; exact hm60)).mono ?_
    rintro e w2 ⟨k, q, rfl, hat, hb2⟩
    have HB2 : Hid (Below W0.heap.size W0 w2) := HB1.out.trans (hb2.mono z1)
    obtain ⟨g2, r2, f2, q2⟩ := HK.out w2 HB2.out
    have HW2 : Hid (Below w.heap.size w w2) := g2
    have HAT : Hid (AtIs l key k q) := hat
    have z2 := hb2.size
    have HO2 : Hid (OwnsP w2 W0.heap.size (.slice a1 m c1) l) := HO.out.below hb2
    clear hat g2 hb2 r1 f1 q1
    cases q with
    | false =>
      have HD : Hid (CTold (lbs n N) key false []) := .inr ⟨fun _ => ⟨T, HG.out.2.1, HG.out.2.2, by rw [← HL.out]; exact at_no (by rw [HL.out]; exact HG.out.2.1.1) HAT.out⟩, rfl, rfl⟩
      go_wp2_with fail
      exact bodyPost_ret (v := .tuple #[.agg #[.slice none 0 0], .bool false]) (by simp [results, Try.results24, go_sem, r2]) rfl ⟨_, _, 0, [], rfl, HD.out, fun h => absurd rfl h, HNO.out _, HKS.out _ _ HW2.out⟩
    | true =>
      obtain ⟨hfl, hkl, hno⟩ := at_yes (by rw [HL.out]; exact HG.out.2.1.1) HAT.out
      rw [← HM.out] at hkl
      obtain ⟨S, hSo, hSi⟩ := tree_of_row (l.filter (fun p => decide (p.1 ≠ key))) (srt_filter (by rw [HL.out]; exact HG.out.2.1.1) _)
      have HSS : Hid (S.ok ∧ S.ino = l.take k ++ l.drop (k + 1)) := ⟨hSo, hSi.trans hfl⟩
      have HSZ : Hid (S.sz ≤ 60) := by
        show _ ≤ _
        rw [← Bt.ino_len, hSi]
        have := List.length_filter_le (fun p : Pr => decide (p.1 ≠ key)) l
        rw [← HM.out] at this
        omega
      have HD : Hid (CTold (lbs n N) key true (S.limbs 0)) := .inl ⟨HG.out.1, T, S, HG.out.2.1, HG.out.2.2, by rw [← HL.out]; exact hno, rfl, hSo, by rw [hSi, HL.out], rfl⟩
      obtain ⟨b, off, hae, hb, hPA⟩ : ∃ b off, a1 = some ⟨b, off, none⟩ ∧ b < w2.heap.size ∧ PAt w2 b off l := by
        obtain ⟨a', c', e', hc', h0 | ⟨b, off, e2, hb, _, hat⟩⟩ := HO2.out.src
        · rw [HM.out, h0] at hkl; simp at hkl
        · cases e'
          exact ⟨b, off, e2, hb, hat⟩
      subst hae
      have hmc : m ≤ c1 := by
        obtain ⟨a', c', e', hc', _⟩ := HO2.out.src
        have e'' := e'
        simp only [Value.slice.injEq] at e''
        rw [HM.out, e''.2.2]
        exact hc'
      obtain ⟨A, hA⟩ : ∃ A, A = l.take k := ⟨_, rfl⟩
      obtain ⟨C, hC⟩ : ∃ C, C = l.drop (k + 1) := ⟨_, rfl⟩
      have hAk : A.length = k := by rw [hA, List.length_take]; have := HM.out; omega
      have hCk : C.length = m - (k + 1) := by rw [hC, List.length_drop, ← HM.out]
      have HP : Hid (∀ w', Below w2.heap.size w2 w' → ∀ c d, PartT w' (some ⟨b, off, none⟩) k c 2 (prCells A) ∧ PartT w' (some ⟨b, off + (k + 1) * 2, none⟩) (m - (k + 1)) d 2 (prCells C)) := fun w' hbb c d => by
        have hp : PAt w' b off (A ++ l[k]'(by rw [← HM.out]; exact hkl) :: C) := by
          have e : A ++ l[k]'(by rw [← HM.out]; exact hkl) :: C = l := by rw [hA, hC]; simp
          rw [e]
          exact hPA.below hbb hb
        have h1 := hp.left.part (c := c)
        have h2 := hp.right.part (c := d)
        rw [hAk] at h1 h2
        rw [hCk] at h2
        exact ⟨h1, h2⟩
      have HSS' : Hid (S.ok ∧ S.ino = A ++ C) := by rw [hA, hC]; exact HSS.out
      have HAC : Hid (A.length = k ∧ C.length = m - (k + 1)) := ⟨hAk, hCk⟩
      have HSK : ∀ p ∈ S.ino, p.1.size ≤ 2 ^ 20 := fun p hp => HKS20.out p (by rw [hSi] at hp; exact (List.mem_filter.1 hp).1)
      clear hfl hno hSo hSi HSS hPA hA hC hAk hCk HAT HSR HO
      have j0 : (0 : Int) ≤ (k : Int) := by omega
      have j1 : (k : Int) < (m : Int) := by omega
      have j2 : (k : Int) ≤ (c1 : Int) := by omega
      have j3 : (m : Int) ≤ (c1 : Int) := by omega
      have j4 : (k : Int) + 1 ≤ (m : Int) := by omega
      have j5 : k ≤ c1 := by omega
      have j7 : k + 1 ≤ m := by omega
      have j8 : (0 : Int) ≤ (k : Int) + 1 := by omega
      have j9 : ((k : Int) + 1).toNat = k + 1 := by omega
      have j10 : IntKind.i64.wrap ((k : Int) + 1) = (k : Int) + 1 := by rw [IntKind.wrap_i64]; omega
      have HP2 : Hid (∀ w', Below w2.heap.size w2 w' → PartT w' (if c1 = k + 1 then some (⟨b, off, none⟩ : Addr) else some ⟨b, off + (k + 1) * 2, none⟩) (m - (k + 1)) (c1 - (k + 1)) 2 (prCells C)) := fun w' hbb => by
        by_cases e : c1 = k + 1
        · rw [if_pos e]
          have h := (HP.out w' hbb 0 (c1 - (k + 1))).2
          refine ⟨h.1, h.2.1, .inr ⟨_, rfl, fun j u hu => ?_⟩⟩
          have e0 : C = [] := List.eq_nil_of_length_eq_zero (by rw [HAC.out.2]; omega)
          rw [e0] at hu
          simp [prCells] at hu
        · rw [if_neg e]
          exact (HP.out w' hbb 0 (c1 - (k + 1))).2
      obtain ⟨iN, hi, hz0, hz1, hz2⟩ := info_parts infoPr
      have HI : Hid (Try.prog.info? 64 = some iN ∧ iN.zero = some (.agg #[.string ⟨#[]⟩, .string ⟨#[]⟩]) ∧ iN.size = 2 ∧ iN.bytes = 32) := ⟨hi, hz0, hz1, hz2⟩
      have HOE : Hid ((w2.alloc (.cells #[] 64)).drew.ownsRow w2.heap.size 64 2 (.slice (some ⟨w2.heap.size, 0, none⟩) 0 0) 0 []) := World.ownsRow.drew (World.ownsRow_lit w2 #[] 0 (Nat.le_refl _) (by decide) rfl)
      have HBE : Hid (Below w2.heap.size w2 (w2.alloc (.cells #[] 64)).drew) := ((Below.refl _ _).alloc (Nat.le_refl _) _).drew
      have HSE : Hid (w2.heap.size ≤ (w2.alloc (.cells #[] 64)).drew.heap.size) := HBE.out.size
      have HP1 : Hid (PartT (w2.alloc (.cells #[] 64)).drew (some ⟨b, off, none⟩) k c1 2 (prCells A)) := (HP.out _ HBE.out c1 0).1
      clear hi hz0 hz1 hz2 HP
      have HFIN : Hid (∀ v6 w6 v7 w7, w6.ownsRow w2.heap.size 64 2 v6 (0 + k) ([] ++ prCells A) → Below w2.heap.size w2 w6 → w7.ownsRow w2.heap.size 64 2 v7 (0 + k + (m - (k + 1))) ([] ++ prCells A ++ prCells C) → w6.grownBy w7 v6.ownBlock → PSrc w7 v7 S.ino (fun _ => True) ∧ Below w2.heap.size w2 w7) := fun v6 w6 v7 w7 h6 hb6 h7 hg7 => by
        refine ⟨?_, grown_belowT hb6 hb6.size h6 hg7⟩
        have : OwnsP w7 w2.heap.size v7 (A ++ C) := by
          unfold OwnsP
          rw [pr_app, List.length_append, HAC.out.1, HAC.out.2]
          simpa using h7
        rw [HSS'.out.2]
        exact this.src.any
      have HKS2 : Hid (∀ p ∈ S.ino, p.1.size ≤ 2 ^ 20) := HSK
      go_wp2_with fail
      go_region_law (first
        | (refine step_append_partT (by rfl) _ _ 53 (by rfl) w2.heap.size 64 iN _ 2 32 Try.underlying53 HI.out.1 HI.out.2.1 HI.out.2.2.1 HI.out.2.2.2 rfl (by decide) (.slice (some ⟨w2.heap.size, 0, none⟩) 0 0) 0 [] (by rfl) HOE.out (some ⟨b, off, none⟩) k c1 (prCells A) (by rfl) HP1.out (by unfold maxLen; omega) (by omega) HSE.out ?_; intro v6 w6 hown6 hg6; have hb6 : Below w2.heap.size w2 w6 := grown_belowT HBE.out HSE.out HOE.out hg6; have HP6 := HP2.out w6 hb6; have z6 := hb6.size)
        | (refine step_append_partT (by rfl) _ _ 53 (by rfl) w2.heap.size 64 iN _ 2 32 Try.underlying53 HI.out.1 HI.out.2.1 HI.out.2.2.1 HI.out.2.2.2 rfl (by decide) v6 (0 + k) ([] ++ prCells A) (by rfl) hown6 (if c1 = k + 1 then some ⟨b, off, none⟩ else some ⟨b, off + (k + 1) * 2, none⟩) (m - (k + 1)) (c1 - (k + 1)) (prCells C) (by rfl) HP6 (by unfold maxLen; omega) (by omega) z6 ?_; intro v7 w7 hown7 hg7; obtain ⟨hsrc7, hb7⟩ := HFIN.out v6 w6 v7 w7 hown6 hb6 hown7 hg7)
        | (go_simp; go_at_call 42; refine (l7Treap_any S v7 w7 hsrc7 HSS'.out.1 HKS2.out (by have := HSZ.out; omega)).mono ?_; rintro e w8 ⟨a8, c8, rfl, ho8, hb8⟩; have hB8 := HB2.out.trans ((hb7.trans (hb8.mono hb7.size)).mono (Nat.le_trans z1 z2)); obtain ⟨g8, r8, f8, q8⟩ := HK.out w8 hB8))
      all_goals
        obtain ⟨gb, hgb, hR8⟩ := own_of_row ho8 (by rw [Bt.limbs_len]; have := HSZ.out; omega) zeroLb
        have HGB : Hid (S.limbs 0 ≠ [] → w.heap.size + 1 < gb) := fun h => by have := hgb h; have := hb7.size; omega
        have HRS : Hid (∀ u, OwnR (w8.setCell ⟨w.heap.size + 1, 0, none⟩ u) gb (.slice a8 (S.limbs 0).length c8) (S.limbs 0).length (lbAt (S.limbs 0))) := fun u => hR8.but2 (BelowBut.setCell _ _ _) (fun h => by
          have := HGB.out (fun e => h (by rw [e]; rfl))
          omega)
        have HW8 : Hid (Below w.heap.size w w8) := g8
        obtain ⟨L, hL⟩ : ∃ L, L = S.limbs 0 := ⟨_, rfl⟩
        rw [← hL] at HRS HGB HD ⊢
        obtain ⟨m8, hm8⟩ : ∃ m, m = L.length := ⟨_, rfl⟩
        rw [← hm8] at HRS ⊢
        have HM8 : Hid (m8 = L.length) := hm8
        clear hL hm8 hR8 hgb g8 ho8 hb8 hB8 hown6 hg6 hown7 hg7 hb6 hb7 hsrc7 HP6 HP2
        generalize (if c1 = k + 1 then some (⟨b, off, none⟩ : Addr) else some ⟨b, off + (k + 1) * 2, none⟩) = ax
        go_wp2_with fail
        refine bodyPost_ret (v := .tuple #[.agg #[.slice a8 m8 c8], .bool true]) (by simp [results, Try.results24, go_sem, r8]) rfl ⟨_, _, gb, L, rfl, HD.out, fun h => by have := HGB.out h; omega, ?_, HKS.out _ _ HW8.out⟩
        rw [← HM8.out]
        exact HRS.out _
  · obtain ⟨g1, r1, f1, q1⟩ := HK.out w1 hb1
    have HW1 : Hid (Below w.heap.size w w1) := g1
    have HB1 : Hid (Below W0.heap.size W0 w1) := hb1
    have HD : Hid (CTold (lbs n N) key false []) := .inr ⟨fun h => absurd h hg, rfl, rfl⟩
    have z1 := hb1.size
    clear hg hb1 g1
    go_wp2_with fail
    refine (l7At_any [] key _ _ ⟨none, 0, rfl, Nat.le_refl _, .inl rfl⟩ (by simp)).mono ?_
    rintro e w2 ⟨k, q, rfl, hat, hb2⟩
    have HB2 : Hid (Below W0.heap.size W0 w2) := HB1.out.trans (hb2.mono z1)
    obtain ⟨g2, r2, f2, q2⟩ := HK.out w2 HB2.out
    have HW2 : Hid (Below w.heap.size w w2) := g2
    clear hat g2 hb2 r1 f1 q1
    go_wp2_with fail
    exact bodyPost_ret (v := .tuple #[.agg #[.slice none 0 0], .bool false]) (by simp [results, Try.results24, go_sem, r2]) rfl ⟨_, _, 0, [], rfl, HD.out, fun h => absurd rfl h, HNO.out _, HKS.out _ _ HW2.out⟩
end Go.Proofs.Ytmiofccmimhabaa
