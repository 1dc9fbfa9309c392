/- A key put: the program's PutKey. -/
import Derived.Test.YtmiofccmimhabaaTpXc
namespace Go.Proofs.Ytmiofccmimhabaa
open Go.RowKit
set_option linter.unusedVariables false

theorem insP_len (l : List Pr) (p : Pr) : (insP l p).length ≤ l.length + 1 := by
  have h : ∀ l : List Pr, (l.filter (fun q => decide (kLt q.1 p.1))).length + (l.filter (fun q => decide (kLt p.1 q.1))).length ≤ l.length := by
    intro l
    induction l with
    | nil => simp
    | cons x l ih =>
      simp only [List.filter_cons, List.length_cons]
      by_cases h1 : kLt x.1 p.1
      · have h2 : ¬ kLt p.1 x.1 := h1.asym
        simp [h1, h2]
        omega
      · by_cases h2 : kLt p.1 x.1
        · simp [h1, h2]; omega
        · simp [h1, h2]; omega
  unfold insP
  rw [List.length_append, List.length_cons]
  have := h l
  omega

/-- What PutKey tells. -/
def PuTold (Ls : List Lb) (key val : ByteArray) (q : Bool) (L : List Lb) : Prop :=
  (GoodL Ls ∧ entryB key val = true ∧ ∃ T T' : Bt, T.ok ∧ T.limbs 0 = Ls ∧ T'.ok ∧ T'.ino = insP T.ino (key, val) ∧ T'.sz ≤ 60 ∧ q = true ∧ L = T'.limbs 0) ∨
  ((GoodL Ls → entryB key val = true → ∃ T : Bt, T.ok ∧ T.limbs 0 = Ls ∧ 60 < (insP T.ino (key, val)).length) ∧ q = false ∧ L = [])
theorem PuTold.same {Ls : List Lb} {key val : ByteArray} {q q' : Bool} {L L' : List Lb} (h : PuTold Ls key val q L) (k : PuTold Ls key val q' L') : q = q' ∧ L = L' := by
  have hi : ∀ {S T : Bt}, S.limbs 0 = Ls → T.limbs 0 = Ls → S.ino = T.ino := fun {S T} hS hT => by
    rw [← Bt.ino_sh S, limbs_shape S T 0 (hS.trans hT.symm), Bt.ino_sh]
  rcases h with ⟨h1, h0, T, T', _, h2, h5, h6, h7, rfl, rfl⟩ | ⟨h1, rfl, rfl⟩
  · rcases k with ⟨k1, k0, S, S', _, k2, k5, k6, k7, rfl, rfl⟩ | ⟨k1, rfl, rfl⟩
    · refine ⟨rfl, ?_⟩
      rw [← Bt.limbs_sh T', ← Bt.limbs_sh S', one_shape T' S' h5 k5 (by rw [h6, k6, hi h2 k2])]
    · obtain ⟨S, _, k2, k3⟩ := k1 h1 h0
      rw [hi k2 h2, ← h6, Bt.ino_len] at k3
      omega
  · rcases k with ⟨k1, k0, S, S', _, k2, k5, k6, k7, rfl, rfl⟩ | ⟨k1, rfl, rfl⟩
    · obtain ⟨T, _, h2, h3⟩ := h1 k1 k0
      rw [hi h2 k2, ← k6, Bt.ino_len] at h3
      omega
    · exact ⟨rfl, rfl⟩
theorem PuTold.len {Ls : List Lb} {key val : ByteArray} {q : Bool} {L : List Lb} (h : PuTold Ls key val q L) : L.length ≤ 60 := by
  rcases h with ⟨_, _, T, T', _, _, _, _, h7, _, rfl⟩ | ⟨_, _, rfl⟩
  · rw [T'.limbs_len 0]; exact h7
  · simp
/-- What PutKey answers. -/
def PutGot (Ls : List Lb) (key val : ByteArray) (w : World) (e : Ending) (w' : World) : Prop := ∃ (v : Value) (q : Bool) (g : Nat) (L : List Lb), e = .returned (.tuple #[.agg #[v], .bool q]) ∧ PuTold Ls key val q L ∧ (L ≠ [] → w.heap.size ≤ g) ∧ OwnR w' g v L.length (lbAt L) ∧ Below w.heap.size w w'

set_option maxRecDepth 100000 in
set_option maxHeartbeats 4000000 in
theorem implPut_own (b n c : Nat) (a : Option Addr) (N : Nat → Lb) (key val : ByteArray) (w : World) (h : OwnR w b (.slice a n c) n N) (hs : SmallR n N) (hk20 : key.size ≤ 2 ^ 20) (hv20 : val.size ≤ 2 ^ 20) :
    Calls Try.prog 19 #[.agg #[.slice a n c], .string key, .string val] w (PutGot (lbs n N) key val w) := by
  have HR : Hid (RowIs w w.heap.size (.slice a n c) (lbs n N).length (lbAt (lbs n N))) := h.row.list
  have HS : Hid ((lbs n N).length ≤ 2 ^ 20 ∧ ∀ x ∈ lbs n N, x.key.size ≤ 2 ^ 20 ∧ x.val.size ≤ 2 ^ 20) := hs.list
  clear h hs
  have HNO : Hid (∀ w' : World, OwnR w' 0 (.slice none 0 0) ([] : List Lb).length (lbAt [])) := fun w' => ⟨none, 0, 0, rfl, by simp, .inl rfl⟩
  have hk40 : key.size ≤ 2 ^ 40 := by omega
  go_enter Try.func19, Try.ntmps19
  go_wp2_with fail
  obtain ⟨W0, hW0⟩ : ∃ W0, W0 = (w.alloc (.cells #[.slice a n c] 31)).alloc (.cells #[.slice none 0 0] 31) := ⟨_, rfl⟩
  have b0 : Below w.heap.size w W0 := by rw [hW0]; exact ((Below.refl _ _).alloc (Nat.le_refl _) _).alloc (by simp) _
  have z0 : W0.heap.size = w.heap.size + 1 + 1 := by rw [hW0]; simp
  have r0 : W0.cell? ⟨w.heap.size + 1, 0, none⟩ = some (.slice none 0 0) := by rw [hW0]; simp [go_sem]
  have f0 : W0.frozen? ⟨w.heap.size + 1, 0, none⟩ = false := by rw [hW0]; simp [go_sem]
  rw [← hW0]
  have HB0 : Hid (Below w.heap.size w W0) := b0
  have HK : Hid (∀ w', Below W0.heap.size W0 w' → Below w.heap.size w w' ∧ w'.cell? ⟨w.heap.size + 1, 0, none⟩ = some (.slice none 0 0) ∧ w'.frozen? ⟨w.heap.size + 1, 0, none⟩ = false ∧ w.heap.size + 1 < w'.heap.size) := fun w' h =>
    ⟨b0.trans (h.mono (by omega)), (h.cell (by show w.heap.size + 1 < _; omega)).trans r0, (h.frozen (by show w.heap.size + 1 < _; omega)).trans f0, by have := h.size; omega⟩
  have HKS : Hid (∀ (w' : World) (u : Value), Below w.heap.size w w' → Below w.heap.size w (w'.setCell ⟨w.heap.size + 1, 0, none⟩ u)) := fun w' u h => h.setCell (by simp) _
  clear hW0 b0 r0 f0
  refine (treeOf_any (lbs n N) _ _ (HR.out.below HB0.out (by omega)) HS.out.1 HS.out.2).mono ?_
  rintro e w1 ⟨⟨hg, T, rfl, hT, hTn, hTo, hTl, hTb⟩ | ⟨hg, rfl⟩, hb1⟩
  · obtain ⟨g1, r1, f1, q1⟩ := HK.out w1 hb1
    have HB1 : Hid (Below W0.heap.size W0 w1) := hb1
    have HT : Hid (BrAt w1 T ∧ T.sz ≤ 60) := ⟨hT, by rw [← T.limbs_len 0, hTl]; exact hg.1⟩
    have HG : Hid (GoodL (lbs n N) ∧ T.ok ∧ T.limbs 0 = lbs n N ∧ T.bs.Nodup ∧ ∀ b ∈ T.bs, W0.heap.size ≤ b) := ⟨hg, hTo, hTl, hTn, hTb⟩
    have z1 := hb1.size
    have HW1 : Hid (Below w.heap.size w w1) := g1
    clear hg hb1 hT hTo hTl hTn hTb g1
    go_wp2_with fail
    refine (isEntry_any key val _ hk20 hv20).mono ?_
    rintro e w2 ⟨rfl, hw2⟩
    have hw := hw2.symm
    subst hw
    clear hw2
    cases hen : entryB key val with
    | false =>
      have HD : Hid (PuTold (lbs n N) key val false []) := .inr ⟨fun _ h => (by rw [hen] at h; cases h), rfl, rfl⟩
      go_wp2_with fail
      exact bodyPost_ret (v := .tuple #[.agg #[.slice none 0 0], .bool false]) (by simp [results, Try.results19, go_sem, r1]) rfl ⟨_, _, 0, [], rfl, HD.out, fun h => absurd rfl h, HNO.out _, HKS.out _ _ HW1.out⟩
    | true =>
      have HEN : Hid (entryB key val = true) := hen
      have HTN : Hid T.bs.Nodup := HG.out.2.2.2.1
      have HNB : Hid (w1.heap.size ∉ T.bs) := fun h => by have := HT.out.1.lt h; omega
      have HT2 : Hid (∀ o, BrAt (w1.alloc o) T) := fun o => HT.out.1.below ((Below.refl _ w1).alloc (Nat.le_refl _) o)
      have HN2 : Hid (∀ ty, BrAt (w1.alloc (.cells #[.string key, .string val, .int .i64 (wt key), .pointer none, .pointer none] ty)) (.node w1.heap.size key val .nil .nil)) := fun ty => br_new w1 _ _ _
      clear hen
      go_wp2_with fail
      refine (implWeight_any key _ hk40).mono ?_
      rintro e w2 ⟨rfl, hw2⟩
      have hw := hw2.symm
      subst hw
      clear hw2
      go_wp2_with fail
      refine (withBranch_any T w1.heap.size key val _ (HT2.out _) HTN.out (HN2.out _) HNB.out).mono ?_
      rintro e w3 ⟨rfl, h3, ho3⟩
      have hb3 : Below W0.heap.size w1 w3 := ((Below.refl _ _).alloc z1 _).trans (ho3.below (fun k h => by
        rcases h with h | h
        · exact HG.out.2.2.2.2 k h
        · omega))
      have HB3 : Hid (Below W0.heap.size W0 w3) := HB1.out.trans hb3
      obtain ⟨g3, r3, f3, q3⟩ := HK.out w3 HB3.out
      have HT3 : Hid (BrAt w3 (T.put w1.heap.size key val)) := h3
      have HPO : Hid ((T.put w1.heap.size key val).ok ∧ (T.put w1.heap.size key val).ino = insP T.ino (key, val)) := ⟨put_ok _ _ _ _ HG.out.2.1, put_ino _ _ _ _ HG.out.2.1.1⟩
      have z3 := hb3.size
      obtain ⟨S, hS⟩ : ∃ S, S = T.put w1.heap.size key val := ⟨_, rfl⟩
      rw [← hS] at HT3 HPO ⊢
      have HCS : Hid (S.sz ≤ 61) := by
        show _ ≤ _
        rw [← Bt.ino_len, HPO.out.2]
        have := insP_len T.ino (key, val)
        rw [Bt.ino_len] at this
        have := HT.out.2
        omega
      clear h3 ho3 hb3 r1 f1 q1 g3 hS
      go_wp2_with fail
      refine (limbsOf_any S _ HT3.out (by have := HCS.out; omega)).mono ?_
      rintro e w4 ⟨v4, rfl, ho4, hb4⟩
      have HB4 : Hid (Below W0.heap.size W0 w4) := HB3.out.trans (hb4.mono (by omega))
      obtain ⟨g4, r4, f4, q4⟩ := HK.out w4 HB4.out
      obtain ⟨a4, c4, rfl⟩ := ho4.form
      have HW4 : Hid (Below w.heap.size w w4) := g4
      have hm61 : (S.limbs 0).length = S.sz := S.limbs_len 0
      by_cases h60 : S.sz ≤ 60
      · obtain ⟨gb, hgb, hR4⟩ := own_of_row ho4 (by rw [Bt.limbs_len]; have := HCS.out; omega) zeroLb
        have HR4 : Hid (OwnR w4 gb (.slice a4 (S.limbs 0).length c4) (S.limbs 0).length (lbAt (S.limbs 0))) := hR4
        have HGB : Hid (S.limbs 0 ≠ [] → w3.heap.size ≤ gb) := hgb
        have HD : Hid (PuTold (lbs n N) key val true (S.limbs 0)) := .inl ⟨HG.out.1, HEN.out, T, S, HG.out.2.1, HG.out.2.2.1, HPO.out.1, HPO.out.2, h60, rfl, rfl⟩
        obtain ⟨L, hL⟩ : ∃ L, L = S.limbs 0 := ⟨_, rfl⟩
        rw [← hL] at HR4 HGB HD hm61 ⊢
        have HRS : Hid (∀ u, OwnR (w4.setCell ⟨w.heap.size + 1, 0, none⟩ u) gb (.slice a4 L.length c4) L.length (lbAt L)) := fun u => HR4.out.but2 (BelowBut.setCell _ _ _) (fun h => by
          have := HGB.out (fun e => h (by rw [e]; rfl))
          omega)
        obtain ⟨m4, hm4⟩ : ∃ m, m = L.length := ⟨_, rfl⟩
        rw [← hm4] at HR4 HRS hm61 ⊢
        have HM4 : Hid (m4 = L.length) := hm4
        have hm60 : ¬ (60 : Int) < (m4 : Int) := by omega
        clear hL hm4 hb4 ho4 hR4 hgb g4 r3 f3 q3 hm61 h60
        go_wp2_with fail
        refine bodyPost_ret (v := .tuple #[.agg #[.slice a4 m4 c4], .bool true]) (by simp [results, Try.results19, go_sem, r4]) rfl ⟨_, _, gb, L, rfl, HD.out, fun h => by have := HGB.out h; omega, ?_, HKS.out _ _ HW4.out⟩
        rw [← HM4.out]
        exact HRS.out _
      · have HD : Hid (PuTold (lbs n N) key val false []) := .inr ⟨fun _ _ => ⟨T, HG.out.2.1, HG.out.2.2.1, by rw [← HPO.out.2, Bt.ino_len]; omega⟩, rfl, rfl⟩
        obtain ⟨m4, hm4⟩ : ∃ m, m = (S.limbs 0).length := ⟨_, rfl⟩
        rw [← hm4] at hm61 ⊢
        have hm60 : (60 : Int) < (m4 : Int) := by omega
        have hm62 : m4 ≤ 61 := by have := HCS.out; omega
        clear hm4 hb4 ho4 g4 r3 f3 q3 hm61 h60
        go_wp2_with fail
        exact bodyPost_ret (v := .tuple #[.agg #[.slice none 0 0], .bool false]) (by simp [results, Try.results19, go_sem, r4]) rfl ⟨_, _, 0, [], rfl, HD.out, fun h => absurd rfl h, HNO.out _, HKS.out _ _ HW4.out⟩
  · obtain ⟨g1, r1, f1, q1⟩ := HK.out w1 hb1
    have HW1 : Hid (Below w.heap.size w w1) := g1
    have HD : Hid (PuTold (lbs n N) key val false []) := .inr ⟨fun h => absurd h hg, rfl, rfl⟩
    clear hg hb1 g1
    go_wp2_with fail
    exact bodyPost_ret (v := .tuple #[.agg #[.slice none 0 0], .bool false]) (by simp [results, Try.results19, go_sem, r1]) rfl ⟨_, _, 0, [], rfl, HD.out, fun h => absurd rfl h, HNO.out _, HKS.out _ _ HW1.out⟩
end Go.Proofs.Ytmiofccmimhabaa
