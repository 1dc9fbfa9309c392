/- A key put: the specification's PutKey. -/
import Derived.Test.YtmiofccmimhabaaTpUs
namespace Go.Proofs.Ytmiofccmimhabaa
open Go.RowKit
set_option linter.unusedVariables false

set_option maxRecDepth 100000 in
set_option maxHeartbeats 4000000 in
theorem specPut_own (n c : Nat) (a : Option Addr) (N : Nat → Lb) (key val : ByteArray) (w : World) (h : RowIs w w.heap.size (.slice a n c) n N) (hs : SmallR n N) (hk20 : key.size ≤ 2 ^ 20) (hv20 : val.size ≤ 2 ^ 20) :
    Calls Try.prog 18 #[.agg #[.slice a n c], .string key, .string val] w (PutGot (lbs n N) key val w) := by
  have HR : Hid (RowIs w w.heap.size (.slice a n c) (lbs n N).length (lbAt (lbs n N))) := h.list
  have HS : Hid ((lbs n N).length ≤ 2 ^ 20 ∧ ∀ x ∈ lbs n N, x.key.size ≤ 2 ^ 20 ∧ x.val.size ≤ 2 ^ 20) := hs.list
  clear h hs
  have HNO : Hid (∀ w' : World, OwnR w' 0 (.slice none 0 0) ([] : List Lb).length (lbAt [])) := fun w' => ⟨none, 0, 0, rfl, by simp, .inl rfl⟩
  go_enter Try.func18, Try.ntmps18
  go_wp2_with fail
  obtain ⟨W0, hW0⟩ : ∃ W0, W0 = (w.alloc (.cells #[.slice a n c] 31)).alloc (.cells #[.slice none 0 0] 31) := ⟨_, rfl⟩
  have b0 : Below w.heap.size w W0 := by rw [hW0]; exact ((Below.refl _ _).alloc (Nat.le_refl _) _).alloc (by simp) _
  have z0 : W0.heap.size = w.heap.size + 1 + 1 := by rw [hW0]; simp
  have r0 : W0.cell? ⟨w.heap.size + 1, 0, none⟩ = some (.slice none 0 0) := by rw [hW0]; simp [go_sem]
  have f0 : W0.frozen? ⟨w.heap.size + 1, 0, none⟩ = false := by rw [hW0]; simp [go_sem]
  rw [← hW0]
  have HB0 : Hid (Below w.heap.size w W0) := b0
  have HK : Hid (∀ w', Below W0.heap.size W0 w' → Below w.heap.size w w' ∧ w'.cell? ⟨w.heap.size + 1, 0, none⟩ = some (.slice none 0 0) ∧ w'.frozen? ⟨w.heap.size + 1, 0, none⟩ = false ∧ w.heap.size + 1 < w'.heap.size) := fun w' h =>
    ⟨b0.trans (h.mono (by omega)), (h.cell (by show w.heap.size + 1 < _; omega)).trans r0, (h.frozen (by show w.heap.size + 1 < _; omega)).trans f0, by have := h.size; omega⟩
  have HKS : Hid (∀ (w' : World) (u : Value), Below w.heap.size w w' → Below w.heap.size w (w'.setCell ⟨w.heap.size + 1, 0, none⟩ u)) := fun w' u h => h.setCell (by simp) _
  clear hW0 b0 r0 f0
  refine (l7Of_any (lbs n N) _ _ (HR.out.below HB0.out (by omega)) HS.out.1 HS.out.2).mono ?_
  rintro e w1 ⟨⟨hg, T, v1, rfl, hTo, hTl, ho⟩ | ⟨hg, rfl⟩, hb1⟩
  · obtain ⟨g1, r1, f1, q1⟩ := HK.out w1 hb1
    have HB1 : Hid (Below W0.heap.size W0 w1) := hb1
    have HO : Hid (OwnsP w1 W0.heap.size v1 T.ino) := ho
    have HG : Hid (GoodL (lbs n N) ∧ T.ok ∧ T.limbs 0 = lbs n N) := ⟨hg, hTo, hTl⟩
    have hT60 : T.sz ≤ 60 := by rw [← T.limbs_len 0, hTl]; exact hg.1
    have HT60 : Hid (T.ino.length ≤ 60) := by show _ ≤ _; rw [Bt.ino_len]; exact hT60
    have HKS20 : Hid (∀ p ∈ T.ino, p.1.size ≤ 2 ^ 20) := fun p hp => by
      have := (Bt.limbs_kv T p 0).2 hp
      rw [hTl] at this
      obtain ⟨x, hx, rfl⟩ := List.mem_map.1 this
      exact (HS.out.2 x hx).1
    obtain ⟨a1, c1, rfl⟩ := ho.form
    have z1 := hb1.size
    have HW1 : Hid (Below w.heap.size w w1) := g1
    obtain ⟨l, hl⟩ : ∃ l, l = T.ino := ⟨_, rfl⟩
    rw [← hl] at HO HT60 HKS20 ⊢
    have HL : Hid (l = T.ino) := hl
    obtain ⟨m, hm⟩ : ∃ m, m = l.length := ⟨_, rfl⟩
    have HM : Hid (m = l.length) := hm
    rw [← hm] at HO HT60 ⊢
    have hm60 : m ≤ 60 := HT60.out
    clear hg hTo hTl ho hb1 g1 hl hm HT60 hT60
    have HNOT : Hid (entryB key val = false → PuTold (lbs n N) key val false []) := fun h0 => .inr ⟨fun _ h => (by rw [h0] at h; cases h), rfl, rfl⟩
    by_cases hin : (1 : Int) ≤ (key.size : Int) ∧ (key.size : Int) ≤ 40
    · have hd : decide ((1 : Int) ≤ (key.size : Int) ∧ (key.size : Int) ≤ 40) = true := decide_eq_true hin
      go_wp2_with fail
      refine (l1InT_any _ _ _ _).mono ?_
      rintro e w2 ⟨rfl, hw2⟩
      rw [hd]
      have hw := hw2.symm
      subst hw
      clear hw2
      by_cases hvl : val.size ≤ 60
      · have HEN : Hid (entryB key val = true) := by
          show _ = _
          unfold entryB
          simp
          omega
        have hvl' : ¬ (60 : Int) < (val.size : Int) := by omega
        clear HNOT
        go_wp2_with fail
        refine (l7Put_any l key val _ W0.heap.size _ HO.out (by rw [HL.out]; exact HG.out.2.1.1) (by rw [← HM.out]; exact hm60)).mono ?_
        rintro e w3 ⟨v3, rfl, ho3, hb3⟩
        have HB3 : Hid (Below W0.heap.size W0 w3) := HB1.out.trans (hb3.mono z1)
        obtain ⟨g3, r3, f3, q3⟩ := HK.out w3 HB3.out
        have HW3 : Hid (Below w.heap.size w w3) := g3
        have z3 := hb3.size
        have hS0 : Srt (insP l (key, val)) := srt_insP (by rw [HL.out]; exact HG.out.2.1.1) _
        obtain ⟨S, hSo, hSi⟩ := tree_of_row (insP l (key, val)) hS0
        have HSS : Hid (S.ok ∧ S.ino = insP l (key, val)) := ⟨hSo, hSi⟩
        have hSZ : S.sz ≤ 61 := by
          rw [← Bt.ino_len, hSi]
          have := insP_len l (key, val)
          rw [← HM.out] at this
          omega
        have HSK : Hid (∀ p ∈ S.ino, p.1.size ≤ 2 ^ 20) := fun p hp => by
          rw [hSi] at hp
          unfold insP at hp
          rcases List.mem_append.1 hp with h | h
          · exact HKS20.out p (List.mem_filter.1 h).1
          · rcases List.mem_cons.1 h with h | h
            · rw [h]; exact hk20
            · exact HKS20.out p (List.mem_filter.1 h).1
        have HSR : Hid (PSrc w3 v3 S.ino (fun _ => True)) := by rw [hSi]; exact ho3.src.any
        obtain ⟨a3, c3, rfl⟩ := ho3.form
        obtain ⟨m3, hm3⟩ : ∃ m, m = (insP l (key, val)).length := ⟨_, rfl⟩
        have HMS : Hid (m3 = S.sz) := by show _ = _; rw [hm3, ← Bt.ino_len, hSi]
        rw [← hm3] at HSR ⊢
        clear ho3 hS0 hSo hSi hb3 r1 f1 q1 g3 hm3
        by_cases h60 : S.sz ≤ 60
        · have hm60' : ¬ (60 : Int) < (m3 : Int) := by have := HMS.out; omega
          have HD : Hid (PuTold (lbs n N) key val true (S.limbs 0)) := .inl ⟨HG.out.1, HEN.out, T, S, HG.out.2.1, HG.out.2.2, HSS.out.1, by rw [HSS.out.2, HL.out], h60, rfl, rfl⟩
          go_wp2_with fail
          refine (l7Treap_any S _ _ HSR.out HSS.out.1 HSK.out (by omega)).mono ?_
          rintro e w8 ⟨a8, c8, rfl, ho8, hb8⟩
          have HB8 : Hid (Below W0.heap.size W0 w8) := HB3.out.trans (hb8.mono (by omega))
          obtain ⟨g8, r8, f8, q8⟩ := HK.out w8 HB8.out
          obtain ⟨gb, hgb, hR8⟩ := own_of_row ho8 (by rw [Bt.limbs_len]; omega) zeroLb
          have HGB : Hid (S.limbs 0 ≠ [] → w.heap.size + 1 < gb) := fun h => by have := hgb h; omega
          have HRS : Hid (∀ u, OwnR (w8.setCell ⟨w.heap.size + 1, 0, none⟩ u) gb (.slice a8 (S.limbs 0).length c8) (S.limbs 0).length (lbAt (S.limbs 0))) := fun u => hR8.but2 (BelowBut.setCell _ _ _) (fun h => by
            have := HGB.out (fun e => h (by rw [e]; rfl))
            omega)
          have HW8 : Hid (Below w.heap.size w w8) := g8
          obtain ⟨L, hL⟩ : ∃ L, L = S.limbs 0 := ⟨_, rfl⟩
          rw [← hL] at HRS HGB HD ⊢
          obtain ⟨m8, hm8⟩ : ∃ m, m = L.length := ⟨_, rfl⟩
          rw [← hm8] at HRS ⊢
          have HM8 : Hid (m8 = L.length) := hm8
          clear hL hm8 hR8 hgb g8 ho8 hb8
          go_wp2_with fail
          refine bodyPost_ret (v := .tuple #[.agg #[.slice a8 m8 c8], .bool true]) (by simp [results, Try.results18, go_sem, r8]) rfl ⟨_, _, gb, L, rfl, HD.out, fun h => by have := HGB.out h; omega, ?_, HKS.out _ _ HW8.out⟩
          rw [← HM8.out]
          exact HRS.out _
        · have hm60' : (60 : Int) < (m3 : Int) := by have := HMS.out; omega
          have HD : Hid (PuTold (lbs n N) key val false []) := .inr ⟨fun _ _ => ⟨T, HG.out.2.1, HG.out.2.2, by rw [← HL.out, ← HSS.out.2, Bt.ino_len]; omega⟩, rfl, rfl⟩
          go_wp2_with fail
          exact bodyPost_ret (v := .tuple #[.agg #[.slice none 0 0], .bool false]) (by simp [results, Try.results18, go_sem, r3]) rfl ⟨_, _, 0, [], rfl, HD.out, fun h => absurd rfl h, HNO.out _, HKS.out _ _ HW3.out⟩
      · have hvl' : (60 : Int) < (val.size : Int) := by omega
        have HD : Hid (PuTold (lbs n N) key val false []) := HNOT.out (by unfold entryB; simp; omega)
        go_wp2_with fail
        exact bodyPost_ret (v := .tuple #[.agg #[.slice none 0 0], .bool false]) (by simp [results, Try.results18, go_sem, r1]) rfl ⟨_, _, 0, [], rfl, HD.out, fun h => absurd rfl h, HNO.out _, HKS.out _ _ HW1.out⟩
    · have hd : decide ((1 : Int) ≤ (key.size : Int) ∧ (key.size : Int) ≤ 40) = false := decide_eq_false hin
      have HD : Hid (PuTold (lbs n N) key val false []) := HNOT.out (by unfold entryB; simp; omega)
      go_wp2_with fail
      refine (l1InT_any _ _ _ _).mono ?_
      rintro e w2 ⟨rfl, hw2⟩
      rw [hd]
      have hw := hw2.symm
      subst hw
      clear hw2
      go_wp2_with fail
      exact bodyPost_ret (v := .tuple #[.agg #[.slice none 0 0], .bool false]) (by simp [results, Try.results18, go_sem, r1]) rfl ⟨_, _, 0, [], rfl, HD.out, fun h => absurd rfl h, HNO.out _, HKS.out _ _ HW1.out⟩
  · obtain ⟨g1, r1, f1, q1⟩ := HK.out w1 hb1
    have HW1 : Hid (Below w.heap.size w w1) := g1
    have HD : Hid (PuTold (lbs n N) key val false []) := .inr ⟨fun h => absurd h hg, rfl, rfl⟩
    clear hg hb1 g1
    go_wp2_with fail
    exact bodyPost_ret (v := .tuple #[.agg #[.slice none 0 0], .bool false]) (by simp [results, Try.results18, go_sem, r1]) rfl ⟨_, _, 0, [], rfl, HD.out, fun h => absurd rfl h, HNO.out _, HKS.out _ _ HW1.out⟩
end Go.Proofs.Ytmiofccmimhabaa
