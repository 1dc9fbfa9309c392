/- A key cut: the program's CutKey. -/
import Derived.Test.YtmiofccmimhabaaTpK
import Derived.Test.YtmiofccmimhabaaTpMk
namespace Go.Proofs.Ytmiofccmimhabaa
open Go.RowKit
set_option linter.unusedVariables false

theorem Bt.ino_sh (t : Bt) : t.sh.ino = t.ino := by
  induction t with
  | nil => rfl
  | node b k v l r ihl ihr => simp [Bt.sh, Bt.ino, ihl, ihr]
/-- A key is found just where it is there. -/
theorem fnd_mem (key : ByteArray) (t : Bt) : Srt t.ino → ∀ s, (t.fnd key s = none ↔ ∀ p ∈ t.ino, p.1 ≠ key) := by
  induction t with
  | nil => intro _ s; simp [Bt.fnd, Bt.ino]
  | node b k v l r ihl ihr =>
    intro h s
    rw [Bt.ino, srt_node] at h
    obtain ⟨s1, s2, s3, s4⟩ := h
    rw [Bt.fnd]
    by_cases h1 : kLt key k
    · rw [if_pos h1, ihl s1]
      simp only [Bt.ino, List.mem_append, List.mem_cons]
      constructor
      · rintro h p (hp | rfl | hp)
        · exact h p hp
        · exact h1.ne.symm
        · exact (h1.trans (s4 p hp)).ne.symm
      · intro h p hp
        exact h p (.inl hp)
    · by_cases h2 : kLt k key
      · rw [if_neg h1, if_pos h2, ihr s2]
        simp only [Bt.ino, List.mem_append, List.mem_cons]
        constructor
        · rintro h p (hp | rfl | hp)
          · exact ((s3 p hp).trans h2).ne
          · exact h2.ne
          · exact h p hp
        · intro h p hp
          exact h p (.inr (.inr hp))
      · rw [if_neg h1, if_neg h2]
        have e : k = key := by
          rcases kLt_tri k key with h | h | h
          · exact absurd h h2
          · exact h
          · exact absurd h h1
        constructor
        · intro h; cases h
        · intro h
          exact absurd e (h (k, v) (by simp [Bt.ino]))

/-- What CutKey tells. -/
def CTold (Ls : List Lb) (key : ByteArray) (q : Bool) (L : List Lb) : Prop :=
  (GoodL Ls ∧ ∃ T T' : Bt, T.ok ∧ T.limbs 0 = Ls ∧ (¬ ∀ p ∈ T.ino, p.1 ≠ key) ∧ q = true ∧ T'.ok ∧ T'.ino = T.ino.filter (fun p => decide (p.1 ≠ key)) ∧ L = T'.limbs 0) ∨
  ((GoodL Ls → ∃ T : Bt, T.ok ∧ T.limbs 0 = Ls ∧ ∀ p ∈ T.ino, p.1 ≠ key) ∧ q = false ∧ L = [])
theorem CTold.same {Ls : List Lb} {key : ByteArray} {q q' : Bool} {L L' : List Lb} (h : CTold Ls key q L) (k : CTold Ls key q' L') : q = q' ∧ L = L' := by
  have hi : ∀ {S T : Bt}, S.limbs 0 = Ls → T.limbs 0 = Ls → S.ino = T.ino := fun {S T} hS hT => by
    rw [← Bt.ino_sh S, limbs_shape S T 0 (hS.trans hT.symm), Bt.ino_sh]
  rcases h with ⟨h1, T, T', _, h2, h3, rfl, h5, h6, rfl⟩ | ⟨h1, rfl, rfl⟩
  · rcases k with ⟨k1, S, S', _, k2, k3, rfl, k5, k6, rfl⟩ | ⟨k1, rfl, rfl⟩
    · refine ⟨rfl, ?_⟩
      rw [← Bt.limbs_sh T', ← Bt.limbs_sh S', one_shape T' S' h5 k5 (by rw [h6, k6, hi h2 k2])]
    · obtain ⟨S, _, k2, k3⟩ := k1 h1
      rw [hi k2 h2] at k3
      exact absurd k3 h3
  · rcases k with ⟨k1, S, S', _, k2, k3, _⟩ | ⟨k1, rfl, rfl⟩
    · obtain ⟨T, _, h2, h3⟩ := h1 k1
      rw [hi h2 k2] at h3
      exact absurd h3 k3
    · exact ⟨rfl, rfl⟩
theorem CTold.len {Ls : List Lb} {key : ByteArray} {q : Bool} {L : List Lb} (h : CTold Ls key q L) : L.length ≤ 60 := by
  rcases h with ⟨h1, T, T', _, h2, _, _, _, h6, rfl⟩ | ⟨_, _, rfl⟩
  · have e1 := T'.limbs_len 0
    have e2 := T.limbs_len 0
    rw [h2] at e2
    have e3 := congrArg List.length h6
    have e4 := List.length_filter_le (fun p : Pr => decide (p.1 ≠ key)) T.ino
    rw [Bt.ino_len] at e3 e4
    have := h1.1
    omega
  · simp

set_option maxRecDepth 100000 in
set_option maxHeartbeats 2000000 in
theorem implCut_own (b n c : Nat) (a : Option Addr) (N : Nat → Lb) (key : ByteArray) (w : World) (h : OwnR w b (.slice a n c) n N) (hs : SmallR n N) :
    Calls Try.prog 25 #[.agg #[.slice a n c], .string key] w fun e w' => ∃ (v : Value) (q : Bool) (g : Nat) (L : List Lb), e = .returned (.tuple #[.agg #[v], .bool q]) ∧ CTold (lbs n N) key q L ∧ (L ≠ [] → w.heap.size ≤ g) ∧ OwnR w' g v L.length (lbAt L) ∧ Below w.heap.size w w' := by
  have HR : Hid (RowIs w w.heap.size (.slice a n c) (lbs n N).length (lbAt (lbs n N))) := h.row.list
  have HS : Hid ((lbs n N).length ≤ 2 ^ 20 ∧ ∀ x ∈ lbs n N, x.key.size ≤ 2 ^ 20 ∧ x.val.size ≤ 2 ^ 20) := hs.list
  clear h hs
  have HNO : Hid (∀ w' : World, OwnR w' 0 (.slice none 0 0) ([] : List Lb).length (lbAt [])) := fun w' => ⟨none, 0, 0, rfl, by simp, .inl rfl⟩
  go_enter Try.func25, Try.ntmps25
  go_wp2_with fail
  obtain ⟨W0, hW0⟩ : ∃ W0, W0 = (w.alloc (.cells #[.slice a n c] 31)).alloc (.cells #[.slice none 0 0] 31) := ⟨_, rfl⟩
  have b0 : Below w.heap.size w W0 := by rw [hW0]; exact ((Below.refl _ _).alloc (Nat.le_refl _) _).alloc (by simp) _
  have z0 : W0.heap.size = w.heap.size + 1 + 1 := by rw [hW0]; simp
  have r0 : W0.cell? ⟨w.heap.size + 1, 0, none⟩ = some (.slice none 0 0) := by rw [hW0]; simp [go_sem]
  have f0 : W0.frozen? ⟨w.heap.size + 1, 0, none⟩ = false := by rw [hW0]; simp [go_sem]
  rw [← hW0]
  have HB0 : Hid (Below w.heap.size w W0) := b0
  have HK : Hid (∀ w', Below W0.heap.size W0 w' → Below w.heap.size w w' ∧ w'.cell? ⟨w.heap.size + 1, 0, none⟩ = some (.slice none 0 0) ∧ w'.frozen? ⟨w.heap.size + 1, 0, none⟩ = false ∧ w.heap.size + 1 < w'.heap.size) := fun w' h =>
    ⟨b0.trans (h.mono (by omega)), (h.cell (by show w.heap.size + 1 < _; omega)).trans r0, (h.frozen (by show w.heap.size + 1 < _; omega)).trans f0, by have := h.size; omega⟩
  have HKS : Hid (∀ (w' : World) (u : Value), Below w.heap.size w w' → Below w.heap.size w (w'.setCell ⟨w.heap.size + 1, 0, none⟩ u)) := fun w' u h => h.setCell (by simp) _
  clear hW0 b0 r0 f0
  refine (treeOf_any (lbs n N) _ _ (HR.out.below HB0.out (by omega)) HS.out.1 HS.out.2).mono ?_
  rintro e w1 ⟨⟨hg, T, rfl, hT, hTn, hTo, hTl, hTb⟩ | ⟨hg, rfl⟩, hb1⟩
  · obtain ⟨g1, r1, f1, q1⟩ := HK.out w1 hb1
    have HB1 : Hid (Below W0.heap.size W0 w1) := hb1
    have HT : Hid (BrAt w1 T ∧ T.sz ≤ 60) := ⟨hT, by rw [← T.limbs_len 0, hTl]; exact hg.1⟩
    have HG : Hid (GoodL (lbs n N) ∧ T.ok ∧ T.limbs 0 = lbs n N ∧ T.bs.Nodup ∧ ∀ b ∈ T.bs, W0.heap.size ≤ b) := ⟨hg, hTo, hTl, hTn, hTb⟩
    have z1 := hb1.size
    have HW1 : Hid (Below w.heap.size w w1) := g1
    clear hg hb1 hT hTo hTl hTn hTb g1
    go_wp2_with fail
    refine (find_any key T _ HT.out.1 HT.out.2).mono ?_
    rintro e w2 ⟨hf, hb2⟩
    have HB2 : Hid (Below W0.heap.size W0 w2) := HB1.out.trans (hb2.mono z1)
    obtain ⟨g2, r2, f2, q2⟩ := HK.out w2 HB2.out
    have HT2 : Hid (BrAt w2 T) := HT.out.1.below hb2
    have z2 := hb2.size
    have HW2 : Hid (Below w.heap.size w w2) := g2
    clear hb2 r1 f1 q1 g2
    unfold FindIs at hf
    have HFM := fnd_mem key T HG.out.2.1.1 0
    cases ho : T.fnd key 0 with
    | none =>
      rw [ho] at hf
      obtain ⟨s, hs, rfl⟩ := hf
      have HD : Hid (CTold (lbs n N) key false []) := .inr ⟨fun _ => ⟨T, HG.out.2.1, HG.out.2.2.1, HFM.1 ho⟩, rfl, rfl⟩
      clear ho HFM
      go_wp2_with fail
      exact bodyPost_ret (v := .tuple #[.agg #[.slice none 0 0], .bool false]) (by simp [results, Try.results25, go_sem, r2]) rfl ⟨_, _, 0, [], rfl, HD.out, fun h => absurd rfl h, HNO.out _, HKS.out _ _ HW2.out⟩
    | some p =>
      obtain ⟨v, m⟩ := p
      rw [ho] at hf
      obtain ⟨b', rfl, hc, hm⟩ := hf
      have HNF : Hid (¬ ∀ p ∈ T.ino, p.1 ≠ key) := fun h => by have := HFM.2 h; rw [ho] at this; cases this
      clear ho HFM hc
      go_wp2_with fail
      refine (cut_any key T _ HT2.out HG.out.2.2.2.1).mono ?_
      rintro e w3 ⟨rfl, h3, ho3⟩
      have hb3 : Below W0.heap.size w2 w3 := ho3.below HG.out.2.2.2.2
      have HB3 : Hid (Below W0.heap.size W0 w3) := HB2.out.trans hb3
      obtain ⟨g3, r3, f3, q3⟩ := HK.out w3 HB3.out
      have HT3 : Hid (BrAt w3 (T.cut key)) := h3
      have z3 := hb3.size
      have HCS : Hid ((T.cut key).sz ≤ 60) := by
        show _ ≤ _
        rw [← Bt.ino_len, cut_ino key T HG.out.2.1.1]
        have := List.length_filter_le (fun p : Pr => decide (p.1 ≠ key)) T.ino
        rw [Bt.ino_len] at this
        have := HT.out.2
        omega
      clear h3 ho3 hb3 r2 f2 q2 g3
      go_wp2_with fail
      refine (limbsOf_any (T.cut key) _ HT3.out (by have := HCS.out; omega)).mono ?_
      rintro e w4 ⟨v4, rfl, ho4, hb4⟩
      have HB4 : Hid (Below W0.heap.size W0 w4) := HB3.out.trans (hb4.mono (by omega))
      obtain ⟨g4, r4, f4, q4⟩ := HK.out w4 HB4.out
      obtain ⟨a4, c4, rfl⟩ := ho4.form
      obtain ⟨gb, hgb, hR4⟩ := own_of_row ho4 (by rw [Bt.limbs_len]; have := HCS.out; omega) zeroLb
      have HR4 : Hid (OwnR w4 gb (.slice a4 ((T.cut key).limbs 0).length c4) ((T.cut key).limbs 0).length (lbAt ((T.cut key).limbs 0))) := hR4
      have HGB : Hid ((T.cut key).limbs 0 ≠ [] → w3.heap.size ≤ gb) := hgb
      have HW4 : Hid (Below w.heap.size w w4) := g4
      have HD : Hid (CTold (lbs n N) key true ((T.cut key).limbs 0)) := .inl ⟨HG.out.1, T, T.cut key, HG.out.2.1, HG.out.2.2.1, HNF.out, rfl, ⟨by rw [cut_ino key T HG.out.2.1.1]; exact srt_filter HG.out.2.1.1 _, cut_heap key T HG.out.2.1.1 HG.out.2.1.2⟩, cut_ino key T HG.out.2.1.1, rfl⟩
      obtain ⟨L, hL⟩ : ∃ L, L = (T.cut key).limbs 0 := ⟨_, rfl⟩
      rw [← hL] at HR4 HGB HD ⊢
      have HRS : Hid (∀ u, OwnR (w4.setCell ⟨w.heap.size + 1, 0, none⟩ u) gb (.slice a4 L.length c4) L.length (lbAt L)) := fun u => HR4.out.but2 (BelowBut.setCell _ _ _) (fun h => by
        have := HGB.out (fun e => h (by rw [e]; rfl))
        omega)
      obtain ⟨m4, hm4⟩ : ∃ m, m = L.length := ⟨_, rfl⟩
      rw [← hm4] at HR4 HRS ⊢
      have HM4 : Hid (m4 = L.length) := hm4
      clear hL hm4 hb4 ho4 hR4 hgb g4 r3 f3 q3
      go_wp2_with fail
      refine bodyPost_ret (v := .tuple #[.agg #[.slice a4 m4 c4], .bool true]) (by simp [results, Try.results25, go_sem, r4]) rfl ⟨_, _, gb, L, rfl, HD.out, fun h => by have := HGB.out h; omega, ?_, HKS.out _ _ HW4.out⟩
      rw [← HM4.out]
      exact HRS.out _
  · obtain ⟨g1, r1, f1, q1⟩ := HK.out w1 hb1
    have HW1 : Hid (Below w.heap.size w w1) := g1
    have HD : Hid (CTold (lbs n N) key false []) := .inr ⟨fun h => absurd h hg, rfl, rfl⟩
    clear hg hb1 g1
    go_wp2_with fail
    exact bodyPost_ret (v := .tuple #[.agg #[.slice none 0 0], .bool false]) (by simp [results, Try.results25, go_sem, r1]) rfl ⟨_, _, 0, [], rfl, HD.out, fun h => absurd rfl h, HNO.out _, HKS.out _ _ HW1.out⟩
end Go.Proofs.Ytmiofccmimhabaa
