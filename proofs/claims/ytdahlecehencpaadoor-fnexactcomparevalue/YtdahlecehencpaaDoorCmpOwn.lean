/- The order of two values of the call's own: the program and the specification. -/
import Derived.Test.YtdahlecehencpaaDoorCmpV
import Derived.Test.YtdahlecehencpaaDoorCmpS
import Derived.Test.YtdahlecehencpaaDoorSubI
import Derived.Deep.DeepFit
namespace Go.Proofs.YtdahlecehencpaaDoor
open Go.RowKit
set_option linter.unusedVariables false

theorem good_content {x : Nd} (h : contentB x = true) : (x.kind ≠ 4 → x.num = 0) ∧ (x.kind ≠ 5 → x.text = ByteArray.empty) := by
  unfold contentB at h
  by_cases h4 : x.kind = 4
  · rw [if_pos h4] at h
    simp only [Bool.and_eq_true, decide_eq_true_eq] at h
    exact ⟨fun h' => absurd h4 h', fun _ => text_empty h.2⟩
  · rw [if_neg h4] at h
    by_cases h5 : x.kind = 5
    · rw [if_pos h5] at h
      simp only [Bool.and_eq_true, decide_eq_true_eq] at h
      exact ⟨fun _ => h.1, fun h' => absurd h5 h'⟩
    · rw [if_neg h5] at h
      by_cases hk : x.kind = 1 ∨ x.kind = 2 ∨ x.kind = 3 ∨ x.kind = 6 ∨ x.kind = 7
      · rw [if_pos hk] at h
        simp only [Bool.and_eq_true, decide_eq_true_eq] at h
        exact ⟨fun _ => h.1, fun _ => text_empty h.2⟩
      · rw [if_neg hk] at h
        simp at h
theorem good_ok {N : Nat → Nd} {n : Nat} (h : GoodV N n) : (tree N n 0).ok := by
  refine tree_ok (fun i hi => good_content (h.1.2.2 i hi).1) (fun i h0 hi => ?_) n 0 rfl h.1.1
  rcases (h.1.2.2 i hi).2.1 with ⟨e, _⟩ | ⟨_, _, _, _, ⟨h, _⟩ | ⟨h, _⟩⟩
  · omega
  · exact .inl h
  · exact .inr h
theorem good_cmp {N M : Nat → Nd} {n m : Nat} (h : GoodV N n) (k : GoodV M m) : (tree N n 0).cmp (tree M m 0) = lexN (from_ N n 0) (from_ M m 0) := by
  rw [← cmp_whole (good_ok h) (good_ok k), good_flat h, good_flat k, from_zero, from_zero]

/-- WHAT CompareValue ANSWERS. -/
def CTold (N : Nat → Nd) (n : Nat) (M : Nat → Nd) (m : Nat) (d : Int) (q : Bool) : Prop := (q = true ∧ (GoodV N n ∧ GoodV M m) ∧ d = lexN (from_ N n 0) (from_ M m 0)) ∨ (q = false ∧ ¬ (GoodV N n ∧ GoodV M m) ∧ d = 0)
theorem CTold.same {N : Nat → Nd} {n : Nat} {M : Nat → Nd} {m : Nat} {s t : Int} {q r : Bool} (h : CTold N n M m s q) (k : CTold N n M m t r) : s = t ∧ q = r := by
  rcases h with ⟨rfl, g, rfl⟩ | ⟨rfl, g, rfl⟩ <;> rcases k with ⟨rfl, g', rfl⟩ | ⟨rfl, g', rfl⟩
  · exact ⟨rfl, rfl⟩
  · exact absurd g g'
  · exact absurd g' g
  · exact ⟨rfl, rfl⟩
def CmpIs (N : Nat → Nd) (n : Nat) (M : Nat → Nd) (m : Nat) (w : World) (e : Ending) (w' : World) : Prop := ∃ s q, e = .returned (.tuple #[.int .i64 s, .bool q]) ∧ CTold N n M m s q ∧ Below w.heap.size w w'

theorem own_some {w : World} {b : Nat} {a : Option Addr} {n c : Nat} {N : Nat → Nd} (h : OwnAt w b (.slice a n c) n N) (hn : 0 < n) : ∃ b off, a = some ⟨b, off, none⟩ ∧ b < w.heap.size ∧ NodesAt w b off n N := by
  rcases own_arg h with h0 | h0
  · omega
  · exact h0

set_option maxRecDepth 100000 in
set_option maxHeartbeats 2000000 in
theorem specCmp_own (b n : Nat) (a : Option Addr) (c : Nat) (N : Nat → Nd) (b' n' : Nat) (a' : Option Addr) (c' : Nat) (M : Nat → Nd) (w : World) (h : OwnAt w b (.slice a n c) n N) (h' : OwnAt w b' (.slice a' n' c') n' M) (hsm : SmallN n N) (hsm' : SmallN n' M) :
    Calls Tryd.prog 29 #[.agg #[.slice a n c], .agg #[.slice a' n' c']] w (CmpIs N n M n' w) := by
  have HO : Hid (OwnAt w b (.slice a n c) n N) := h
  have HO' : Hid (OwnAt w b' (.slice a' n' c') n' M) := h'
  have HSM : Hid (SmallN n N) := hsm
  have HSM' : Hid (SmallN n' M) := hsm'
  have hbl : ∀ o o', Below w.heap.size w ((w.alloc o).alloc o') := fun o o' => ((Below.refl _ _).alloc (Nat.le_refl _) o).alloc (by simp) o'
  clear h hsm h' hsm'
  go_enter Tryd.func29, Tryd.ntmps29
  go_wp2_with fail
  refine (specGood_own b n a c N _ (HO.out.below (hbl _ _)) HSM.out).mono ?_
  rintro e w1 ⟨q, rfl, hq, hb1⟩
  have x1 : w1.cell? ⟨w.heap.size, 0, none⟩ = some (.slice a n c) := by rw [hb1.cell (by simp; omega)]; simp [go_sem]
  have y1 : w1.cell? ⟨w.heap.size + 1, 0, none⟩ = some (.slice a' n' c') := by rw [hb1.cell (by simp)]; simp [go_sem]
  have HB1 : Hid (Below w.heap.size w w1) := (hbl _ _).trans (hb1.mono (by simp; omega))
  have z1 : w.heap.size + 1 < w1.heap.size := by have := hb1.size; simp at this; omega
  have z1' : w.heap.size < w1.heap.size := by omega
  clear hb1 hbl
  cases q with
  | false =>
    have HN : Hid (¬ (GoodV N n ∧ GoodV M n')) := fun h => by have := hq.2 h.1; simp at this
    clear hq
    go_wp2_with fail
    exact bodyPost_ret (v := .tuple #[.int .i64 0, .bool false]) (by simp [results, Tryd.results29, go_sem]) rfl ⟨_, _, rfl, .inr ⟨rfl, HN.out, rfl⟩, HB1.out⟩
  | true =>
    have HG : Hid (GoodV N n) := hq.1 rfl
    clear hq
    go_wp2_with fail
    refine (specGood_own b' n' a' c' M _ (HO'.out.below HB1.out) HSM'.out).mono ?_
    rintro e w2 ⟨q, rfl, hq, hb2⟩
    have x2 : w2.cell? ⟨w.heap.size, 0, none⟩ = some (.slice a n c) := (hb2.cell z1').trans x1
    have y2 : w2.cell? ⟨w.heap.size + 1, 0, none⟩ = some (.slice a' n' c') := (hb2.cell z1).trans y1
    have HB2 : Hid (Below w.heap.size w w2) := HB1.out.trans (hb2.mono HB1.out.size)
    have z2 : w.heap.size + 1 < w2.heap.size := by have := hb2.size; omega
    have z2' : w.heap.size < w2.heap.size := by omega
    clear hb2
    cases q with
    | false =>
      have HN : Hid (¬ (GoodV N n ∧ GoodV M n')) := fun h => by have := hq.2 h.2; simp at this
      clear hq
      go_wp2_with fail
      exact bodyPost_ret (v := .tuple #[.int .i64 0, .bool false]) (by simp [results, Tryd.results29, go_sem]) rfl ⟨_, _, rfl, .inr ⟨rfl, HN.out, rfl⟩, HB2.out⟩
    | true =>
      have HG' : Hid (GoodV M n') := hq.1 rfl
      clear hq
      have h80 : n ≤ 80 ∧ n' ≤ 80 := ⟨HG.out.1.2.1, HG'.out.1.2.1⟩
      have HT1 : Hid (TreeSaid N n 0) := l1Tree_any N n h80.1 n 0 rfl HG.out.1.1
      have HT2 : Hid (TreeSaid M n' 0) := l1Tree_any M n' h80.2 n' 0 rfl HG'.out.1.1
      have HA1 : Hid (ArgIs w2.drew a n N) := (own_arg HO.out).below HB2.out.drew
      have HA2 : Hid (∀ W, Below w.heap.size w W → ArgIs W a' n' M) := fun W hW => (own_arg HO'.out).below hW
      have HN1 : Hid ((tree N n 0).named ∧ (tree N n 0).cnt ≤ 2 ^ 20) := ⟨tree_named N n n 0 rfl HG.out.1.1, by rw [good_cnt HG.out]; omega⟩
      have HN2 : Hid ((tree M n' 0).named ∧ (tree M n' 0).cnt ≤ 2 ^ 20) := ⟨tree_named M n' n' 0 rfl HG'.out.1.1, by rw [good_cnt HG'.out]; omega⟩
      have HCM : Hid ((tree N n 0).cmp (tree M n' 0) = lexN (from_ N n 0) (from_ M n' 0)) := good_cmp HG.out HG'.out
      go_wp2_with fail
      go_region_held3 (fun w' => w'.cell? ⟨w.heap.size, 0, none⟩ = some (.slice a n c) ∧ w'.cell? ⟨w.heap.size + 1, 0, none⟩ = some (.slice a' n' c')) (first | exact ⟨x2, y2⟩ | exact ⟨x3, y3⟩ | exact ⟨x4, y4⟩ | exact ⟨x5, y5⟩ | fail)
        (first | (go_at_call 51; go_fit (HT1.out a c w2.drew HA1.out); rintro e w3 ⟨an, cn, mn, ak, ck, mk1, rfl, ht3, hb3⟩; have x3 := (hb3.cell (p := ⟨w.heap.size, 0, none⟩) z2').trans x2; have y3 := (hb3.cell (p := ⟨w.heap.size + 1, 0, none⟩) z2).trans y2; have zz3 : w2.heap.size ≤ w3.heap.size := hb3.size; have HB3 : Hid (Below w.heap.size w w3) := HB2.out.drew.trans (hb3.mono HB2.out.size); have HTR3 : Hid (Tree w3 (tree N n 0) _) := ht3.any; clear ht3 hb3) | (go_at_call 51; go_fit (HT2.out a' c' w3 (HA2.out w3 HB3.out)); rintro e w4 ⟨an4, cn4, mn4, ak4, ck4, mk4, rfl, ht4, hb4⟩; have x4 := (hb4.cell (p := ⟨w.heap.size, 0, none⟩) (Nat.lt_of_lt_of_le z2' zz3)).trans x3; have y4 := (hb4.cell (p := ⟨w.heap.size + 1, 0, none⟩) (Nat.lt_of_lt_of_le z2 zz3)).trans y3; have zz4 : w2.heap.size ≤ w4.heap.size := Nat.le_trans zz3 hb4.size; have HB4 : Hid (Below w.heap.size w w4) := HB3.out.trans (hb4.mono HB3.out.size); have HTR4 : Hid (Tree w4 (tree N n 0) _) := HTR3.out.below hb4; have HTS4 : Hid (Tree w4 (tree M n' 0) _) := ht4.any; clear ht4 hb4) | (go_at_call 52; go_fit (l2Compare_any (tree N n 0) (tree M n' 0) _ _ w4 HTR4.out HTS4.out HN1.out.1 HN2.out.1 HN1.out.2 HN2.out.2); rintro e w5 ⟨rfl, hb5⟩; have x5 := (hb5.cell (p := ⟨w.heap.size, 0, none⟩) (Nat.lt_of_lt_of_le z2' zz4)).trans x4; have y5 := (hb5.cell (p := ⟨w.heap.size + 1, 0, none⟩) (Nat.lt_of_lt_of_le z2 zz4)).trans y4; have HB5 : Hid (Below w.heap.size w w5) := HB4.out.trans (hb5.mono HB4.out.size); clear hb5))
      go_wp2_with fail
      exact bodyPost_ret (v := .tuple #[.int .i64 ((tree N n 0).cmp (tree M n' 0)), .bool true]) (by simp [results, Tryd.results29, go_sem]) rfl ⟨_, _, rfl, .inl ⟨rfl, ⟨HG.out, HG'.out⟩, HCM.out⟩, HB5.out⟩

set_option maxRecDepth 100000 in
set_option maxHeartbeats 2000000 in
theorem implCmp_own (b n : Nat) (a : Option Addr) (c : Nat) (N : Nat → Nd) (b' n' : Nat) (a' : Option Addr) (c' : Nat) (M : Nat → Nd) (w : World) (h : OwnAt w b (.slice a n c) n N) (h' : OwnAt w b' (.slice a' n' c') n' M) (hsm : SmallN n N) (hsm' : SmallN n' M) (htab : Tab w.heap.size w) :
    Calls Tryd.prog 16 #[.agg #[.slice a n c], .agg #[.slice a' n' c']] w (CmpIs N n M n' w) := by
  have HO : Hid (OwnAt w b (.slice a n c) n N) := h
  have HO' : Hid (OwnAt w b' (.slice a' n' c') n' M) := h'
  have HSM : Hid (SmallN n N) := hsm
  have HSM' : Hid (SmallN n' M) := hsm'
  have HTB : Hid (Tab w.heap.size w) := htab
  have hbl : ∀ o o', Below w.heap.size w ((w.alloc o).alloc o') := fun o o' => ((Below.refl _ _).alloc (Nat.le_refl _) o).alloc (by simp) o'
  clear h hsm h' hsm' htab
  go_enter Tryd.func16, Tryd.ntmps16
  go_wp2_with fail
  refine (implGood_own b n a c N _ (HO.out.below (hbl _ _)) HSM.out (HTB.out.up (hbl _ _))).mono ?_
  rintro e w1 ⟨q, rfl, hq, hb1⟩
  have x1 : w1.cell? ⟨w.heap.size, 0, none⟩ = some (.slice a n c) := by rw [hb1.cell (by simp; omega)]; simp [go_sem]
  have y1 : w1.cell? ⟨w.heap.size + 1, 0, none⟩ = some (.slice a' n' c') := by rw [hb1.cell (by simp)]; simp [go_sem]
  have HB1 : Hid (Below w.heap.size w w1) := (hbl _ _).trans (hb1.mono (by simp; omega))
  have z1 : w.heap.size + 1 < w1.heap.size := by have := hb1.size; simp at this; omega
  have z1' : w.heap.size < w1.heap.size := by omega
  clear hb1 hbl
  cases q with
  | false =>
    have HN : Hid (¬ (GoodV N n ∧ GoodV M n')) := fun h => by have := hq.2 h.1; simp at this
    clear hq
    go_wp2_with fail
    exact bodyPost_ret (v := .tuple #[.int .i64 0, .bool false]) (by simp [results, Tryd.results16, go_sem]) rfl ⟨_, _, rfl, .inr ⟨rfl, HN.out, rfl⟩, HB1.out⟩
  | true =>
    have HG : Hid (GoodV N n) := hq.1 rfl
    clear hq
    go_wp2_with fail
    refine (implGood_own b' n' a' c' M _ (HO'.out.below HB1.out) HSM'.out (HTB.out.up HB1.out)).mono ?_
    rintro e w2 ⟨q, rfl, hq, hb2⟩
    have x2 : w2.cell? ⟨w.heap.size, 0, none⟩ = some (.slice a n c) := (hb2.cell z1').trans x1
    have y2 : w2.cell? ⟨w.heap.size + 1, 0, none⟩ = some (.slice a' n' c') := (hb2.cell z1).trans y1
    have HB2 : Hid (Below w.heap.size w w2) := HB1.out.trans (hb2.mono HB1.out.size)
    clear hb2
    cases q with
    | false =>
      have HN : Hid (¬ (GoodV N n ∧ GoodV M n')) := fun h => by have := hq.2 h.2; simp at this
      clear hq
      go_wp2_with fail
      exact bodyPost_ret (v := .tuple #[.int .i64 0, .bool false]) (by simp [results, Tryd.results16, go_sem]) rfl ⟨_, _, rfl, .inr ⟨rfl, HN.out, rfl⟩, HB2.out⟩
    | true =>
      have HG' : Hid (GoodV M n') := hq.1 rfl
      clear hq
      obtain ⟨b1, o1, rfl, hb1, hat1⟩ := own_some HO.out HG.out.1.1
      obtain ⟨b2, o2, rfl, hb2, hat2⟩ := own_some HO'.out HG'.out.1.1
      have HT1 : Hid (NodesAt w2 b1 o1 n N) := hat1.below HB2.out hb1
      have HT2 : Hid (NodesAt w2 b2 o2 n' M) := hat2.below HB2.out hb2
      have hz := HB2.out.size
      have hn1 : n ≤ 2 ^ 20 := by have := HG.out.1.2.1; omega
      have hn2 : n' ≤ 2 ^ 20 := by have := HG'.out.1.2.1; omega
      clear hat1 hat2
      go_wp2_with fail
      refine (compareValues_any b1 o1 c n b2 o2 c' n' N M _ hn1 hn2 (by omega) (by omega) HT1.out HT2.out).mono ?_
      rintro e w3 ⟨rfl, hb3⟩
      have HB3 : Hid (Below w.heap.size w w3) := HB2.out.trans (hb3.mono HB2.out.size)
      clear hb3
      go_wp2_with fail
      exact bodyPost_ret (v := .tuple #[.int .i64 (lexN (from_ N n 0) (from_ M n' 0)), .bool true]) (by simp [results, Tryd.results16, go_sem]) rfl ⟨_, _, rfl, .inl ⟨rfl, ⟨HG.out, HG'.out⟩, rfl⟩, HB3.out⟩

end Go.Proofs.YtdahlecehencpaaDoor
