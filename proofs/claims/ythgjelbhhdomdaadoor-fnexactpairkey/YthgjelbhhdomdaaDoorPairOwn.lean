/- The keys of two values of the call's own, one behind the other: the program and the specification. -/
import Derived.Test.YthgjelbhhdomdaaDoorKeyOwn0
namespace Go.Proofs.YthgjelbhhdomdaaDoor
open Go.RowKit
set_option linter.unusedVariables false

/-- WHAT PairKey ANSWERS. -/
def PTold (N : Nat → Nd) (n : Nat) (M : Nat → Nd) (m : Nat) (s : ByteArray) (q : Bool) : Prop := (q = true ∧ (GoodV N n ∧ GoodV M m) ∧ s = strL ((tree N n 0).key ++ (tree M m 0).key)) ∨ (q = false ∧ ¬ (GoodV N n ∧ GoodV M m) ∧ s = ⟨#[]⟩)
theorem PTold.same {N : Nat → Nd} {n : Nat} {M : Nat → Nd} {m : Nat} {s t : ByteArray} {q r : Bool} (h : PTold N n M m s q) (k : PTold N n M m t r) : s = t ∧ q = r := by
  rcases h with ⟨rfl, g, rfl⟩ | ⟨rfl, g, rfl⟩ <;> rcases k with ⟨rfl, g', rfl⟩ | ⟨rfl, g', rfl⟩
  · exact ⟨rfl, rfl⟩
  · exact absurd g g'
  · exact absurd g' g
  · exact ⟨rfl, rfl⟩
def PairIs (N : Nat → Nd) (n : Nat) (M : Nat → Nd) (m : Nat) (w : World) (e : Ending) (w' : World) : Prop := ∃ s q, e = .returned (.tuple #[.string s, .bool q]) ∧ PTold N n M m s q ∧ Below w.heap.size w w'

set_option maxRecDepth 100000 in
set_option maxHeartbeats 2000000 in
theorem specPair_own (b n : Nat) (a : Option Addr) (c : Nat) (N : Nat → Nd) (b' n' : Nat) (a' : Option Addr) (c' : Nat) (M : Nat → Nd) (w : World) (h : OwnAt w b (.slice a n c) n N) (h' : OwnAt w b' (.slice a' n' c') n' M) (hsm : SmallN n N) (hsm' : SmallN n' M) :
    Calls Tryd.prog 18 #[.agg #[.slice a n c], .agg #[.slice a' n' c']] w (PairIs N n M n' w) := by
  have HO : Hid (OwnAt w b (.slice a n c) n N) := h
  have HO' : Hid (OwnAt w b' (.slice a' n' c') n' M) := h'
  have HSM : Hid (SmallN n N) := hsm
  have HSM' : Hid (SmallN n' M) := hsm'
  have hbl : ∀ o o', Below w.heap.size w ((w.alloc o).alloc o') := fun o o' => ((Below.refl _ _).alloc (Nat.le_refl _) o).alloc (by simp) o'
  clear h hsm h' hsm'
  go_enter Tryd.func18, Tryd.ntmps18
  go_wp2_with fail
  refine (specKey_own b n a c N _ (HO.out.below (hbl _ _)) HSM.out).mono ?_
  rintro e w1 ⟨s, q, rfl, hq, hb1⟩
  have y1 : w1.cell? ⟨w.heap.size + 1, 0, none⟩ = some (.slice a' n' c') := by rw [hb1.cell (by simp)]; simp [go_sem]
  have HB1 : Hid (Below w.heap.size w w1) := (hbl _ _).trans (hb1.mono (by simp; omega))
  have z1 : w.heap.size + 1 < w1.heap.size := by have := hb1.size; simp at this; omega
  have HQ : Hid (YTold N n s q) := hq
  clear hb1 hbl hq
  go_wp2_with fail
  refine (specKey_own b' n' a' c' M _ (HO'.out.below HB1.out) HSM'.out).mono ?_
  rintro e w2 ⟨s', q', rfl, hq', hb2⟩
  have HB2 : Hid (Below w.heap.size w w2) := HB1.out.trans (hb2.mono HB1.out.size)
  have HQ' : Hid (YTold M n' s' q') := hq'
  clear hb2 hq'
  rcases HQ.out with ⟨rfl, hg, rfl⟩ | ⟨rfl, hg, rfl⟩
  · rcases HQ'.out with ⟨rfl, hg', rfl⟩ | ⟨rfl, hg', rfl⟩
    · have HG : Hid (GoodV N n ∧ GoodV M n') := ⟨hg, hg'⟩
      have l1 : (strL (tree N n 0).key).size ≤ 2 ^ 20 := by rw [strL_size]; exact good_key_len hg
      have l2 : (strL (tree M n' 0).key).size ≤ 2 ^ 20 := by rw [strL_size]; exact good_key_len hg'
      clear hg hg'
      go_wp2_with fail
      exact bodyPost_ret (v := .tuple #[.string (strL (tree N n 0).key ++ strL (tree M n' 0).key), .bool true]) (by simp [results, Tryd.results18, go_sem]) rfl ⟨_, _, rfl, .inl ⟨rfl, HG.out, strL_append _ _⟩, HB2.out⟩
    · have HN : Hid (¬ (GoodV N n ∧ GoodV M n')) := fun h => hg' h.2
      clear hg hg'
      go_wp2_with fail
      exact bodyPost_ret (v := .tuple #[.string ⟨#[]⟩, .bool false]) (by simp [results, Tryd.results18, go_sem]) rfl ⟨_, _, rfl, .inr ⟨rfl, HN.out, rfl⟩, HB2.out⟩
  · have HN : Hid (¬ (GoodV N n ∧ GoodV M n')) := fun h => hg h.1
    clear hg
    go_wp2_with fail
    exact bodyPost_ret (v := .tuple #[.string ⟨#[]⟩, .bool false]) (by simp [results, Tryd.results18, go_sem]) rfl ⟨_, _, rfl, .inr ⟨rfl, HN.out, rfl⟩, HB2.out⟩

set_option maxRecDepth 100000 in
set_option maxHeartbeats 2000000 in
theorem implPair_own (b n : Nat) (a : Option Addr) (c : Nat) (N : Nat → Nd) (b' n' : Nat) (a' : Option Addr) (c' : Nat) (M : Nat → Nd) (w : World) (h : OwnAt w b (.slice a n c) n N) (h' : OwnAt w b' (.slice a' n' c') n' M) (hsm : SmallN n N) (hsm' : SmallN n' M) (htab : Tab w.heap.size w) (hmk : Marks w) :
    Calls Tryd.prog 20 #[.agg #[.slice a n c], .agg #[.slice a' n' c']] w (PairIs N n M n' w) := by
  have HO : Hid (OwnAt w b (.slice a n c) n N) := h
  have HO' : Hid (OwnAt w b' (.slice a' n' c') n' M) := h'
  have HSM : Hid (SmallN n N) := hsm
  have HSM' : Hid (SmallN n' M) := hsm'
  have HTB : Hid (Tab w.heap.size w) := htab
  have HMK : Hid (Marks w) := hmk
  have hbl : ∀ o o', Below w.heap.size w ((w.alloc o).alloc o') := fun o o' => ((Below.refl _ _).alloc (Nat.le_refl _) o).alloc (by simp) o'
  clear h hsm h' hsm' htab hmk
  go_enter Tryd.func20, Tryd.ntmps20
  go_wp2_with fail
  refine (implGood_own b n a c N _ (HO.out.below (hbl _ _)) HSM.out (HTB.out.up (hbl _ _))).mono ?_
  rintro e w1 ⟨q, rfl, hq, hb1⟩
  have x1 : w1.cell? ⟨w.heap.size, 0, none⟩ = some (.slice a n c) := by rw [hb1.cell (by simp; omega)]; simp [go_sem]
  have y1 : w1.cell? ⟨w.heap.size + 1, 0, none⟩ = some (.slice a' n' c') := by rw [hb1.cell (by simp)]; simp [go_sem]
  have HB1 : Hid (Below w.heap.size w w1) := (hbl _ _).trans (hb1.mono (by simp; omega))
  have z1 : w.heap.size + 1 < w1.heap.size := by have := hb1.size; simp at this; omega
  have z1' : w.heap.size < w1.heap.size := by omega
  clear hb1 hbl
  cases q with
  | false =>
    have HN : Hid (¬ (GoodV N n ∧ GoodV M n')) := fun h => by have := hq.2 h.1; simp at this
    clear hq
    go_wp2_with fail
    exact bodyPost_ret (v := .tuple #[.string ⟨#[]⟩, .bool false]) (by simp [results, Tryd.results20, go_sem]) rfl ⟨_, _, rfl, .inr ⟨rfl, HN.out, rfl⟩, HB1.out⟩
  | true =>
    have HG : Hid (GoodV N n) := hq.1 rfl
    clear hq
    go_wp2_with fail
    refine (implGood_own b' n' a' c' M _ (HO'.out.below HB1.out) HSM'.out (HTB.out.up HB1.out)).mono ?_
    rintro e w2 ⟨q, rfl, hq, hb2⟩
    have x2 : w2.cell? ⟨w.heap.size, 0, none⟩ = some (.slice a n c) := (hb2.cell z1').trans x1
    have y2 : w2.cell? ⟨w.heap.size + 1, 0, none⟩ = some (.slice a' n' c') := (hb2.cell z1).trans y1
    have HB2 : Hid (Below w.heap.size w w2) := HB1.out.trans (hb2.mono HB1.out.size)
    have z2 : w.heap.size + 1 < w2.heap.size := by have := hb2.size; omega
    have z2' : w.heap.size < w2.heap.size := by omega
    clear hb2
    cases q with
    | false =>
      have HN : Hid (¬ (GoodV N n ∧ GoodV M n')) := fun h => by have := hq.2 h.2; simp at this
      clear hq
      go_wp2_with fail
      exact bodyPost_ret (v := .tuple #[.string ⟨#[]⟩, .bool false]) (by simp [results, Tryd.results20, go_sem]) rfl ⟨_, _, rfl, .inr ⟨rfl, HN.out, rfl⟩, HB2.out⟩
    | true =>
      have HG' : Hid (GoodV M n') := hq.1 rfl
      clear hq
      obtain ⟨b1, o1, rfl, hb1, hat1⟩ := own_some HO.out HG.out.1.1
      obtain ⟨b2, o2, rfl, hb2, hat2⟩ := own_some HO'.out HG'.out.1.1
      have HT1 : Hid (∀ W, Below w.heap.size w W → NodesAt W b1 o1 n N) := fun W hW => hat1.below hW hb1
      have HT2 : Hid (∀ W, Below w.heap.size w W → NodesAt W b2 o2 n' M) := fun W hW => hat2.below hW hb2
      have hz := HB2.out.size
      have h80 : n ≤ 80 ∧ n' ≤ 80 := ⟨HG.out.1.2.1, HG'.out.1.2.1⟩
      have hk1 : Hid ((strL (tree N n 0).key).size ≤ 2 ^ 20) := by show _ ≤ _; rw [strL_size]; exact good_key_len HG.out
      have hk2 : Hid ((strL (tree M n' 0).key).size ≤ 2 ^ 20) := by show _ ≤ _; rw [strL_size]; exact good_key_len HG'.out
      clear hat1 hat2
      go_wp2_with fail
      go_region_held3 (fun w' => w'.cell? ⟨w.heap.size, 0, none⟩ = some (.slice (some ⟨b1, o1, none⟩) n c) ∧ w'.cell? ⟨w.heap.size + 1, 0, none⟩ = some (.slice (some ⟨b2, o2, none⟩) n' c')) (first | exact ⟨x2, y2⟩ | exact ⟨x3, y3⟩ | exact ⟨x4, y4⟩ | exact ⟨(((Below.refl w4.heap.size w4).alloc (Nat.le_refl _) _).cell (p := ⟨w.heap.size, 0, none⟩) (Nat.lt_of_lt_of_le z2' zz4)).trans x4, (((Below.refl w4.heap.size w4).alloc (Nat.le_refl _) _).cell (p := ⟨w.heap.size + 1, 0, none⟩) (Nat.lt_of_lt_of_le z2 zz4)).trans y4⟩ | exact ⟨x5, y5⟩ | fail)
        (first | (go_at_call 50; go_fit (keyOfNodes_any b1 o1 c n N w2.drew h80.1 HG.out.1.1 (Nat.lt_of_lt_of_le hb1 hz) (HT1.out _ HB2.out.drew) (good_tok HG.out) (HMK.out.below HB2.out.drew)); rintro e w3 ⟨rfl, hb3⟩; have x3 := (hb3.cell (p := ⟨w.heap.size, 0, none⟩) z2').trans x2; have y3 := (hb3.cell (p := ⟨w.heap.size + 1, 0, none⟩) z2).trans y2; have zz3 : w2.heap.size ≤ w3.heap.size := hb3.size; have HB3 : Hid (Below w.heap.size w w3) := HB2.out.drew.trans (hb3.mono HB2.out.size); clear hb3) | (go_at_call 50; go_fit (keyOfNodes_any b2 o2 c' n' M w3 h80.2 HG'.out.1.1 (Nat.lt_of_lt_of_le hb2 (Nat.le_trans hz zz3)) (HT2.out _ HB3.out) (good_tok HG'.out) (HMK.out.below HB3.out)); rintro e w4 ⟨rfl, hb4⟩; have x4 := (hb4.cell (p := ⟨w.heap.size, 0, none⟩) (Nat.lt_of_lt_of_le z2' zz3)).trans x3; have y4 := (hb4.cell (p := ⟨w.heap.size + 1, 0, none⟩) (Nat.lt_of_lt_of_le z2 zz3)).trans y3; have zz4 : w2.heap.size ≤ w4.heap.size := Nat.le_trans zz3 hb4.size; have HB4 : Hid (Below w.heap.size w w4) := HB3.out.trans (hb4.mono HB3.out.size); clear hb4) | (go_at_call 49; go_fit (joinKey2 w4 w4.heap.size rfl (strL (tree N n 0).key) (strL (tree M n' 0).key) (by have := hk1.out; have := hk2.out; omega)); rintro e w5 ⟨rfl, hb5⟩; have x5 := (hb5.cell (p := ⟨w.heap.size, 0, none⟩) (Nat.lt_of_lt_of_le z2' zz4)).trans x4; have y5 := (hb5.cell (p := ⟨w.heap.size + 1, 0, none⟩) (Nat.lt_of_lt_of_le z2 zz4)).trans y4; have HB5 : Hid (Below w.heap.size w w5) := HB4.out.trans (hb5.mono HB4.out.size); clear hb5))
      go_wp2_with fail
      exact bodyPost_ret (v := .tuple #[.string (strL ((tree N n 0).key ++ (tree M n' 0).key)), .bool true]) (by simp [results, Tryd.results20, go_sem]; rfl) rfl ⟨_, _, rfl, .inl ⟨rfl, ⟨HG.out, HG'.out⟩, rfl⟩, HB5.out⟩

end Go.Proofs.YthgjelbhhdomdaaDoor
