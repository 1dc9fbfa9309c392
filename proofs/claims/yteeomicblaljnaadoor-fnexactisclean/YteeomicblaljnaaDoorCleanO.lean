/- Whether a value of the call's own is clean: the program and the specification. -/
import Derived.Test.YteeomicblaljnaaDoorCleanI
namespace Go.Proofs.YteeomicblaljnaaDoor
open Go.RowKit
set_option linter.unusedVariables false

/-- WHAT IsClean ANSWERS. -/
def CTold (N : Nat → Nd) (n : Nat) (d q : Bool) : Prop := (q = true ∧ GoodV N n ∧ (d = false ↔ ∃ k, BadN N n k)) ∨ (q = false ∧ ¬ GoodV N n ∧ d = false)
theorem CTold.same {N : Nat → Nd} {n : Nat} {s t q r : Bool} (h : CTold N n s q) (k : CTold N n t r) : s = t ∧ q = r := by
  rcases h with ⟨rfl, g, h⟩ | ⟨rfl, g, rfl⟩ <;> rcases k with ⟨rfl, g', h'⟩ | ⟨rfl, g', rfl⟩
  · refine ⟨?_, rfl⟩
    have := h.trans h'.symm
    cases s <;> cases t <;> simp_all
  · exact absurd g g'
  · exact absurd g' g
  · exact ⟨rfl, rfl⟩
def CleanIs (N : Nat → Nd) (n : Nat) (w : World) (e : Ending) (w' : World) : Prop := ∃ s q, e = .returned (.tuple #[.bool s, .bool q]) ∧ CTold N n s q ∧ Below w.heap.size w w'
/-- The sentinel lies in its variable. -/
def ErrAt (w : World) : Prop := 0 < w.heap.size ∧ ∃ e, w.cell? ⟨0, 0, none⟩ = some (.iface 141 (.pointer (some e)))
theorem ErrAt.below {w w' : World} (h : ErrAt w) (hb : Below w.heap.size w w') : ErrAt w' := by
  obtain ⟨h1, e, h2⟩ := h
  exact ⟨Nat.lt_of_lt_of_le h1 hb.size, e, (hb.cell h1).trans h2⟩

theorem up_both {N : Nat → Nd} {n : Nat} (hg : GoodV N n) : ∀ i, i < n → -1 ≤ (N i).up ∧ (N i).up < (i : Int) := fun i hi => by
  have hp := good_pre hg
  refine ⟨?_, up_lt hg i hi⟩
  by_cases h0 : i = 0
  · subst h0
    have := hp.1 hi
    omega
  · have := (hp.2 i (by omega) hi).1
    omega

set_option maxRecDepth 100000 in
set_option maxHeartbeats 1000000 in
theorem specClean_own (b n : Nat) (a : Option Addr) (c : Nat) (N : Nat → Nd) (w : World) (h : OwnAt w b (.slice a n c) n N) (hsm : SmallN n N) :
    Calls Tryd.prog 6 #[.agg #[.slice a n c]] w (CleanIs N n w) := by
  have HO : Hid (OwnAt w b (.slice a n c) n N) := h
  have HSM : Hid (SmallN n N) := hsm
  have hbl : ∀ o, Below w.heap.size w (w.alloc o) := fun o => (Below.refl _ _).alloc (Nat.le_refl _) o
  clear h hsm
  go_enter Tryd.func6, Tryd.ntmps6
  go_wp2_with fail
  refine (specGood_own b n a c N _ (HO.out.below (hbl _)) HSM.out).mono ?_
  rintro e w1 ⟨q, rfl, hq, hb1⟩
  have hx : w1.cell? ⟨w.heap.size, 0, none⟩ = some (.slice a n c) := by rw [hb1.cell (by simp)]; simp [go_sem]
  have HB1 : Hid (Below w.heap.size w w1) := (hbl _).trans (hb1.mono (by simp))
  clear hb1 hbl
  cases q with
  | false =>
    have HN : Hid (¬ GoodV N n) := fun h => by have := hq.2 h; simp at this
    clear hq
    go_wp2_with fail
    exact bodyPost_ret (v := .tuple #[.bool false, .bool false]) (by simp [results, Tryd.results6, go_sem]) rfl ⟨_, _, rfl, .inr ⟨rfl, HN.out, rfl⟩, HB1.out⟩
  | true =>
    have hg : GoodV N n := hq.1 rfl
    have HG : Hid (GoodV N n) := hg
    have hs := hg.1
    have h80 := hs.2.1
    have h00 := hs.1
    have HTS : Hid (TreeSaid N n 0) := l1Tree_any N n hs.2.1 n 0 rfl hs.1
    have HCN : Hid ((tree N n 0).cnt = n ∧ ((tree N n 0).clean = false ↔ ∃ k, BadN N n k)) := ⟨good_cnt hg, clean_bad hg⟩
    clear hq hg hs
    go_wp2_with fail
    refine (HTS.out _ _ _ ((own_arg HO.out).below HB1.out)).mono ?_
    rintro e w2 ⟨an, cn, mn, ak, ck, mk', rfl, ht2, hb2⟩
    have HT2 : Hid (Tree w2 (tree N n 0) _) := ht2.any
    have HB2 : Hid (Below w.heap.size w w2) := HB1.out.trans (hb2.mono HB1.out.size)
    clear ht2 hb2
    go_wp2_with fail
    refine (l4Clean_any (tree N n 0) _ _ HT2.out (by rw [HCN.out.1]; omega)).mono ?_
    rintro e w3 ⟨rfl, hb3⟩
    have HB3 : Hid (Below w.heap.size w w3) := HB2.out.trans (hb3.mono HB2.out.size)
    clear hb3
    go_wp2
    exact bodyPost_ret (v := .tuple #[.bool (tree N n 0).clean, .bool true]) (by simp [results, Tryd.results6, go_sem]) rfl ⟨_, _, rfl, .inl ⟨rfl, HG.out, HCN.out.2⟩, HB3.out⟩

set_option maxRecDepth 100000 in
set_option maxHeartbeats 1000000 in
theorem implClean_own (b n : Nat) (a : Option Addr) (c : Nat) (N : Nat → Nd) (w : World) (h : OwnAt w b (.slice a n c) n N) (hsm : SmallN n N) (htab : Tab w.heap.size w) (herr : ErrAt w) :
    Calls Tryd.prog 8 #[.agg #[.slice a n c]] w (CleanIs N n w) := by
  have HO : Hid (OwnAt w b (.slice a n c) n N) := h
  have HSM : Hid (SmallN n N) := hsm
  have HTB : Hid (Tab w.heap.size w) := htab
  have hbl : ∀ o, Below w.heap.size w (w.alloc o) := fun o => (Below.refl _ _).alloc (Nat.le_refl _) o
  have HER : Hid (ErrAt w) := herr
  clear h hsm htab herr
  go_enter Tryd.func8, Tryd.ntmps8
  go_wp2_with fail
  refine (implGood_own b n a c N _ (HO.out.below (hbl _)) HSM.out (HTB.out.up (hbl _))).mono ?_
  rintro e w1 ⟨q, rfl, hq, hb1⟩
  have hx : w1.cell? ⟨w.heap.size, 0, none⟩ = some (.slice a n c) := by rw [hb1.cell (by simp)]; simp [go_sem]
  have HB1 : Hid (Below w.heap.size w w1) := (hbl _).trans (hb1.mono (by simp))
  clear hb1 hbl
  cases q with
  | false =>
    have HN : Hid (¬ GoodV N n) := fun h => by have := hq.2 h; simp at this
    clear hq
    go_wp2_with fail
    exact bodyPost_ret (v := .tuple #[.bool false, .bool false]) (by simp [results, Tryd.results8, go_sem]) rfl ⟨_, _, rfl, .inr ⟨rfl, HN.out, rfl⟩, HB1.out⟩
  | true =>
    have hg : GoodV N n := hq.1 rfl
    have HG : Hid (GoodV N n) := hg
    have hs := hg.1
    have h80 : Hid (n ≤ 80) := hs.2.1
    have hn0 : Hid (0 < n) := hs.1
    have HUP : Hid (∀ i, i < n → -1 ≤ (N i).up ∧ (N i).up < (i : Int)) := up_both hg
    obtain ⟨hge, ea, hec⟩ := HER.out.below HB1.out
    obtain ⟨b', off, rfl, hb', hat⟩ : ∃ b off, a = some ⟨b, off, none⟩ ∧ b < w.heap.size ∧ NodesAt w b off n N := by
      rcases own_arg HO.out with h0 | h0
      · exact absurd h0 (by have := hs.1; omega)
      · exact h0
    have HB : Hid (b' < w1.heap.size) := Nat.lt_of_lt_of_le hb' HB1.out.size
    have HAT : Hid (NodesAt w1 b' off n N) := hat.below HB1.out hb'
    clear hq hg hs hb' hat
    go_wp2_with fail
    refine (isClean_any b' off c n N ea _ HB.out (by have := h80.out; omega) HUP.out HAT.out hge hec).mono ?_
    rintro e w2 ⟨qc, rfl, hqc, hb2⟩
    have HQC : Hid (qc = false ↔ ∃ k, BadN N n k) := hqc
    have HB2 : Hid (Below w.heap.size w w2) := HB1.out.trans (hb2.mono HB1.out.size)
    clear hb2 hqc
    go_wp2
    exact bodyPost_ret (v := .tuple #[.bool qc, .bool true]) (by simp [results, Tryd.results8, go_sem]) rfl ⟨_, _, rfl, .inl ⟨rfl, HG.out, HQC.out⟩, HB2.out⟩

end Go.Proofs.YteeomicblaljnaaDoor
