/- How deep a value of the call's own is: the program and the specification. -/
import Derived.Test.YtdahlecehencpaaDoorGoodOwn
import Derived.Test.YtdahlecehencpaaDoorTreeM
import Derived.Test.YtdahlecehencpaaDoorTreeD
namespace Go.Proofs.YtdahlecehencpaaDoor
open Go.RowKit
set_option linter.unusedVariables false

/-- WHAT DeepOf ANSWERS. -/
def DTold (N : Nat → Nd) (n : Nat) (d : Nat) (q : Bool) : Prop := (q = true ∧ GoodV N n ∧ d = deepTo N n) ∨ (q = false ∧ ¬ GoodV N n ∧ d = 0)
theorem DTold.same {N : Nat → Nd} {n : Nat} {s t : Nat} {q r : Bool} (h : DTold N n s q) (k : DTold N n t r) : s = t ∧ q = r := by
  rcases h with ⟨rfl, g, rfl⟩ | ⟨rfl, g, rfl⟩ <;> rcases k with ⟨rfl, g', rfl⟩ | ⟨rfl, g', rfl⟩
  · exact ⟨rfl, rfl⟩
  · exact absurd g g'
  · exact absurd g' g
  · exact ⟨rfl, rfl⟩
def DeepIs (N : Nat → Nd) (n : Nat) (w : World) (e : Ending) (w' : World) : Prop := ∃ s q, e = .returned (.tuple #[.int .i64 (s : Nat), .bool q]) ∧ DTold N n s q ∧ Below w.heap.size w w'

/-- What a good value's nodes are. -/
theorem good_pre {N : Nat → Nd} {n : Nat} (h : GoodV N n) : Pre N n := h.1.2.2.pre
theorem text_empty {t : ByteArray} (h : noText t = true) : t = ByteArray.empty := by
  have h0 : t.toList = [] := List.isEmpty_iff.1 h
  rw [ByteArray.toList_eq] at h0
  cases t with
  | mk a => cases a with
    | mk l => simp at h0; subst h0; rfl
theorem good_noNames {N : Nat → Nd} {n : Nat} (h : GoodV N n) : NoNames N n := fun p h0 hp hk => by
  rcases (h.1.2.2 p hp).2.1 with ⟨e, _⟩ | ⟨_, _, _, _, ⟨_, h⟩ | ⟨h, _⟩⟩
  · omega
  · exact text_empty h
  · exact absurd h hk
theorem good_zero {N : Nat → Nd} {n : Nat} (h : GoodV N n) : (N 0).name = ByteArray.empty := by
  rcases (h.1.2.2 0 h.1.1).2.1 with ⟨_, _, h⟩ | ⟨h, _⟩
  · exact text_empty h
  · omega
theorem good_flat {N : Nat → Nd} {n : Nat} (h : GoodV N n) : (tree N n 0).flat ByteArray.empty (-1) 0 = (List.range n).map N := flat_whole (good_pre h) (good_noNames h) h.1.1 (good_zero h)
theorem good_cnt {N : Nat → Nd} {n : Nat} (h : GoodV N n) : (tree N n 0).cnt = n := by
  have := congrArg List.length (good_flat h)
  rw [Tr.flat_length] at this
  simpa using this
theorem good_deep {N : Nat → Nd} {n : Nat} (h : GoodV N n) : (tree N n 0).deep = deepTo N n := tree_deep (good_pre h) h.1.1 _ (fun d => deepTo_le N d n)

set_option maxRecDepth 100000 in
set_option maxHeartbeats 1000000 in
theorem specDeep_own (b n : Nat) (a : Option Addr) (c : Nat) (N : Nat → Nd) (w : World) (h : OwnAt w b (.slice a n c) n N) (hsm : SmallN n N) :
    Calls Tryd.prog 27 #[.agg #[.slice a n c]] w (DeepIs N n w) := by
  have HO : Hid (OwnAt w b (.slice a n c) n N) := h
  have HSM : Hid (SmallN n N) := hsm
  have hbl : ∀ o, Below w.heap.size w (w.alloc o) := fun o => (Below.refl _ _).alloc (Nat.le_refl _) o
  clear h hsm
  go_enter Tryd.func27, Tryd.ntmps27
  go_wp2_with fail
  refine (specGood_own b n a c N _ (HO.out.below (hbl _)) HSM.out).mono ?_
  rintro e w1 ⟨q, rfl, hq, hb1⟩
  have hx : w1.cell? ⟨w.heap.size, 0, none⟩ = some (.slice a n c) := by rw [hb1.cell (by simp)]; simp [go_sem]
  have HB1 : Hid (Below w.heap.size w w1) := (hbl _).trans (hb1.mono (by simp))
  clear hb1 hbl
  cases q with
  | false =>
    have HN : Hid (¬ GoodV N n) := fun h => by have := hq.2 h; simp at this
    clear hq
    go_wp2_with fail
    exact bodyPost_ret (v := .tuple #[.int .i64 0, .bool false]) (by simp [results, Tryd.results27, go_sem]) rfl ⟨_, _, rfl, .inr ⟨rfl, HN.out, rfl⟩, HB1.out⟩
  | true =>
    have hg : GoodV N n := hq.1 rfl
    have HG : Hid (GoodV N n) := hg
    have hs := hg.1
    have h80 := hs.2.1
    have h00 := hs.1
    have HTS : Hid (TreeSaid N n 0) := l1Tree_any N n hs.2.1 n 0 rfl hs.1
    have HCN : Hid ((tree N n 0).cnt = n ∧ (tree N n 0).deep = deepTo N n) := ⟨good_cnt hg, good_deep hg⟩
    clear hq hg hs
    go_wp2_with fail
    refine (HTS.out _ _ _ ((own_arg HO.out).below HB1.out)).mono ?_
    rintro e w2 ⟨an, cn, mn, ak, ck, mk', rfl, ht2, hb2⟩
    have HT2 : Hid (Tree w2 (tree N n 0) _) := ht2.any
    have HB2 : Hid (Below w.heap.size w w2) := HB1.out.trans (hb2.mono HB1.out.size)
    clear ht2 hb2
    go_wp2_with fail
    refine (l1Deep_any (tree N n 0) _ _ HT2.out (by rw [HCN.out.1]; omega)).mono ?_
    rintro e w3 ⟨rfl, hb3⟩
    have HB3 : Hid (Below w.heap.size w w3) := HB2.out.trans (hb3.mono HB2.out.size)
    clear hb3
    go_wp2
    exact bodyPost_ret (v := .tuple #[.int .i64 ((tree N n 0).deep : Nat), .bool true]) (by simp [results, Tryd.results27, go_sem]) rfl ⟨_, _, rfl, .inl ⟨rfl, HG.out, HCN.out.2⟩, HB3.out⟩

set_option maxRecDepth 100000 in
set_option maxHeartbeats 1000000 in
theorem implDeep_own (b n : Nat) (a : Option Addr) (c : Nat) (N : Nat → Nd) (w : World) (h : OwnAt w b (.slice a n c) n N) (hsm : SmallN n N) (htab : Tab w.heap.size w) :
    Calls Tryd.prog 28 #[.agg #[.slice a n c]] w (DeepIs N n w) := by
  have HO : Hid (OwnAt w b (.slice a n c) n N) := h
  have HSM : Hid (SmallN n N) := hsm
  have HTB : Hid (Tab w.heap.size w) := htab
  have hbl : ∀ o, Below w.heap.size w (w.alloc o) := fun o => (Below.refl _ _).alloc (Nat.le_refl _) o
  clear h hsm htab
  go_enter Tryd.func28, Tryd.ntmps28
  go_wp2_with fail
  refine (implGood_own b n a c N _ (HO.out.below (hbl _)) HSM.out (HTB.out.up (hbl _))).mono ?_
  rintro e w1 ⟨q, rfl, hq, hb1⟩
  have hx : w1.cell? ⟨w.heap.size, 0, none⟩ = some (.slice a n c) := by rw [hb1.cell (by simp)]; simp [go_sem]
  have HB1 : Hid (Below w.heap.size w w1) := (hbl _).trans (hb1.mono (by simp))
  clear hb1 hbl
  cases q with
  | false =>
    have HN : Hid (¬ GoodV N n) := fun h => by have := hq.2 h; simp at this
    clear hq
    go_wp2_with fail
    exact bodyPost_ret (v := .tuple #[.int .i64 0, .bool false]) (by simp [results, Tryd.results28, go_sem]) rfl ⟨_, _, rfl, .inr ⟨rfl, HN.out, rfl⟩, HB1.out⟩
  | true =>
    have hg : GoodV N n := hq.1 rfl
    have HG : Hid (GoodV N n) := hg
    have hs := hg.1
    have h80 : Hid (n ≤ 80) := hs.2.1
    have hn0 : Hid (0 < n) := hs.1
    have HT : Hid (TOK N n) := tok_of_shape fun i hi => ⟨(hs.2.2 i hi).1, (hs.2.2 i hi).2.1⟩
    obtain ⟨b', off, rfl, hb', hat⟩ : ∃ b off, a = some ⟨b, off, none⟩ ∧ b < w.heap.size ∧ NodesAt w b off n N := by
      rcases own_arg HO.out with h0 | h0
      · exact absurd h0 (by have := hs.1; omega)
      · exact h0
    have HB : Hid (b' < w1.heap.size) := Nat.lt_of_lt_of_le hb' HB1.out.size
    have HAT : Hid (NodesAt w1 b' off n N) := hat.below HB1.out hb'
    clear hq hg hs hb' hat
    go_wp2_with fail
    refine (deepest_any b' off c n N _ HB.out HAT.out h80.out HT.out.tb.pre).mono ?_
    rintro e w2 ⟨rfl, hb2⟩
    have HB2 : Hid (Below w.heap.size w w2) := HB1.out.trans (hb2.mono HB1.out.size)
    clear hb2
    go_wp2
    exact bodyPost_ret (v := .tuple #[.int .i64 (deepTo N n : Nat), .bool true]) (by simp [results, Tryd.results28, go_sem]) rfl ⟨_, _, rfl, .inl ⟨rfl, HG.out, rfl⟩, HB2.out⟩

end Go.Proofs.YtdahlecehencpaaDoor
