/- The key of a value of the call's own: the program and the specification. -/
import Derived.Test.YthgjelbhhdomdaaDoorKeyS
import Derived.Test.YthgjelbhhdomdaaDoorSubI
namespace Go.Proofs.YthgjelbhhdomdaaDoor
open Go.RowKit
set_option linter.unusedVariables false

/-- WHAT KeyOf ANSWERS. -/
def YTold (N : Nat → Nd) (n : Nat) (s : ByteArray) (q : Bool) : Prop := (q = true ∧ GoodV N n ∧ s = strL (tree N n 0).key) ∨ (q = false ∧ ¬ GoodV N n ∧ s = ⟨#[]⟩)
theorem YTold.same {N : Nat → Nd} {n : Nat} {s t : ByteArray} {q r : Bool} (h : YTold N n s q) (k : YTold N n t r) : s = t ∧ q = r := by
  rcases h with ⟨rfl, g, rfl⟩ | ⟨rfl, g, rfl⟩ <;> rcases k with ⟨rfl, g', rfl⟩ | ⟨rfl, g', rfl⟩
  · exact ⟨rfl, rfl⟩
  · exact absurd g g'
  · exact absurd g' g
  · exact ⟨rfl, rfl⟩
def KeyIs (N : Nat → Nd) (n : Nat) (w : World) (e : Ending) (w' : World) : Prop := ∃ s q, e = .returned (.tuple #[.string s, .bool q]) ∧ YTold N n s q ∧ Below w.heap.size w w'

theorem good_tok {N : Nat → Nd} {n : Nat} (h : GoodV N n) : TOK N n := tok_of_shape fun i hi => ⟨(h.1.2.2 i hi).1, (h.1.2.2 i hi).2.1⟩
theorem tree_sane {N : Nat → Nd} {n : Nat} (h : TOK N n) : ∀ d k, n - k = d → k < n → (tree N n k).sane := by
  intro d
  induction d using Nat.strongRecOn with
  | _ d ih =>
    intro k hd hk
    have k1 := h.kind k hk
    have n1 := h.num k hk
    rw [tree_eq hk, Tr.sane]
    refine ⟨by omega, by omega, fun _ => ⟨by omega, by omega⟩, Tr.sanes_mem.2 fun t ht => ?_⟩
    obtain ⟨p, hp, rfl⟩ := List.mem_map.1 ht
    obtain ⟨p1, p2, p3⟩ := kidsTo_mem hp
    exact ih (n - p) (by omega) p rfl p2
theorem good_key_len {N : Nat → Nd} {n : Nat} (h : GoodV N n) : (tree N n 0).key.length ≤ 2 ^ 20 := by
  have he : IsEnd N n 0 n := ⟨h.1.1, Nat.le_refl _, fun i h1 h2 => by have := (good_pre h).2 i h1 h2; omega, fun h => by omega⟩
  have := key_len (good_tok h) n 0 rfl h.1.1 n he
  have := h.1.2.1
  omega

set_option maxRecDepth 100000 in
set_option maxHeartbeats 1000000 in
theorem keyOfNodes_any (b off c n : Nat) (N : Nat → Nd) (w : World) (hn : n ≤ 80) (h0 : 0 < n) (hb : b < w.heap.size) (hat : NodesAt w b off n N) (ht : TOK N n) (hmk : Marks w) :
    Calls Tryd.prog 50 #[.slice (some ⟨b, off, none⟩) n c] w fun e w' => e = .returned (.string (strL (tree N n 0).key)) ∧ Below w.heap.size w w' := by
  have HN : Hid (KeySaid N n 0) := keyFrom_any N n hn ht n 0 rfl h0
  have HAT : Hid (NodesAt w b off n N) := hat
  have HMK : Hid (Marks w) := hmk
  clear hat hmk ht
  go_enter Tryd.func50, Tryd.ntmps50
  go_wp2_with fail
  refine (HN.out b off c _ hb HAT.out HMK.out).mono ?_
  rintro e w1 ⟨en, rfl, _, hb1⟩
  have HB1 : Hid (Below w.heap.size w w1) := hb1
  clear hb1
  go_wp2
  go_ret
  exact ⟨rfl, HB1.out⟩

set_option maxRecDepth 100000 in
set_option maxHeartbeats 1000000 in
theorem specKey_own (b n : Nat) (a : Option Addr) (c : Nat) (N : Nat → Nd) (w : World) (h : OwnAt w b (.slice a n c) n N) (hsm : SmallN n N) :
    Calls Tryd.prog 47 #[.agg #[.slice a n c]] w (KeyIs N n w) := by
  have HO : Hid (OwnAt w b (.slice a n c) n N) := h
  have HSM : Hid (SmallN n N) := hsm
  have hbl : ∀ o, Below w.heap.size w (w.alloc o) := fun o => (Below.refl _ _).alloc (Nat.le_refl _) o
  clear h hsm
  go_enter Tryd.func47, Tryd.ntmps47
  go_wp2_with fail
  refine (specGood_own b n a c N _ (HO.out.below (hbl _)) HSM.out).mono ?_
  rintro e w1 ⟨q, rfl, hq, hb1⟩
  have hx : w1.cell? ⟨w.heap.size, 0, none⟩ = some (.slice a n c) := by rw [hb1.cell (by simp)]; simp [go_sem]
  have HB1 : Hid (Below w.heap.size w w1) := (hbl _).trans (hb1.mono (by simp))
  clear hb1 hbl
  cases q with
  | false =>
    have HN : Hid (¬ GoodV N n) := fun h => by have := hq.2 h; simp at this
    clear hq
    go_wp2_with fail
    exact bodyPost_ret (v := .tuple #[.string ⟨#[]⟩, .bool false]) (by simp [results, Tryd.results47, go_sem]) rfl ⟨_, _, rfl, .inr ⟨rfl, HN.out, rfl⟩, HB1.out⟩
  | true =>
    have hg : GoodV N n := hq.1 rfl
    have HG : Hid (GoodV N n) := hg
    have hs := hg.1
    have h80 := hs.2.1
    have h00 := hs.1
    have HTS : Hid (TreeSaid N n 0) := l1Tree_any N n hs.2.1 n 0 rfl hs.1
    have HCN : Hid ((tree N n 0).cnt = n ∧ (tree N n 0).named ∧ (tree N n 0).sane ∧ (tree N n 0).key.length ≤ 2 ^ 20) := ⟨good_cnt hg, tree_named N n n 0 rfl hs.1, tree_sane (good_tok hg) n 0 rfl hs.1, good_key_len hg⟩
    clear hq hg hs
    go_wp2_with fail
    refine (HTS.out _ _ _ ((own_arg HO.out).below HB1.out)).mono ?_
    rintro e w2 ⟨an, cn, mn, ak, ck, mk', rfl, ht2, hb2⟩
    have HT2 : Hid (Tree w2 (tree N n 0) _) := ht2.any
    have HB2 : Hid (Below w.heap.size w w2) := HB1.out.trans (hb2.mono HB1.out.size)
    clear ht2 hb2
    go_wp2_with fail
    refine (l2Key_any (tree N n 0) _ _ HT2.out HCN.out.2.1 HCN.out.2.2.1 HCN.out.2.2.2 (by rw [HCN.out.1]; omega)).mono ?_
    rintro e w3 ⟨rfl, hb3⟩
    have HB3 : Hid (Below w.heap.size w w3) := HB2.out.trans (hb3.mono HB2.out.size)
    clear hb3
    go_wp2
    exact bodyPost_ret (v := .tuple #[.string (strL (tree N n 0).key), .bool true]) (by simp [results, Tryd.results47, go_sem]) rfl ⟨_, _, rfl, .inl ⟨rfl, HG.out, rfl⟩, HB3.out⟩

end Go.Proofs.YthgjelbhhdomdaaDoor
