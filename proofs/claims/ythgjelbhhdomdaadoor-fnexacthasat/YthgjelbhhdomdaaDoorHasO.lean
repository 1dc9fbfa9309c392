/- Whether names lead to something: the program and the specification. -/
import Derived.Test.YthgjelbhhdomdaaDoorGoGet
import Derived.Test.YthgjelbhhdomdaaDoorPathS
import Derived.Test.YthgjelbhhdomdaaDoorSubI
namespace Go.Proofs.YthgjelbhhdomdaaDoor
open Go.RowKit
set_option linter.unusedVariables false

def nmsL (s : ByteArray) : List ByteArray := lst (namesF s.data.toList) (namesN s.data.toList)
/-- A value and a path of which it may be asked. -/
def AskedOf (N : Nat → Nd) (n : Nat) (s : ByteArray) : Prop := GoodV N n ∧ (namesL s.data.toList).isSome = true
def HTold (N : Nat → Nd) (n : Nat) (s : ByteArray) (d q : Bool) : Prop := (q = true ∧ AskedOf N n s ∧ d = (goN N n 0 (nmsL s)).isSome) ∨ (q = false ∧ ¬ AskedOf N n s ∧ d = false)
theorem HTold.same {N : Nat → Nd} {n : Nat} {s : ByteArray} {d d' q q' : Bool} (h : HTold N n s d q) (k : HTold N n s d' q') : d = d' ∧ q = q' := by
  rcases h with ⟨rfl, g, rfl⟩ | ⟨rfl, g, rfl⟩ <;> rcases k with ⟨rfl, g', rfl⟩ | ⟨rfl, g', rfl⟩
  · exact ⟨rfl, rfl⟩
  · exact absurd g g'
  · exact absurd g' g
  · exact ⟨rfl, rfl⟩
def HasIs (N : Nat → Nd) (n : Nat) (s : ByteArray) (w : World) (e : Ending) (w' : World) : Prop := ∃ d q, e = .returned (.tuple #[.bool d, .bool q]) ∧ HTold N n s d q ∧ Below w.heap.size w w'

theorem names60 (l : List UInt8) : namesN l ≤ 61 := by
  unfold namesN
  by_cases h : l.length ≤ 60
  · rw [names_pairs l h]
    split
    · show ((pairsL l).map _).length ≤ 61
      rw [List.length_map]
      have := pairs_len l
      omega
    · simp
  · have : namesL l = none := by
      unfold namesL
      rw [if_neg (fun k => h k.1)]
    rw [this]
    simp
theorem OwnS.argv {w : World} {g : Nat} {a : Option Addr} {n c : Nat} {f : Nat → ByteArray} (h : OwnS w g (.slice a n c) n f) : ArgS w a n f := h.arg

set_option maxRecDepth 100000 in
set_option maxHeartbeats 2000000 in
theorem specHas_own (b n : Nat) (a : Option Addr) (c : Nat) (N : Nat → Nd) (s : ByteArray) (w : World) (h : OwnAt w b (.slice a n c) n N) (hsm : SmallN n N) (hs : s.size ≤ 2 ^ 20) :
    Calls Tryd.prog 32 #[.agg #[.slice a n c], .string s] w (HasIs N n s w) := by
  have HO : Hid (OwnAt w b (.slice a n c) n N) := h
  have HSM : Hid (SmallN n N) := hsm
  have hbl : ∀ o, Below w.heap.size w (w.alloc o) := fun o => (Below.refl _ _).alloc (Nat.le_refl _) o
  have hl : s.data.toList.length ≤ 2 ^ 20 := by rw [Array.length_toList]; exact hs
  have h61 := names60 s.data.toList
  clear h hsm
  go_enter Tryd.func32, Tryd.ntmps32
  go_wp2_with fail
  refine (show Calls Tryd.prog 51 #[.string s] _ (NamesIs s.data.toList _) from l3Path_any s.data.toList _ hl).mono ?_
  rintro e w1 ⟨v1, g1, rfl, hg1, ho1, hb1⟩
  obtain ⟨a1, c1, rfl⟩ : ∃ a c, v1 = .slice a (namesN s.data.toList) c := by obtain ⟨a, c, rfl, _⟩ := ho1; exact ⟨a, c, rfl⟩
  have hx : w1.cell? ⟨w.heap.size, 0, none⟩ = some (.slice a n c) := by rw [hb1.cell (by simp)]; simp [go_sem]
  have HB1 : Hid (Below w.heap.size w w1) := (hbl _).trans (hb1.mono (by simp))
  have z1 : w.heap.size < w1.heap.size := by have := hb1.size; simp at this; omega
  have HNM : Hid (ArgS w1 a1 (namesN s.data.toList) (namesF s.data.toList)) := ho1.arg
  clear hb1 hbl ho1 hg1
  go_wp2_with fail
  refine (specGood_own b n a c N _ (HO.out.below HB1.out) HSM.out).mono ?_
  rintro e w2 ⟨q, rfl, hq, hb2⟩
  have hx2 : w2.cell? ⟨w.heap.size, 0, none⟩ = some (.slice a n c) := (hb2.cell z1).trans hx
  have HB2 : Hid (Below w.heap.size w w2) := HB1.out.trans (hb2.mono HB1.out.size)
  have HNM2 : Hid (ArgS w2 a1 (namesN s.data.toList) (namesF s.data.toList)) := HNM.out.below hb2
  clear hb2
  cases q with
  | false =>
    have HN : Hid (¬ AskedOf N n s) := fun h => by have := hq.2 h.1; simp at this
    clear hq
    go_wp2_with fail
    exact bodyPost_ret (v := .tuple #[.bool false, .bool false]) (by simp [results, Tryd.results32, go_sem]) rfl ⟨_, _, rfl, .inr ⟨rfl, HN.out, rfl⟩, HB2.out⟩
  | true =>
    have HG : Hid (GoodV N n) := hq.1 rfl
    clear hq
    cases hp : (namesL s.data.toList).isSome with
    | false =>
      have HN : Hid (¬ AskedOf N n s) := fun h => by have := h.2; rw [hp] at this; simp at this
      go_wp2_with fail
      exact bodyPost_ret (v := .tuple #[.bool false, .bool false]) (by simp [results, Tryd.results32, go_sem]) rfl ⟨_, _, rfl, .inr ⟨rfl, HN.out, rfl⟩, HB2.out⟩
    | true =>
      have HAS : Hid (AskedOf N n s) := ⟨HG.out, hp⟩
      have hs1 := HG.out.1
      have HTS : Hid (TreeSaid N n 0) := l1Tree_any N n hs1.2.1 n 0 rfl hs1.1
      have HCN : Hid ((tree N n 0).cnt ≤ 2 ^ 20 ∧ (tree N n 0).named) := ⟨by rw [good_cnt HG.out]; have := hs1.2.1; omega, tree_named N n n 0 rfl hs1.1⟩
      have HGG : Hid (getT (tree N n 0) (nmsL s) = (goN N n 0 (nmsL s)).map (tree N n)) := get_go HG.out _ 0 hs1.1
      clear hs1
      go_wp2_with fail
      refine (HTS.out _ _ _ ((own_arg HO.out).below HB2.out)).mono ?_
      rintro e w3 ⟨an, cn, mn, ak, ck, mk', rfl, ht3, hb3⟩
      have HT3 : Hid (Tree w3 (tree N n 0) _) := ht3.any
      have HB3 : Hid (Below w.heap.size w w3) := HB2.out.trans (hb3.mono HB2.out.size)
      have HNM3 : Hid (ArgS w3 a1 (namesN s.data.toList) (namesF s.data.toList)) := HNM2.out.below hb3
      clear ht3 hb3
      go_wp2_with fail
      refine (l3Get_any (tree N n 0) _ a1 c1 (namesN s.data.toList) (namesF s.data.toList) _ HT3.out HCN.out.2 HCN.out.1 (by omega) HNM3.out).mono ?_
      rintro e w4 ⟨k4, n4, t4, an4, mn4, cn4, ak4, mk4, ck4, rfl, htr4, hb4⟩
      have HB4 : Hid (Below w.heap.size w w4) := HB3.out.trans (hb4.mono HB3.out.size)
      have HD : Hid ((getT (tree N n 0) (lst (namesF s.data.toList) (namesN s.data.toList))).isSome = (goN N n 0 (nmsL s)).isSome) := by
        show _ = _
        have := HGG.out
        unfold nmsL at this ⊢
        rw [this, Option.isSome_map]
      clear hb4 htr4
      rw [HD.out]
      go_wp2_with fail
      exact bodyPost_ret (v := .tuple #[.bool (goN N n 0 (nmsL s)).isSome, .bool true]) (by simp [results, Tryd.results32, go_sem]) rfl ⟨_, _, rfl, .inl ⟨rfl, HAS.out, rfl⟩, HB4.out.alloc HB4.out.size _⟩

set_option maxRecDepth 100000 in
set_option maxHeartbeats 2000000 in
theorem implHas_own (b n : Nat) (a : Option Addr) (c : Nat) (N : Nat → Nd) (s : ByteArray) (w : World) (h : OwnAt w b (.slice a n c) n N) (hsm : SmallN n N) (htab : Tab w.heap.size w) (hml : ML w) :
    Calls Tryd.prog 33 #[.agg #[.slice a n c], .string s] w (HasIs N n s w) := by
  have HO : Hid (OwnAt w b (.slice a n c) n N) := h
  have HSM : Hid (SmallN n N) := hsm
  have HTB : Hid (Tab w.heap.size w) := htab
  have HML : Hid (ML w) := hml
  have hbl : ∀ o, Below w.heap.size w (w.alloc o) := fun o => (Below.refl _ _).alloc (Nat.le_refl _) o
  have h61 := names60 s.data.toList
  clear h hsm htab hml
  go_enter Tryd.func33, Tryd.ntmps33
  go_wp2_with fail
  refine (implPathOf_any s _ (HML.out.below (hbl _))).mono ?_
  rintro e w1 ⟨v1, g1, rfl, hg1, ho1, hb1⟩
  obtain ⟨a1, c1, rfl⟩ : ∃ a c, v1 = .slice a (namesN s.data.toList) c := by obtain ⟨a, c, rfl, _⟩ := ho1; exact ⟨a, c, rfl⟩
  have hx : w1.cell? ⟨w.heap.size, 0, none⟩ = some (.slice a n c) := by rw [hb1.cell (by simp)]; simp [go_sem]
  have HB1 : Hid (Below w.heap.size w w1) := (hbl _).trans (hb1.mono (by simp))
  have z1 : w.heap.size < w1.heap.size := by have := hb1.size; simp at this; omega
  have HNM : Hid (ArgS w1 a1 (namesN s.data.toList) (namesF s.data.toList)) := ho1.arg
  clear hb1 hbl ho1 hg1
  cases hp : (namesL s.data.toList).isSome with
  | false =>
    have HN : Hid (¬ AskedOf N n s) := fun h => by have := h.2; rw [hp] at this; simp at this
    go_wp2_with fail
    exact bodyPost_ret (v := .tuple #[.bool false, .bool false]) (by simp [results, Tryd.results33, go_sem]) rfl ⟨_, _, rfl, .inr ⟨rfl, HN.out, rfl⟩, HB1.out⟩
  | true =>
    go_wp2_with fail
    refine (implGood_own b n a c N _ (HO.out.below HB1.out) HSM.out (HTB.out.up HB1.out)).mono ?_
    rintro e w2 ⟨q, rfl, hq, hb2⟩
    have hx2 : w2.cell? ⟨w.heap.size, 0, none⟩ = some (.slice a n c) := (hb2.cell z1).trans hx
    have HB2 : Hid (Below w.heap.size w w2) := HB1.out.trans (hb2.mono HB1.out.size)
    have HNM2 : Hid (ArgS w2 a1 (namesN s.data.toList) (namesF s.data.toList)) := HNM.out.below hb2
    clear hb2
    cases q with
    | false =>
      have HN : Hid (¬ AskedOf N n s) := fun h => by have := hq.2 h.1; simp at this
      clear hq
      go_wp2_with fail
      exact bodyPost_ret (v := .tuple #[.bool false, .bool false]) (by simp [results, Tryd.results33, go_sem]) rfl ⟨_, _, rfl, .inr ⟨rfl, HN.out, rfl⟩, HB2.out⟩
    | true =>
      have HG : Hid (GoodV N n) := hq.1 rfl
      have HAS : Hid (AskedOf N n s) := ⟨HG.out, hp⟩
      clear hq
      obtain ⟨b1, o1, rfl, hb1, hat1⟩ := own_some HO.out HG.out.1.1
      have HT1 : Hid (NodesAt w2 b1 o1 n N) := hat1.below HB2.out hb1
      have hbz : b1 < w2.heap.size := Nat.lt_of_lt_of_le hb1 HB2.out.size
      clear hat1
      go_wp2_with fail
      refine (nodeAt_any b1 o1 c n N a1 c1 (namesN s.data.toList) (namesF s.data.toList) _ HG.out.1.2.1 HG.out.1.1 (good_up HG.out) hbz HT1.out (by omega) HNM2.out).mono ?_
      rintro e w3 ⟨rfl, hb3⟩
      have HB3 : Hid (Below w.heap.size w w3) := HB2.out.trans (hb3.mono HB2.out.size)
      clear hb3
      rw [show lst (namesF s.data.toList) (namesN s.data.toList) = nmsL s from rfl]
      go_wp2_with fail
      exact bodyPost_ret (v := .tuple #[.bool (goN N n 0 (nmsL s)).isSome, .bool true]) (by simp [results, Tryd.results33, go_sem]) rfl ⟨_, _, rfl, .inl ⟨rfl, HAS.out, rfl⟩, HB3.out⟩

end Go.Proofs.YthgjelbhhdomdaaDoor
