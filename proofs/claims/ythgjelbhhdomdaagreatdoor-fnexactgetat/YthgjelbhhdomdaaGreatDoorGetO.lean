/- What a path leads to: the program and the specification. -/
import Derived.Test.YthgjelbhhdomdaaGreatDoorHasA
import Derived.Test.YthgjelbhhdomdaaGreatDoorSubW0
namespace Go.Proofs.YthgjelbhhdomdaaGreatDoor
open Go.RowKit
set_option linter.unusedVariables false

/-- WHAT GetAt ANSWERS. -/
def GTold (N : Nat → Nd) (n : Nat) (s : ByteArray) (q : Bool) (L : List Nd) : Prop := (q = true ∧ AskedOf N n s ∧ ∃ k e, goN N n 0 (nmsL s) = some k ∧ IsEnd N n k e ∧ L = subTo N k e) ∨ (q = false ∧ ¬ (AskedOf N n s ∧ (goN N n 0 (nmsL s)).isSome = true) ∧ L = [])
theorem GTold.same {N : Nat → Nd} {n : Nat} {s : ByteArray} {q r : Bool} {L M : List Nd} (h : GTold N n s q L) (k : GTold N n s r M) : q = r ∧ L = M := by
  rcases h with ⟨rfl, g, x, e, hx, he, rfl⟩ | ⟨rfl, g, rfl⟩ <;> rcases k with ⟨rfl, g', x', e', hx', he', rfl⟩ | ⟨rfl, g', rfl⟩
  · obtain rfl : x = x' := Option.some.inj (hx.symm.trans hx')
    obtain rfl := end_unique he he'
    exact ⟨rfl, rfl⟩
  · exact absurd ⟨g, by rw [hx]; rfl⟩ g'
  · exact absurd ⟨g', by rw [hx']; rfl⟩ g
  · exact ⟨rfl, rfl⟩
def GetIs (N : Nat → Nd) (n : Nat) (s : ByteArray) (w : World) (e : Ending) (w' : World) : Prop :=
  ∃ v q b L, e = .returned (.tuple #[.agg #[v], .bool q]) ∧ GTold N n s q L ∧ (L ≠ [] → w.heap.size ≤ b ∧ b < w'.heap.size) ∧ OwnAt w' b v L.length (fun i => L.getD i ⟨0, 0, ⟨#[]⟩, ⟨#[]⟩, 0⟩) ∧ Below w.heap.size w w'
theorem GetIs.no {N : Nat → Nd} {n : Nat} {s : ByteArray} {w w' : World} (h : ¬ (AskedOf N n s ∧ (goN N n 0 (nmsL s)).isSome = true)) (hb : Below w.heap.size w w') : GetIs N n s w (.returned (.tuple #[.agg #[.slice none 0 0], .bool false])) w' :=
  ⟨_, _, 0, [], rfl, .inr ⟨rfl, h, rfl⟩, fun h => absurd rfl h, ⟨none, 0, 0, rfl, by decide, .inl rfl⟩, hb⟩
theorem GetIs.yes {N : Nat → Nd} {n k e B : Nat} {s : ByteArray} {w w' : World} {v : Value} (h : AskedOf N n s) (hk : goN N n 0 (nmsL s) = some k) (he : IsEnd N n k e) (hB : w.heap.size ≤ B) (hn : n ≤ 2 ^ 20) (ho : OwnsN w' B v (subTo N k e)) (hb : Below w.heap.size w w') : GetIs N n s w (.returned (.tuple #[.agg #[v], .bool true])) w' := by
  obtain ⟨b, h1, h2⟩ := ho.own (by rw [subTo_len]; have := he.2.1; omega)
  exact ⟨v, true, b, subTo N k e, rfl, .inl ⟨rfl, h, k, e, hk, he, rfl⟩, fun hn => ⟨Nat.le_trans hB (h1 hn).1, (h1 hn).2⟩, h2, hb⟩

theorem goN_lt {N : Nat → Nd} {n : Nat} : ∀ (l : List ByteArray) (k p : Nat), k < n → goN N n k l = some p → p < n := by
  intro l
  induction l with
  | nil => intro k p hk h; simp [goN] at h; omega
  | cons nm r ih =>
    intro k p hk h
    rw [goN] at h
    obtain ⟨q, hq, h'⟩ := Option.bind_eq_some_iff.1 h
    exact ih q p (kidsTo_mem (findP_kid hq)).2.1 h'

set_option maxRecDepth 100000 in
set_option maxHeartbeats 2000000 in
theorem specGet_own (b n : Nat) (a : Option Addr) (c : Nat) (N : Nat → Nd) (s : ByteArray) (w : World) (h : OwnAt w b (.slice a n c) n N) (hsm : SmallN n N) (hs : s.size ≤ 2 ^ 20) :
    Calls Tryz.prog 7 #[.agg #[.slice a n c], .string s] w (GetIs N n s w) := by
  have HO : Hid (OwnAt w b (.slice a n c) n N) := h
  have HSM : Hid (SmallN n N) := hsm
  have n20 : n ≤ 2 ^ 20 := hsm.1
  have hbl : ∀ o o', Below w.heap.size w ((w.alloc o).alloc o') := fun o o' => ((Below.refl _ _).alloc (Nat.le_refl _) o).alloc (by simp) o'
  have hl : s.data.toList.length ≤ 2 ^ 20 := by rw [Array.length_toList]; exact hs
  have h61 := names60 s.data.toList
  clear h hsm
  go_enter Tryz.func7, Tryz.ntmps7
  go_wp2_with fail
  refine (show Calls Tryz.prog 18 #[.string s] _ (NamesIs s.data.toList _) from l3Path_any s.data.toList _ hl).mono ?_
  rintro e w1 ⟨v1, g1, rfl, hg1, ho1, hb1⟩
  obtain ⟨a1, c1, rfl⟩ : ∃ a c, v1 = .slice a (namesN s.data.toList) c := by obtain ⟨a, c, rfl, _⟩ := ho1; exact ⟨a, c, rfl⟩
  have x1 : w1.cell? ⟨w.heap.size, 0, none⟩ = some (.slice a n c) := by rw [hb1.cell (by simp; omega)]; simp [go_sem]
  have r1 : w1.cell? ⟨w.heap.size + 1, 0, none⟩ = some (.slice none 0 0) := by rw [hb1.cell (by simp)]; simp [go_sem]
  have f1 : w1.frozen? ⟨w.heap.size + 1, 0, none⟩ = false := by rw [hb1.frozen (by simp)]; simp [go_sem]
  have HB1 : Hid (Below w.heap.size w w1) := (hbl _ _).trans (hb1.mono (by simp; omega))
  have z1 : w.heap.size < w1.heap.size := by have := hb1.size; simp at this; omega
  have zR : w.heap.size + 1 < w1.heap.size := by have := hb1.size; simp at this; omega
  have HNM : Hid (ArgS w1 a1 (namesN s.data.toList) (namesF s.data.toList)) := ho1.arg
  clear hb1 hbl ho1 hg1
  go_wp2_with fail
  refine (specGood_own b n a c N _ (HO.out.below HB1.out) HSM.out).mono ?_
  rintro e w2 ⟨q, rfl, hq, hb2⟩
  have x2 : w2.cell? ⟨w.heap.size, 0, none⟩ = some (.slice a n c) := (hb2.cell z1).trans x1
  have r2 : w2.cell? ⟨w.heap.size + 1, 0, none⟩ = some (.slice none 0 0) := (hb2.cell zR).trans r1
  have f2 : w2.frozen? ⟨w.heap.size + 1, 0, none⟩ = false := (hb2.frozen zR).trans f1
  have HB2 : Hid (Below w.heap.size w w2) := HB1.out.trans (hb2.mono HB1.out.size)
  have HNM2 : Hid (ArgS w2 a1 (namesN s.data.toList) (namesF s.data.toList)) := HNM.out.below hb2
  have zR2 : w.heap.size + 1 < w2.heap.size := Nat.lt_of_lt_of_le zR hb2.size
  clear hb2
  cases q with
  | false =>
    have HN : Hid (¬ (AskedOf N n s ∧ (goN N n 0 (nmsL s)).isSome = true)) := fun h => by have := hq.2 h.1.1; simp at this
    clear hq
    go_wp2_with fail
    exact bodyPost_ret (v := .tuple #[.agg #[.slice none 0 0], .bool false]) (by simp [results, Tryz.results7, go_sem, r2]) rfl (GetIs.no HN.out (Below.setR HB2.out (by omega)))
  | true =>
    have HG : Hid (GoodV N n) := hq.1 rfl
    clear hq
    cases hp : (namesL s.data.toList).isSome with
    | false =>
      have HN : Hid (¬ (AskedOf N n s ∧ (goN N n 0 (nmsL s)).isSome = true)) := fun h => by have := h.1.2; rw [hp] at this; simp at this
      go_wp2_with fail
      exact bodyPost_ret (v := .tuple #[.agg #[.slice none 0 0], .bool false]) (by simp [results, Tryz.results7, go_sem, r2]) rfl (GetIs.no HN.out (Below.setR HB2.out (by omega)))
    | true =>
      have HAS : Hid (AskedOf N n s) := ⟨HG.out, hp⟩
      have hs1 := HG.out.1
      have HTS : Hid (TreeSaid N n 0) := l1Tree_any N n hs1.2.1 n 0 rfl hs1.1
      have HCN : Hid ((tree N n 0).cnt ≤ 2 ^ 20 ∧ (tree N n 0).named) := ⟨by rw [good_cnt HG.out]; have := hs1.2.1; omega, tree_named N n n 0 rfl hs1.1⟩
      have HGG : Hid (getT (tree N n 0) (nmsL s) = (goN N n 0 (nmsL s)).map (tree N n)) := get_go HG.out _ 0 hs1.1
      have hn0 := hs1.1
      clear hs1
      go_wp2_with fail
      refine (HTS.out _ _ _ ((own_arg HO.out).below HB2.out)).mono ?_
      rintro e w3 ⟨an, cn, mn, ak, ck, mk', rfl, ht3, hb3⟩
      have r3 : w3.cell? ⟨w.heap.size + 1, 0, none⟩ = some (.slice none 0 0) := (hb3.cell zR2).trans r2
      have f3 : w3.frozen? ⟨w.heap.size + 1, 0, none⟩ = false := (hb3.frozen zR2).trans f2
      have zR3 : w.heap.size + 1 < w3.heap.size := Nat.lt_of_lt_of_le zR2 hb3.size
      have HT3 : Hid (Tree w3 (tree N n 0) _) := ht3.any
      have HB3 : Hid (Below w.heap.size w w3) := HB2.out.trans (hb3.mono HB2.out.size)
      have HNM3 : Hid (ArgS w3 a1 (namesN s.data.toList) (namesF s.data.toList)) := HNM2.out.below hb3
      clear ht3 hb3
      go_wp2_with fail
      refine (l3Get_any (tree N n 0) _ a1 c1 (namesN s.data.toList) (namesF s.data.toList) _ HT3.out HCN.out.2 HCN.out.1 (by omega) HNM3.out).mono ?_
      rintro e w4 ⟨k4, n4, t4, an4, mn4, cn4, ak4, mk4, ck4, rfl, htr4, hb4⟩
      have r4 : w4.cell? ⟨w.heap.size + 1, 0, none⟩ = some (.slice none 0 0) := (hb4.cell zR3).trans r3
      have f4 : w4.frozen? ⟨w.heap.size + 1, 0, none⟩ = false := (hb4.frozen zR3).trans f3
      have zR4 : w.heap.size + 1 < w4.heap.size := Nat.lt_of_lt_of_le zR3 hb4.size
      have HB4 : Hid (Below w.heap.size w w4) := HB3.out.trans (hb4.mono HB3.out.size)
      have HTR : Hid (∀ x, getT (tree N n 0) (nmsL s) = some x → Tree w4 x (.agg #[.int .i64 k4, .int .i64 n4, .string t4, .slice an4 mn4 cn4, .slice ak4 mk4 ck4])) := htr4
      have HD : Hid ((getT (tree N n 0) (lst (namesF s.data.toList) (namesN s.data.toList))).isSome = (goN N n 0 (nmsL s)).isSome) := by
        show _ = _
        have := HGG.out
        unfold nmsL at this ⊢
        rw [this, Option.isSome_map]
      have al4 : ∀ o, Below w4.heap.size w4 (w4.alloc o) := fun o => (Below.refl _ _).alloc (Nat.le_refl _) o
      clear hb4 htr4
      rw [HD.out]
      cases hgo : goN N n 0 (nmsL s) with
      | none =>
        have HN : Hid (¬ (AskedOf N n s ∧ (goN N n 0 (nmsL s)).isSome = true)) := fun h => by have := h.2; rw [hgo] at this; simp at this
        dsimp only [Option.isSome]
        have zs : w.heap.size + 1 < (w4.setCell ⟨w.heap.size + 1, 0, none⟩ (.slice none 0 0)).heap.size := by simpa [World.setCell] using zR4
        have r5 : ∀ o, ((w4.setCell ⟨w.heap.size + 1, 0, none⟩ (.slice none 0 0)).alloc o).cell? ⟨w.heap.size + 1, 0, none⟩ = some (.slice none 0 0) := fun o => (((Below.refl _ _).alloc (Nat.le_refl _) o).cell zs).trans (World.cell?_setCell_same' _ _ _ (by rw [r4]; rfl))
        go_wp2_with fail
        exact bodyPost_ret (v := .tuple #[.agg #[.slice none 0 0], .bool false]) (by simp [results, Tryz.results7, go_sem, r5]) rfl (GetIs.no HN.out ((Below.setR HB4.out (by omega)).alloc (by omega) _))
      | some k =>
        have hk : k < n := goN_lt _ 0 k hn0 hgo
        have HGO : Hid (goN N n 0 (nmsL s) = some k) := hgo
        have HTK : Hid (Tree w4 (tree N n k) (.agg #[.int .i64 k4, .int .i64 n4, .string t4, .slice an4 mn4 cn4, .slice ak4 mk4 ck4])) := HTR.out _ (by rw [HGG.out, hgo]; rfl)
        dsimp only [Option.isSome]
        clear hgo
        go_wp2_with fail
        refine (l1Of_any (tree N n k) _ _ (HTK.out.below (al4 _)) (tree_named N n (n - k) k rfl hk) (by have := tree_cnt_le HG.out hk; omega)).mono ?_
        rintro e w5 ⟨lv, rfl, ho5, hb5⟩
        have b5 : Below w4.heap.size w4 w5 := (al4 _).trans (hb5.mono (by simp))
        have r5 : w5.cell? ⟨w.heap.size + 1, 0, none⟩ = some (.slice none 0 0) := (b5.cell zR4).trans r4
        have f5 : w5.frozen? ⟨w.heap.size + 1, 0, none⟩ = false := (b5.frozen zR4).trans f4
        obtain ⟨en, hen⟩ := end_of (N := N) hk
        rw [tree_sub HG.out hk hen] at ho5
        have HE : Hid (IsEnd N n k en) := hen
        obtain ⟨la, lc, rfl⟩ := ho5.form
        have HO5 : Hid (OwnsN w5 w4.heap.size (.slice la (subTo N k en).length lc) (subTo N k en)) := ho5.low (by simp)
        have HB5 : Hid (Below w.heap.size w w5) := HB4.out.trans (b5.mono HB4.out.size)
        clear ho5 hb5 hen b5 al4
        go_wp2
        exact bodyPost_ret (v := .tuple #[.agg #[.slice la (subTo N k en).length lc], .bool true]) (by simp [results, Tryz.results7, go_sem, r5]) rfl (GetIs.yes HAS.out HGO.out HE.out HB4.out.size n20 (own_set HO5.out (by omega)) (Below.setR HB5.out (by omega)))

set_option maxRecDepth 100000 in
set_option maxHeartbeats 2000000 in
theorem implGet_own (b n : Nat) (a : Option Addr) (c : Nat) (N : Nat → Nd) (s : ByteArray) (w : World) (h : OwnAt w b (.slice a n c) n N) (hsm : SmallN n N) (htab : Tab w.heap.size w) (hcap : n ≤ c) (hml : ML w) :
    Calls Tryz.prog 9 #[.agg #[.slice a n c], .string s] w (GetIs N n s w) := by
  have HO : Hid (OwnAt w b (.slice a n c) n N) := h
  have HSM : Hid (SmallN n N) := hsm
  have HTB : Hid (Tab w.heap.size w) := htab
  have HML : Hid (ML w) := hml
  have n20 : n ≤ 2 ^ 20 := hsm.1
  have hbl : ∀ o o', Below w.heap.size w ((w.alloc o).alloc o') := fun o o' => ((Below.refl _ _).alloc (Nat.le_refl _) o).alloc (by simp) o'
  have h61 := names60 s.data.toList
  clear h hsm htab hml
  go_enter Tryz.func9, Tryz.ntmps9
  go_wp2_with fail
  refine (implPathOf_any s _ (HML.out.below (hbl _ _))).mono ?_
  rintro e w1 ⟨v1, g1, rfl, hg1, ho1, hb1⟩
  obtain ⟨a1, c1, rfl⟩ : ∃ a c, v1 = .slice a (namesN s.data.toList) c := by obtain ⟨a, c, rfl, _⟩ := ho1; exact ⟨a, c, rfl⟩
  have x1 : w1.cell? ⟨w.heap.size, 0, none⟩ = some (.slice a n c) := by rw [hb1.cell (by simp; omega)]; simp [go_sem]
  have r1 : w1.cell? ⟨w.heap.size + 1, 0, none⟩ = some (.slice none 0 0) := by rw [hb1.cell (by simp)]; simp [go_sem]
  have f1 : w1.frozen? ⟨w.heap.size + 1, 0, none⟩ = false := by rw [hb1.frozen (by simp)]; simp [go_sem]
  have HB1 : Hid (Below w.heap.size w w1) := (hbl _ _).trans (hb1.mono (by simp; omega))
  have z1 : w.heap.size < w1.heap.size := by have := hb1.size; simp at this; omega
  have zR : w.heap.size + 1 < w1.heap.size := by have := hb1.size; simp at this; omega
  have HNM : Hid (ArgS w1 a1 (namesN s.data.toList) (namesF s.data.toList)) := ho1.arg
  clear hb1 hbl ho1 hg1
  cases hp : (namesL s.data.toList).isSome with
  | false =>
    have HN : Hid (¬ (AskedOf N n s ∧ (goN N n 0 (nmsL s)).isSome = true)) := fun h => by have := h.1.2; rw [hp] at this; simp at this
    go_wp2_with fail
    exact bodyPost_ret (v := .tuple #[.agg #[.slice none 0 0], .bool false]) (by simp [results, Tryz.results9, go_sem, r1]) rfl (GetIs.no HN.out (Below.setR HB1.out (by omega)))
  | true =>
    go_wp2_with fail
    refine (implGood_own b n a c N _ (HO.out.below HB1.out) HSM.out (HTB.out.up HB1.out)).mono ?_
    rintro e w2 ⟨q, rfl, hq, hb2⟩
    have x2 : w2.cell? ⟨w.heap.size, 0, none⟩ = some (.slice a n c) := (hb2.cell z1).trans x1
    have r2 : w2.cell? ⟨w.heap.size + 1, 0, none⟩ = some (.slice none 0 0) := (hb2.cell zR).trans r1
    have f2 : w2.frozen? ⟨w.heap.size + 1, 0, none⟩ = false := (hb2.frozen zR).trans f1
    have HB2 : Hid (Below w.heap.size w w2) := HB1.out.trans (hb2.mono HB1.out.size)
    have HNM2 : Hid (ArgS w2 a1 (namesN s.data.toList) (namesF s.data.toList)) := HNM.out.below hb2
    have z2 : w.heap.size < w2.heap.size := Nat.lt_of_lt_of_le z1 hb2.size
    have zR2 : w.heap.size + 1 < w2.heap.size := Nat.lt_of_lt_of_le zR hb2.size
    clear hb2
    cases q with
    | false =>
      have HN : Hid (¬ (AskedOf N n s ∧ (goN N n 0 (nmsL s)).isSome = true)) := fun h => by have := hq.2 h.1.1; simp at this
      clear hq
      go_wp2_with fail
      exact bodyPost_ret (v := .tuple #[.agg #[.slice none 0 0], .bool false]) (by simp [results, Tryz.results9, go_sem, r2]) rfl (GetIs.no HN.out (Below.setR HB2.out (by omega)))
    | true =>
      have HG : Hid (GoodV N n) := hq.1 rfl
      have HAS : Hid (AskedOf N n s) := ⟨HG.out, hp⟩
      clear hq
      obtain ⟨b1, o1, rfl, hb1, hat1⟩ := own_some HO.out HG.out.1.1
      have HT1 : Hid (NodesAt w2 b1 o1 n N) := hat1.below HB2.out hb1
      have hbz : b1 < w2.heap.size := Nat.lt_of_lt_of_le hb1 HB2.out.size
      clear hat1
      go_wp2_with fail
      refine (nodeAt_any b1 o1 c n N a1 c1 (namesN s.data.toList) (namesF s.data.toList) _ HG.out.1.2.1 HG.out.1.1 (good_up HG.out) hbz HT1.out (by omega) HNM2.out).mono ?_
      rintro e w3 ⟨rfl, hb3⟩
      have x3 : w3.cell? ⟨w.heap.size, 0, none⟩ = some (.slice (some ⟨b1, o1, none⟩) n c) := (hb3.cell z2).trans x2
      have r3 : w3.cell? ⟨w.heap.size + 1, 0, none⟩ = some (.slice none 0 0) := (hb3.cell zR2).trans r2
      have f3 : w3.frozen? ⟨w.heap.size + 1, 0, none⟩ = false := (hb3.frozen zR2).trans f2
      have zR3 : w.heap.size + 1 < w3.heap.size := Nat.lt_of_lt_of_le zR2 hb3.size
      have HB3 : Hid (Below w.heap.size w w3) := HB2.out.trans (hb3.mono HB2.out.size)
      clear hb3
      rw [show lst (namesF s.data.toList) (namesN s.data.toList) = nmsL s from rfl]
      cases hgo : goN N n 0 (nmsL s) with
      | none =>
        have HN : Hid (¬ (AskedOf N n s ∧ (goN N n 0 (nmsL s)).isSome = true)) := fun h => by have := h.2; rw [hgo] at this; simp at this
        dsimp only [Option.isSome, Option.getD]
        go_wp2_with fail
        exact bodyPost_ret (v := .tuple #[.agg #[.slice none 0 0], .bool false]) (by simp [results, Tryz.results9, go_sem, r3]) rfl (GetIs.no HN.out (Below.setR HB3.out (by omega)))
      | some k =>
        have hk : k < n := goN_lt _ 0 k HG.out.1.1 hgo
        have HGO : Hid (goN N n 0 (nmsL s) = some k) := hgo
        have HH : Hid (HasN N n (k : Int)) := ⟨by omega, by omega, HG.out⟩
        dsimp only [Option.isSome, Option.getD]
        clear hgo
        go_wp2_with fail
        refine (implSub_own b n (some ⟨b1, o1, none⟩) c N (k : Int) _ (HO.out.below HB3.out) HSM.out (HTB.out.up HB3.out) hcap).mono ?_
        rintro e w4 ⟨v4, q4, b4, L4, rfl, hq4, hb4, ho4, hw4⟩
        obtain ⟨a4, c4, rfl⟩ := ho4.form
        have r4 : w4.cell? ⟨w.heap.size + 1, 0, none⟩ = some (.slice none 0 0) := (hw4.cell zR3).trans r3
        have f4 : w4.frozen? ⟨w.heap.size + 1, 0, none⟩ = false := (hw4.frozen zR3).trans f3
        obtain ⟨rfl, en, hen, rfl⟩ : q4 = true ∧ ∃ en, IsEnd N n k en ∧ L4 = subTo N k en := by
          rcases hq4 with ⟨rfl, _, en, he, rfl⟩ | ⟨_, hn, _⟩
          · exact ⟨rfl, en, by simpa using he, by simp⟩
          · exact absurd HH.out hn
        have HB4 : Hid (Below w.heap.size w w4) := HB3.out.trans (hw4.mono HB3.out.size)
        have HO4 : Hid (OwnAt w4 b4 (.slice a4 (subTo N k en).length c4) (subTo N k en).length (fun i => (subTo N k en).getD i ⟨0, 0, ⟨#[]⟩, ⟨#[]⟩, 0⟩)) := ho4
        have HL4 : Hid (subTo N k en ≠ [] → w3.heap.size ≤ b4 ∧ b4 < w4.heap.size) := hb4
        have HE : Hid (IsEnd N n k en) := hen
        have hne : subTo N k en ≠ [] := by unfold subTo; simp
        have hb4' := hb4 hne
        have hz3 := HB3.out.size
        clear hq4 hb4 ho4 hw4 hen
        go_wp2_with fail
        exact bodyPost_ret (v := .tuple #[.agg #[.slice a4 (subTo N k en).length c4], .bool true]) (by simp [results, Tryz.results9, go_sem, r4]) rfl ⟨_, _, b4, _, rfl, .inl ⟨rfl, HAS.out, k, en, HGO.out, HE.out, rfl⟩, fun _ => ⟨by omega, by simpa [World.setCell] using hb4'.2⟩, HO4.out.but (BelowBut.setCell (B := w4.heap.size) (b := w.heap.size + 1) _ _ _) (by omega), Below.setR HB4.out (by omega)⟩

end Go.Proofs.YthgjelbhhdomdaaGreatDoor
