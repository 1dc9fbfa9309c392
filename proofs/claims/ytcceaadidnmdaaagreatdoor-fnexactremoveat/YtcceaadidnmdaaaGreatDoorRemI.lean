/- A value without what a path leads to: the program and the specification. A value without what a path leads to: the program. -/
import Derived.Test.YtcceaadidnmdaaaGreatDoorHasA
import Derived.Test.YtcceaadidnmdaaaGreatDoorSubL
import Derived.Test.YtcceaadidnmdaaaGreatDoorL3Rem
import Derived.Test.YtcceaadidnmdaaaGreatDoorPutB
import Derived.Test.YtcceaadidnmdaaaGreatDoorPathS
namespace Go.Proofs.YtcceaadidnmdaaaGreatDoor
open Go.RowKit
set_option linter.unusedVariables false

theorem nameds_sub {l l' : List Tr} (h : Tr.nameds l) (hs : ∀ t ∈ l', t ∈ l) : Tr.nameds l' := Tr.nameds_mem.2 fun t ht => Tr.nameds_mem.1 h t (hs t ht)
theorem rem_named : ∀ (l : List ByteArray) (t t' : Tr), t.named → remT l t = some t' → t'.named := by
  intro l
  induction l with
  | nil => intro t t' _ h; simp [remT] at h
  | cons x r ih =>
    intro t t' hn h
    obtain ⟨k, n, tx, nm, ks⟩ := t
    rw [remT] at h
    dsimp only [Tr.kind, Tr.names, Tr.kids] at h
    rw [Tr.named] at hn
    cases ha : atI k nm x ks.length with
    | none => rw [ha] at h; simp at h
    | some i =>
      have hi := atI_lt ha
      rw [ha] at h
      simp only [Option.bind_some] at h
      by_cases hr : r.isEmpty = true
      · rw [if_pos hr] at h
        obtain rfl := Option.some.inj h
        rw [cutK, Tr.named]
        refine ⟨fun h7 => ?_, nameds_sub hn.2 (fun t ht => List.mem_of_mem_eraseIdx ht)⟩
        rw [if_pos h7, List.length_eraseIdx_of_lt (by rw [hn.1 h7]; exact hi), List.length_eraseIdx_of_lt hi, hn.1 h7]
      · rw [if_neg hr, List.getElem?_eq_getElem hi] at h
        simp only [Option.bind_some] at h
        obtain ⟨y', hy', rfl⟩ := Option.map_eq_some_iff.1 h
        rw [withK, Tr.named]
        refine ⟨fun h7 => by rw [List.length_set]; exact hn.1 h7, Tr.nameds_mem.2 fun t ht => ?_⟩
        rcases List.mem_or_eq_of_mem_set ht with h1 | rfl
        · exact Tr.nameds_mem.1 hn.2 t h1
        · exact ih _ _ (Tr.nameds_mem.1 hn.2 _ (List.getElem_mem hi)) hy'

def CutTo (N : Nat → Nd) (n : Nat) (s : ByteArray) : Prop := AskedOf N n s ∧ nmsL s ≠ [] ∧ (goN N n 0 (nmsL s)).isSome = true
/-- WHAT RemoveAt ANSWERS. -/
def RTold (N : Nat → Nd) (n : Nat) (s : ByteArray) (q : Bool) (L : List Nd) : Prop := (q = true ∧ CutTo N n s ∧ ∃ k e, goN N n 0 (nmsL s) = some k ∧ IsEnd N n k e ∧ L = cutN N n k e) ∨ (q = false ∧ ¬ CutTo N n s ∧ L = [])
theorem RTold.same {N : Nat → Nd} {n : Nat} {s : ByteArray} {q r : Bool} {L M : List Nd} (h : RTold N n s q L) (k : RTold N n s r M) : q = r ∧ L = M := by
  rcases h with ⟨rfl, g, x, e, hx, he, rfl⟩ | ⟨rfl, g, rfl⟩ <;> rcases k with ⟨rfl, g', x', e', hx', he', rfl⟩ | ⟨rfl, g', rfl⟩
  · obtain rfl : x = x' := Option.some.inj (hx.symm.trans hx')
    obtain rfl := end_unique he he'
    exact ⟨rfl, rfl⟩
  · exact absurd g g'
  · exact absurd g' g
  · exact ⟨rfl, rfl⟩
def RmIs (N : Nat → Nd) (n : Nat) (s : ByteArray) (w : World) (e : Ending) (w' : World) : Prop :=
  ∃ v q b L, e = .returned (.tuple #[.agg #[v], .bool q]) ∧ RTold N n s q L ∧ (L ≠ [] → w.heap.size ≤ b ∧ b < w'.heap.size) ∧ OwnAt w' b v L.length (fun i => L.getD i ⟨0, 0, ⟨#[]⟩, ⟨#[]⟩, 0⟩) ∧ Below w.heap.size w w'
theorem RmIs.no {N : Nat → Nd} {n : Nat} {s : ByteArray} {w w' : World} (h : ¬ CutTo N n s) (hb : Below w.heap.size w w') : RmIs N n s w (.returned (.tuple #[.agg #[.slice none 0 0], .bool false])) w' :=
  ⟨_, _, 0, [], rfl, .inr ⟨rfl, h, rfl⟩, fun h => absurd rfl h, ⟨none, 0, 0, rfl, by decide, .inl rfl⟩, hb⟩
theorem cutN_len {N : Nat → Nd} {n k e : Nat} (he : IsEnd N n k e) : (cutN N n k e).length = k + (n - e) := by
  have h1 := he.1
  have h2 := he.2.1
  unfold cutN cutL
  rw [List.length_append, List.length_map, List.length_take, List.length_drop, List.length_map, List.length_range]
  omega
theorem RmIs.yes {N : Nat → Nd} {n k e B : Nat} {s : ByteArray} {w w' : World} {v : Value} (h : CutTo N n s) (hk : goN N n 0 (nmsL s) = some k) (he : IsEnd N n k e) (hB : w.heap.size ≤ B) (hn : n ≤ 2 ^ 20) (ho : OwnsN w' B v (cutN N n k e)) (hb : Below w.heap.size w w') : RmIs N n s w (.returned (.tuple #[.agg #[v], .bool true])) w' := by
  obtain ⟨b, h1, h2⟩ := ho.own (by rw [cutN_len he]; have := he.1; have := he.2.1; omega)
  exact ⟨v, true, b, cutN N n k e, rfl, .inl ⟨rfl, h, k, e, hk, he, rfl⟩, fun hn => ⟨Nat.le_trans hB (h1 hn).1, (h1 hn).2⟩, h2, hb⟩

theorem goN_lt {N : Nat → Nd} {n : Nat} : ∀ (l : List ByteArray) (k p : Nat), k < n → goN N n k l = some p → p < n := by
  intro l
  induction l with
  | nil => intro k p hk h; simp [goN] at h; omega
  | cons nm r ih =>
    intro k p hk h
    rw [goN] at h
    obtain ⟨q, hq, h'⟩ := Option.bind_eq_some_iff.1 h
    exact ih q p (kidsTo_mem (findP_kid hq)).2.1 h'

set_option maxRecDepth 100000 in
set_option maxHeartbeats 2000000 in
theorem specRemove_own (b n : Nat) (a : Option Addr) (c : Nat) (N : Nat → Nd) (s : ByteArray) (w : World) (h : OwnAt w b (.slice a n c) n N) (hsm : SmallN n N) (hs : s.size ≤ 2 ^ 20) :
    Calls Tryz.prog 12 #[.agg #[.slice a n c], .string s] w (RmIs N n s w) := by
  have HO : Hid (OwnAt w b (.slice a n c) n N) := h
  have HSM : Hid (SmallN n N) := hsm
  have n20 : n ≤ 2 ^ 20 := hsm.1
  have hbl : ∀ o o', Below w.heap.size w ((w.alloc o).alloc o') := fun o o' => ((Below.refl _ _).alloc (Nat.le_refl _) o).alloc (by simp) o'
  have hl : s.data.toList.length ≤ 2 ^ 20 := by rw [Array.length_toList]; exact hs
  have h61 := names60 s.data.toList
  clear h hsm
  go_enter Tryz.func12, Tryz.ntmps12
  go_wp2_with fail
  refine (show Calls Tryz.prog 15 #[.string s] _ (NamesC s.data.toList _) from l3Path_c s.data.toList _ hl).mono ?_
  rintro e w1 ⟨v1, g1, rfl, hg1, ho1, hb1, hcp⟩
  obtain ⟨a1, c1, rfl, hc1⟩ : ∃ a c, v1 = .slice a (namesN s.data.toList) c ∧ namesN s.data.toList ≤ c := by obtain ⟨a, c, rfl, _⟩ := ho1; obtain ⟨_, _, _, e, hle⟩ := hcp; simp only [Value.slice.injEq] at e; obtain ⟨_, rfl, rfl⟩ := e; exact ⟨a, c, rfl, hle⟩
  have x1 : w1.cell? ⟨w.heap.size, 0, none⟩ = some (.slice a n c) := by rw [hb1.cell (by simp; omega)]; simp [go_sem]
  have r1 : w1.cell? ⟨w.heap.size + 1, 0, none⟩ = some (.slice none 0 0) := by rw [hb1.cell (by simp)]; simp [go_sem]
  have f1 : w1.frozen? ⟨w.heap.size + 1, 0, none⟩ = false := by rw [hb1.frozen (by simp)]; simp [go_sem]
  have HB1 : Hid (Below w.heap.size w w1) := (hbl _ _).trans (hb1.mono (by simp; omega))
  have z1 : w.heap.size < w1.heap.size := by have := hb1.size; simp at this; omega
  have zR : w.heap.size + 1 < w1.heap.size := by have := hb1.size; simp at this; omega
  have HNM : Hid (ArgS w1 a1 (namesN s.data.toList) (namesF s.data.toList)) := ho1.arg
  clear hb1 hbl ho1 hg1 hcp
  go_wp2_with fail
  refine (specGood_own b n a c N _ (HO.out.below HB1.out) HSM.out).mono ?_
  rintro e w2 ⟨q, rfl, hq, hb2⟩
  have x2 : w2.cell? ⟨w.heap.size, 0, none⟩ = some (.slice a n c) := (hb2.cell z1).trans x1
  have r2 : w2.cell? ⟨w.heap.size + 1, 0, none⟩ = some (.slice none 0 0) := (hb2.cell zR).trans r1
  have f2 : w2.frozen? ⟨w.heap.size + 1, 0, none⟩ = false := (hb2.frozen zR).trans f1
  have HB2 : Hid (Below w.heap.size w w2) := HB1.out.trans (hb2.mono HB1.out.size)
  have HNM2 : Hid (ArgS w2 a1 (namesN s.data.toList) (namesF s.data.toList)) := HNM.out.below hb2
  have zR2 : w.heap.size + 1 < w2.heap.size := Nat.lt_of_lt_of_le zR hb2.size
  clear hb2
  cases q with
  | false =>
    have HN : Hid (¬ CutTo N n s) := fun h => by have := hq.2 h.1.1; simp at this
    clear hq
    go_wp2_with fail
    exact bodyPost_ret (v := .tuple #[.agg #[.slice none 0 0], .bool false]) (by simp [results, Tryz.results12, go_sem, r2]) rfl (RmIs.no HN.out (Below.setR HB2.out (by omega)))
  | true =>
    have HG : Hid (GoodV N n) := hq.1 rfl
    clear hq
    cases hp : (namesL s.data.toList).isSome with
    | false =>
      have HN : Hid (¬ CutTo N n s) := fun h => by have := h.1.2; rw [hp] at this; simp at this
      go_wp2_with fail
      exact bodyPost_ret (v := .tuple #[.agg #[.slice none 0 0], .bool false]) (by simp [results, Tryz.results12, go_sem, r2]) rfl (RmIs.no HN.out (Below.setR HB2.out (by omega)))
    | true =>
      have HAS : Hid (AskedOf N n s) := ⟨HG.out, hp⟩
      have hs1 := HG.out.1
      have HTS : Hid (TreeSaid N n 0) := l1Tree_any N n hs1.2.1 n 0 rfl hs1.1
      have HCN : Hid ((tree N n 0).cnt ≤ 2 ^ 20 ∧ (tree N n 0).named) := ⟨by rw [good_cnt HG.out]; have := hs1.2.1; omega, tree_named N n n 0 rfl hs1.1⟩
      have hn0 := hs1.1
      have HNA : Hid (nmsL s ≠ [] → _) := fun h => rem_go HG.out (nmsL s) h
      clear hs1
      go_wp2_with fail
      refine (HTS.out _ _ _ ((own_arg HO.out).below HB2.out)).mono ?_
      rintro e w3 ⟨an, cn, mn, ak, ck, mk', rfl, ht3, hb3⟩
      have r3 : w3.cell? ⟨w.heap.size + 1, 0, none⟩ = some (.slice none 0 0) := (hb3.cell zR2).trans r2
      have f3 : w3.frozen? ⟨w.heap.size + 1, 0, none⟩ = false := (hb3.frozen zR2).trans f2
      have zR3 : w.heap.size + 1 < w3.heap.size := Nat.lt_of_lt_of_le zR2 hb3.size
      have HT3 : Hid (TreeIs w3 (fun _ => True) (tree N n 0) _) := ht3.any
      have HB3 : Hid (Below w.heap.size w w3) := HB2.out.trans (hb3.mono HB2.out.size)
      have HNM3 : Hid (ArgS w3 a1 (namesN s.data.toList) (namesF s.data.toList)) := HNM2.out.below hb3
      clear ht3 hb3
      go_wp2_with fail
      refine (l3Remove_any (namesN s.data.toList) (tree N n 0) _ a1 c1 (namesF s.data.toList) _ (fun _ => True) HT3.out HCN.out.2 HCN.out.1 (by omega) hc1 HNM3.out).mono ?_
      rintro e w4 ⟨k4, n4, t4, an4, mn4, cn4, ak4, mk4, ck4, rfl, htr4, hb4⟩
      rw [show lst (namesF s.data.toList) (namesN s.data.toList) = nmsL s from rfl] at htr4 ⊢
      have r4 : w4.cell? ⟨w.heap.size + 1, 0, none⟩ = some (.slice none 0 0) := (hb4.cell zR3).trans r3
      have f4 : w4.frozen? ⟨w.heap.size + 1, 0, none⟩ = false := (hb4.frozen zR3).trans f3
      have zR4 : w.heap.size + 1 < w4.heap.size := Nat.lt_of_lt_of_le zR3 hb4.size
      have HB4 : Hid (Below w.heap.size w w4) := HB3.out.trans (hb4.mono HB3.out.size)
      have al4 : ∀ o, Below w4.heap.size w4 (w4.alloc o) := fun o => (Below.refl _ _).alloc (Nat.le_refl _) o
      have HTR : Hid (∀ x, remT (nmsL s) (tree N n 0) = some x → TreeIs w4 (fun b => True ∨ w3.heap.size ≤ b) x (.agg #[.int .i64 k4, .int .i64 n4, .string t4, .slice an4 mn4 cn4, .slice ak4 mk4 ck4])) := htr4
      clear hb4 htr4
      have HCASE : Hid ((remT (nmsL s) (tree N n 0) = none ∧ ¬ CutTo N n s) ∨ ∃ k en t', remT (nmsL s) (tree N n 0) = some t' ∧ CutTo N n s ∧ goN N n 0 (nmsL s) = some k ∧ IsEnd N n k en ∧ t'.flat ByteArray.empty (-1) 0 = cutN N n k en ∧ t'.cnt ≤ n) := by
        by_cases hne : nmsL s = []
        · exact .inl ⟨by rw [hne]; rfl, fun h => h.2.1 hne⟩
        · obtain ⟨h1, h2⟩ := HNA.out hne
          cases hgo : goN N n 0 (nmsL s) with
          | none => exact .inl ⟨h1 hgo, fun h => by have := h.2.2; rw [hgo] at this; simp at this⟩
          | some k =>
            obtain ⟨en, hen⟩ := end_of (N := N) (goN_lt _ 0 k hn0 hgo)
            obtain ⟨t', h3, h4, _, h5⟩ := h2 k en hgo hen
            exact .inr ⟨k, en, t', h3, ⟨HAS.out, hne, by rw [hgo]; rfl⟩, rfl, hen, h4, by omega⟩
      rcases HCASE.out with ⟨hrem, hN⟩ | ⟨k, en, t', hrem, hCT, hgo, hen, hfl, hct⟩
      · have HN : Hid (¬ CutTo N n s) := hN
        rw [hrem]
        dsimp only [Option.isSome]
        have zs : w.heap.size + 1 < (w4.setCell ⟨w.heap.size + 1, 0, none⟩ (.slice none 0 0)).heap.size := by simpa [World.setCell] using zR4
        have r5 : ∀ o, ((w4.setCell ⟨w.heap.size + 1, 0, none⟩ (.slice none 0 0)).alloc o).cell? ⟨w.heap.size + 1, 0, none⟩ = some (.slice none 0 0) := fun o => (((Below.refl _ _).alloc (Nat.le_refl _) o).cell zs).trans (World.cell?_setCell_same' _ _ _ (by rw [r4]; rfl))
        go_wp2_with fail
        exact bodyPost_ret (v := .tuple #[.agg #[.slice none 0 0], .bool false]) (by simp [results, Tryz.results12, go_sem, r5]) rfl (RmIs.no HN.out ((Below.setR HB4.out (by omega)).alloc (by omega) _))
      · have HTK : Hid (Tree w4 t' (.agg #[.int .i64 k4, .int .i64 n4, .string t4, .slice an4 mn4 cn4, .slice ak4 mk4 ck4])) := (HTR.out t' hrem).any
        have HNT : Hid (t'.named ∧ t'.cnt ≤ 2 ^ 20) := ⟨rem_named _ _ _ HCN.out.2 hrem, by omega⟩
        have HCT : Hid (CutTo N n s ∧ goN N n 0 (nmsL s) = some k ∧ IsEnd N n k en ∧ t'.flat ByteArray.empty (-1) 0 = cutN N n k en) := ⟨hCT, hgo, hen, hfl⟩
        rw [hrem]
        dsimp only [Option.isSome]
        clear hrem hCT hgo hen hfl HCASE HNA HTR
        go_wp2_with fail
        refine (l1Of_any t' _ _ (HTK.out.below (al4 _)) HNT.out.1 HNT.out.2).mono ?_
        rintro e w5 ⟨lv, rfl, ho5, hb5⟩
        have b5 : Below w4.heap.size w4 w5 := (al4 _).trans (hb5.mono (by simp))
        have r5 : w5.cell? ⟨w.heap.size + 1, 0, none⟩ = some (.slice none 0 0) := (b5.cell zR4).trans r4
        have f5 : w5.frozen? ⟨w.heap.size + 1, 0, none⟩ = false := (b5.frozen zR4).trans f4
        rw [show t'.flat ⟨#[]⟩ (-1) 0 = cutN N n k en from HCT.out.2.2.2] at ho5
        obtain ⟨L, hL⟩ : ∃ L, L = cutN N n k en := ⟨_, rfl⟩
        rw [← hL] at ho5
        have HLL : Hid (L = cutN N n k en) := hL
        obtain ⟨la, lc, rfl⟩ := ho5.form
        have HO5 : Hid (OwnsN w5 w4.heap.size (.slice la L.length lc) L) := ho5.low (by simp)
        have HB5 : Hid (Below w.heap.size w w5) := HB4.out.trans (b5.mono HB4.out.size)
        clear ho5 hb5 b5 al4 hL
        go_wp2
        exact bodyPost_ret (v := .tuple #[.agg #[.slice la L.length lc], .bool true]) (by simp [results, Tryz.results12, go_sem, r5]) rfl (RmIs.yes HCT.out.1 HCT.out.2.1 HCT.out.2.2.1 HB4.out.size n20 (by rw [← HLL.out]; exact own_set HO5.out (by omega)) (Below.setR HB5.out (by omega)))

end Go.Proofs.YtcceaadidnmdaaaGreatDoor
namespace Go.Proofs.YtcceaadidnmdaaaGreatDoor
open Go.RowKit
set_option linter.unusedVariables false

theorem putL_nil {N : Nat → Nd} {n p e : Nat} (h : p ≤ e) (he : e ≤ n) : putL N n p e [] = cutN N n p e := by
  unfold putL cutN cutL
  rw [show p + (e - p) = e by omega, show 0 + p + (e - p) = e by omega, List.append_nil]
  congr 1
  · rw [← List.map_take, List.take_range, Nat.min_eq_left (by omega)]
    simp
  · apply List.ext_getElem?
    intro i
    rw [List.getElem?_map, List.getElem?_map, List.getElem?_map, List.getElem?_drop, List.getElem?_map]
    by_cases hi : i < n - e
    · rw [List.getElem?_range hi, List.getElem?_range (by omega)]
      simp only [Option.map_some]
      unfold mvN downN dn
      split
      · simp only [List.length_nil]
        congr 2
        omega
      · rfl
    · rw [List.getElem?_eq_none (by simpa using hi), List.getElem?_eq_none (by simp; omega)]
      rfl

theorem good_ups {N : Nat → Nd} {n : Nat} (h : GoodV N n) : ∀ i, i < n → -1 ≤ (N i).up ∧ (N i).up ≤ 2 ^ 20 := fun i hi => by
  have h1 := good_up h i hi
  have h2 := h.1.2.1
  have hp := good_pre h
  by_cases h0 : i = 0
  · subst h0
    have := hp.1
    omega
  · have := (hp.2 i (by omega) hi).1
    omega

set_option maxRecDepth 100000 in
set_option maxHeartbeats 2000000 in
theorem implRemove_own (b n : Nat) (a : Option Addr) (c : Nat) (N : Nat → Nd) (s : ByteArray) (w : World) (h : OwnAt w b (.slice a n c) n N) (hsm : SmallN n N) (htab : Tab w.heap.size w) (hcap : n ≤ c) (hml : ML w) :
    Calls Tryz.prog 13 #[.agg #[.slice a n c], .string s] w (RmIs N n s w) := by
  have HO : Hid (OwnAt w b (.slice a n c) n N) := h
  have HSM : Hid (SmallN n N) := hsm
  have HTB : Hid (Tab w.heap.size w) := htab
  have HML : Hid (ML w) := hml
  have n20 : n ≤ 2 ^ 20 := hsm.1
  have hbl : ∀ o o', Below w.heap.size w ((w.alloc o).alloc o') := fun o o' => ((Below.refl _ _).alloc (Nat.le_refl _) o).alloc (by simp) o'
  have h61 := names60 s.data.toList
  clear h hsm htab hml
  go_enter Tryz.func13, Tryz.ntmps13
  go_wp2_with fail
  refine (implPathOf_any s _ (HML.out.below (hbl _ _))).mono ?_
  rintro e w1 ⟨v1, g1, rfl, hg1, ho1, hb1⟩
  obtain ⟨a1, c1, rfl⟩ : ∃ a c, v1 = .slice a (namesN s.data.toList) c := by obtain ⟨a, c, rfl, _⟩ := ho1; exact ⟨a, c, rfl⟩
  have x1 : w1.cell? ⟨w.heap.size, 0, none⟩ = some (.slice a n c) := by rw [hb1.cell (by simp; omega)]; simp [go_sem]
  have r1 : w1.cell? ⟨w.heap.size + 1, 0, none⟩ = some (.slice none 0 0) := by rw [hb1.cell (by simp)]; simp [go_sem]
  have f1 : w1.frozen? ⟨w.heap.size + 1, 0, none⟩ = false := by rw [hb1.frozen (by simp)]; simp [go_sem]
  have HB1 : Hid (Below w.heap.size w w1) := (hbl _ _).trans (hb1.mono (by simp; omega))
  have z1 : w.heap.size < w1.heap.size := by have := hb1.size; simp at this; omega
  have zR : w.heap.size + 1 < w1.heap.size := by have := hb1.size; simp at this; omega
  have HNM : Hid (ArgS w1 a1 (namesN s.data.toList) (namesF s.data.toList)) := ho1.arg
  clear hb1 hbl ho1 hg1
  cases hp : (namesL s.data.toList).isSome with
  | false =>
    have HN : Hid (¬ CutTo N n s) := fun h => by have := h.1.2; rw [hp] at this; simp at this
    go_wp2_with fail
    exact bodyPost_ret (v := .tuple #[.agg #[.slice none 0 0], .bool false]) (by simp [results, Tryz.results13, go_sem, r1]) rfl (RmIs.no HN.out (Below.setR HB1.out (by omega)))
  | true =>
    by_cases hne : namesN s.data.toList = 0
    · have HN : Hid (¬ CutTo N n s) := fun h => h.2.1 (by unfold nmsL; rw [hne]; rfl)
      rw [hne]
      clear hne
      go_wp2_with fail
      exact bodyPost_ret (v := .tuple #[.agg #[.slice none 0 0], .bool false]) (by simp [results, Tryz.results13, go_sem, r1]) rfl (RmIs.no HN.out (Below.setR HB1.out (by omega)))
    have HNE : Hid (nmsL s ≠ []) := fun h => hne (by have := congrArg List.length h; unfold nmsL at this; rw [lst_length] at this; exact this)
    have hne' : ¬ ((namesN s.data.toList : Int) = 0) := by omega
    go_wp2_with fail
    refine (implGood_own b n a c N _ (HO.out.below HB1.out) HSM.out (HTB.out.up HB1.out)).mono ?_
    rintro e w2 ⟨q, rfl, hq, hb2⟩
    have x2 : w2.cell? ⟨w.heap.size, 0, none⟩ = some (.slice a n c) := (hb2.cell z1).trans x1
    have r2 : w2.cell? ⟨w.heap.size + 1, 0, none⟩ = some (.slice none 0 0) := (hb2.cell zR).trans r1
    have f2 : w2.frozen? ⟨w.heap.size + 1, 0, none⟩ = false := (hb2.frozen zR).trans f1
    have HB2 : Hid (Below w.heap.size w w2) := HB1.out.trans (hb2.mono HB1.out.size)
    have HNM2 : Hid (ArgS w2 a1 (namesN s.data.toList) (namesF s.data.toList)) := HNM.out.below hb2
    have z2 : w.heap.size < w2.heap.size := Nat.lt_of_lt_of_le z1 hb2.size
    have zR2 : w.heap.size + 1 < w2.heap.size := Nat.lt_of_lt_of_le zR hb2.size
    clear hb2
    cases q with
    | false =>
      have HN : Hid (¬ CutTo N n s) := fun h => by have := hq.2 h.1.1; simp at this
      clear hq
      go_wp2_with fail
      exact bodyPost_ret (v := .tuple #[.agg #[.slice none 0 0], .bool false]) (by simp [results, Tryz.results13, go_sem, r2]) rfl (RmIs.no HN.out (Below.setR HB2.out (by omega)))
    | true =>
      have HG : Hid (GoodV N n) := hq.1 rfl
      have HAS : Hid (AskedOf N n s) := ⟨HG.out, hp⟩
      clear hq
      obtain ⟨b1, o1, rfl, hb1, hat1⟩ := own_some HO.out HG.out.1.1
      have HAT0 : Hid (NodesAt w b1 o1 n N) := hat1
      have HT1 : Hid (NodesAt w2 b1 o1 n N) := hat1.below HB2.out hb1
      have hbz : b1 < w2.heap.size := Nat.lt_of_lt_of_le hb1 HB2.out.size
      clear hat1
      go_wp2_with fail
      refine (nodeAt_any b1 o1 c n N a1 c1 (namesN s.data.toList) (namesF s.data.toList) _ HG.out.1.2.1 HG.out.1.1 (good_up HG.out) hbz HT1.out (by omega) HNM2.out).mono ?_
      rintro e w3 ⟨rfl, hb3⟩
      have x3 : w3.cell? ⟨w.heap.size, 0, none⟩ = some (.slice (some ⟨b1, o1, none⟩) n c) := (hb3.cell z2).trans x2
      have r3 : w3.cell? ⟨w.heap.size + 1, 0, none⟩ = some (.slice none 0 0) := (hb3.cell zR2).trans r2
      have f3 : w3.frozen? ⟨w.heap.size + 1, 0, none⟩ = false := (hb3.frozen zR2).trans f2
      have zR3 : w.heap.size + 1 < w3.heap.size := Nat.lt_of_lt_of_le zR2 hb3.size
      have HB3 : Hid (Below w.heap.size w w3) := HB2.out.trans (hb3.mono HB2.out.size)
      clear hb3
      rw [show lst (namesF s.data.toList) (namesN s.data.toList) = nmsL s from rfl]
      cases hgo : goN N n 0 (nmsL s) with
      | none =>
        have HN : Hid (¬ CutTo N n s) := fun h => by have := h.2.2; rw [hgo] at this; simp at this
        dsimp only [Option.isSome, Option.getD]
        go_wp2_with fail
        exact bodyPost_ret (v := .tuple #[.agg #[.slice none 0 0], .bool false]) (by simp [results, Tryz.results13, go_sem, r3]) rfl (RmIs.no HN.out (Below.setR HB3.out (by omega)))
      | some k =>
        have hk : k < n := goN_lt _ 0 k HG.out.1.1 hgo
        have HCT : Hid (CutTo N n s) := ⟨HAS.out, HNE.out, by rw [hgo]; rfl⟩
        have HGO : Hid (goN N n 0 (nmsL s) = some k) := hgo
        have hk0 : 0 < k := by
          obtain ⟨en, hen⟩ := end_of (N := N) hk
          obtain ⟨_, _, _, h, _⟩ := (rem_go HG.out (nmsL s) HNE.out).2 k en hgo hen
          exact h
        have HT3 : Hid (NodesAt w3 b1 o1 n N) := HAT0.out.below HB3.out hb1
        have hbz3 : b1 < w3.heap.size := Nat.lt_of_lt_of_le hb1 HB3.out.size
        have n80 := HG.out.1.2.1
        have HUP : Hid (∀ i, i < n → -1 ≤ (N i).up ∧ (N i).up ≤ 2 ^ 20) := good_ups HG.out
        have z3 : w.heap.size < w3.heap.size := by omega
        have HD : Below w3.heap.size w3 w3.drew := Below.drew (Below.refl w3.heap.size w3)
        have HT3' : Hid (NodesAt w3.drew b1 o1 n N) := HT3.out.below HD hbz3
        have HEN : Hid (∀ en, IsEnd N n k en → k ≤ en ∧ en ≤ n) := fun en h => ⟨by have := h.1; omega, h.2.1⟩
        dsimp only [Option.isSome, Option.getD]
        clear hgo
        go_wp2_with fail
        go_region_held3 (fun w' => w'.cell? ⟨w.heap.size, 0, none⟩ = some (.slice (some ⟨b1, o1, none⟩) n c)) (first | exact x3 | exact (hc5 _ _ z3).trans x3 | exact (World.cell?_of_block (Below.heap_setCell _ _ _ _ (by show w.heap.size ≠ w.heap.size + 1; omega))).trans ((hc5 _ _ z3).trans x3))
          (first | (go_at_call 31; refine (endOf_any b1 o1 c n k N _ hk (by omega) HT3'.out).mono ?_; rintro e w4 ⟨en, rfl, hen, rfl⟩) | (go_at_call 30; refine (putBetween_any b1 o1 c n k en N none 0 [] w3.drew hk0 (HEN.out en hen).1 (HEN.out en hen).2 (by omega) hcap (by simp) hbz3 HT3'.out HUP.out ⟨rfl, by simp [ndCells], .inl ⟨rfl, rfl, rfl⟩⟩).mono ?_; rintro e w5 ⟨v5, rfl, ho5, hb5⟩; obtain ⟨la, lc, rfl⟩ := OwnsN.form ho5; obtain ⟨hc5, hf5⟩ := bcell hb5; have r5 : w5.cell? ⟨w.heap.size + 1, 0, none⟩ = some (.slice none 0 0) := (hc5 _ _ zR3).trans r3; have f5 : w5.frozen? ⟨w.heap.size + 1, 0, none⟩ = false := (hf5 _ _ zR3).trans f3))
        have HB5 : Hid (Below w.heap.size w w5) := HB3.out.trans ((HD.trans (hb5.mono HD.size)).mono HB3.out.size)
        have hL0 := putL_nil (N := N) (HEN.out en hen).1 (HEN.out en hen).2
        obtain ⟨L, hL'⟩ : ∃ L, L = putL N n k en [] := ⟨_, rfl⟩
        rw [← hL'] at ho5 ⊢
        have hL : L = cutN N n k en := hL'.trans hL0
        clear hL0 hL'
        have HF : Hid (CutTo N n s ∧ goN N n 0 (nmsL s) = some k ∧ IsEnd N n k en ∧ OwnsN w5 w3.heap.size (.slice la L.length lc) L ∧ L = cutN N n k en) := ⟨HCT.out, HGO.out, hen, ho5, hL⟩
        clear ho5 hb5 hc5 hf5 hen hL HT3 HT3' HD
        go_wp2_with fail
        exact bodyPost_ret (v := .tuple #[.agg #[.slice la L.length lc], .bool true]) (by simp [results, Tryz.results13, go_sem, r5]) rfl (RmIs.yes HF.out.1 HF.out.2.1 HF.out.2.2.1 HB3.out.size n20 (by rw [← HF.out.2.2.2.2]; exact own_set HF.out.2.2.2.1 (by omega)) (Below.setR HB5.out (by omega)))

end Go.Proofs.YtcceaadidnmdaaaGreatDoor
