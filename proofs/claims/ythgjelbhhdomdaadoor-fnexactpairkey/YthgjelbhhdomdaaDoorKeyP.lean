/- The keys of a node's parts, and so of every node: the program. -/
import Derived.Test.YthgjelbhhdomdaaDoorKeyF
import Derived.Test.YthgjelbhhdomdaaDoorTreeW
namespace Go.Proofs.YthgjelbhhdomdaaDoor
open Go.RowKit
set_option linter.unusedVariables false

theorem key_len {N : Nat → Nd} {n : Nat} (h : TOK N n) : ∀ d k, n - k = d → k < n → ∀ e, IsEnd N n k e → (tree N n k).key.length + 30 ≤ 60 * (e - k) := by
  intro d
  induction d using Nat.strongRecOn with
  | _ d ih =>
    intro k hd hk e he
    have he1 := he.1
    by_cases h67 : (N k).kind = 6 ∨ (N k).kind = 7
    · have hC := parts_ind h.tb.pre hk (fun q => k + 1 ≤ q ∧ (keyTo N n k q).length ≤ 60 * (q - (k + 1))) ⟨Nat.le_refl _, by rw [keyTo_start]; simp⟩ (fun q e' hb hq hu he' hkid hc => by
        have h1 := ih (n - q) (by have := hb.1; omega) q rfl hq e' he'
        have h2 := he'.1
        refine ⟨by have := hb.1; omega, ?_⟩
        rw [keyTo_next h.tb.pre hb hq hu he', List.length_append, List.length_append]
        have h3 : (keyHead N k q).length ≤ 26 := by
          unfold keyHead
          split
          · have := h.tb.name q hq
            have h4 : (N q).name.data.toList.length = (N q).name.size := by rw [Array.length_toList]; rfl
            rw [List.length_cons, List.length_append, h4]
            simp
            omega
          · simp
        omega) e he
      rw [key_parts hk h67, List.length_cons, List.length_append]
      have h5 : keyTo N n k n = keyTo N n k e := by unfold keyTo; rw [hC.1]
      rw [h5]
      have := hC.2
      simp
      omega
    · by_cases h4 : (N k).kind = 4
      · rw [key_num hk h4]
        simp [num4]
        omega
      · by_cases h5 : (N k).kind = 5
        · rw [key_text hk h5, List.length_cons, List.length_append]
          have := h.tb.text k hk
          have h6 : (N k).text.data.toList.length = (N k).text.size := by rw [Array.length_toList]; rfl
          rw [h6]
          simp
          omega
        · rw [key_word hk h4 h5 h67]
          simp
          omega

/-- The slice value v owns the texts xs, in blocks from B on. -/
def OwnsT (w : World) (B : Nat) (v : Value) (xs : List ByteArray) : Prop := w.ownsRow B 9 1 v xs.length (xs.map .string)
theorem OwnsT.form {w : World} {B : Nat} {v : Value} {xs : List ByteArray} (h : OwnsT w B v xs) : ∃ a c, v = .slice a xs.length c := by
  rcases h.2 with ⟨rfl, e⟩ | ⟨g, cap, cur, rfl, _⟩
  · exact ⟨none, 0, by rw [e]⟩
  · exact ⟨_, _, rfl⟩
theorem catL_append (xs ys : List ByteArray) : catL (xs ++ ys) = catL xs ++ catL ys := by simp [catL]

/-- All pieces together. -/
theorem joinKey_own {w : World} {B : Nat} {v : Value} {xs : List ByteArray} (h : OwnsT w B v xs) (hl : xs.length ≤ 2 ^ 20) (hc : (catL xs).length ≤ 2 ^ 40) :
    Calls Tryd.prog 49 #[v] w fun e w' => e = .returned (.string (strL (catL xs))) ∧ Below w.heap.size w w' := by
  have hcells := @World.ownsRow.cells _ _ _ _ _ _ _ h
  have hlt := @World.ownsRow.lt _ _ _ _ _ _ _ h
  rcases h.2 with ⟨rfl, e⟩ | ⟨g, cap, cur, rfl, hg, hh, hcap, _⟩
  · obtain rfl := List.eq_nil_of_length_eq_zero e
    exact joinKey_none none 0 w
  · refine joinKey_any g 0 cap xs w (fun j x hx => ?_) (hlt g rfl).2 (by omega) hcap hc
    have := hcells (g := g) rfl j (.string x) (by rw [List.getElem?_map, hx]; rfl)
    rwa [show ((⟨g, 0, none⟩ : Addr).add j) = ⟨g, 0 + j, none⟩ by unfold Addr.add; split <;> simp_all] at this

theorem three_news (W : World) (a b c : ByteArray) (T : TypeId) : ∀ (j : Nat) (u : Value), [Value.string a, .string b, .string c][j]? = some u → (W.alloc (.cells #[.string a, .string b, .string c] T)).cell? ((⟨W.heap.size, 0, none⟩ : Addr).add j) = some u := by
  intro j u h
  have e : (⟨W.heap.size, 0, none⟩ : Addr).add j = ⟨W.heap.size, j, none⟩ := by unfold Addr.add; split <;> simp_all
  rw [e, World.cell?_alloc_new]
  simpa using h
theorem three_one (a b c : ByteArray) : ∀ u : Value, u ∈ [Value.string a, .string b, .string c] → u.oneCell' = true := by
  intro u hu
  simp at hu
  rcases hu with rfl | rfl | rfl <;> rfl

def PartsK (N : Nat → Nd) (n k : Nat) : Prop := ∀ (b off c : Nat) (w : World), b < w.heap.size → NodesAt w b off n N → Marks w →
    Calls Tryd.prog 117 #[.slice (some ⟨b, off, none⟩) n c, .int .i64 k] w fun e w' => ∃ en : Nat, e = .returned (.tuple #[.string (strL (keyTo N n k n)), .int .i64 en]) ∧ IsEnd N n k en ∧ Below w.heap.size w w'

theorem keyTo_len {N : Nat → Nd} {n k q : Nat} (h : TOK N n) (hn : n ≤ 80) (hk : k < n) (h67 : (N k).kind = 6 ∨ (N k).kind = 7) (hb : Bnd N n k q) : (keyTo N n k q).length ≤ 2 ^ 20 := by
  obtain ⟨e, he⟩ := end_of (N := N) hk
  have h1 := key_len h (n - k) k rfl hk e he
  rw [key_parts hk h67, List.length_cons, List.length_append] at h1
  have h2 : ∀ d, q + d ≤ n → (keyTo N n k q).length ≤ (keyTo N n k (q + d)).length := by
    intro d
    induction d with
    | zero => intro _; exact Nat.le_refl _
    | succ d ihd =>
      intro hq
      refine Nat.le_trans (ihd (by omega)) ?_
      unfold keyTo
      rw [show q + (d + 1) = (q + d) + 1 by omega, kidsTo]
      split
      · rw [List.flatMap_append, List.length_append]; omega
      · exact Nat.le_refl _
  have h3 := h2 (n - q) (by have := hb.2.1; omega)
  rw [show q + (n - q) = n by have := hb.2.1; omega] at h3
  have := he.2.1
  omega

set_option maxRecDepth 100000 in
set_option maxHeartbeats 4000000 in
theorem keyOfParts_any (N : Nat → Nd) (n k : Nat) (hn : n ≤ 80) (hk : k < n) (ht : TOK N n) (h67 : (N k).kind = 6 ∨ (N k).kind = 7) (ih : ∀ p, k < p → p < n → KeySaid N n p) : PartsK N n k := by
  intro b off c w hb hat hmk
  have HAT : Hid (NodesAt w b off n N) := hat
  have HMK : Hid (Marks w) := hmk
  have HIH : Hid (∀ p, k < p → p < n → KeySaid N n p) := ih
  have HT : Hid (TOK N n) := ht
  have H67 : Hid ((N k).kind = 6 ∨ (N k).kind = 7) := h67
  have HKL : Hid (∀ q, Bnd N n k q → (keyTo N n k q).length ≤ 2 ^ 20) := fun q hq => keyTo_len ht hn hk h67 hq
  obtain ⟨iS, hi, hz0, hz1, hz2⟩ := info_parts infoText
  have HIS : Hid (Tryd.prog.info? 9 = some iS ∧ iS.zero = some (.string ⟨#[]⟩) ∧ iS.size = 1 ∧ iS.bytes = 16) := ⟨hi, hz0, hz1, hz2⟩
  have i0 : (0 : Int) ≤ (k : Int) := by omega
  have i1 : (k : Int) < (n : Int) := by omega
  clear hat hmk ih hi hz0 hz1 hz2 h67 ht
  go_enter Tryd.func117, Tryd.ntmps117
  go_wp2_with fail
  go_loopw [6, 7] (fun v i wr => ∃ (q : Nat) (xs : List ByteArray) (am : Option Addr) (dm : Nat), i = .int .i64 q ∧ q ≤ n ∧ v = .slice am xs.length dm ∧ xs.length ≤ 4 * q ∧ Hid (Bnd N n k q) ∧ Hid (catL xs = keyTo N n k q) ∧ Hid (OwnsT wr w.heap.size (.slice am xs.length dm) xs) ∧ Below w.heap.size w wr) (fun _ i _ => n - (intOf i).toNat)
  case atStart => exact ⟨k + 1, [], none, 0, by go_num, by omega, rfl, by simp, bnd_start HT.out.tb.pre hk, by show _ = _; rw [keyTo_start]; rfl, World.ownsRow_nil _ _ _ _, Below.refl _ _⟩
  case round =>
    obtain ⟨q, xs, am, dm, rfl, hqn, rfl, hxl, HBN, HX, HO, hnx⟩ := hrel
    have hz := hnx.size
    have hkq : k < q := HBN.out.1
    have d0 := (HAT.out.below hnx hb k hk).1
    have j0 : (0 : Int) ≤ (q : Int) := by omega
    by_cases hlt : q < n
    · obtain ⟨g0, g1, g2, g3, g4⟩ := HAT.out.below hnx hb q hlt
      have j1 : (q : Int) < (n : Int) := by omega
      by_cases hu : (N q).up = k
      · have hub : ((N q).up == (k : Int)) = true := by simpa using hu
        have HU : Hid ((N q).up = k) := hu
        have HK9 : Hid (KeySaid N n q) := HIH.out q hkq hlt
        clear hu g0 g1 g2
        rcases H67.out with h6 | h7
        · have e7 : ((N k).kind == 7) = false := by rw [h6]; rfl
          have HH : Hid (keyHead N k q = []) := by show _ = _; unfold keyHead; rw [if_neg (by omega)]
          clear h6
          go_wp2_with fail
          refine (HK9.out b off c _ (by omega) (HAT.out.below hnx hb) (HMK.out.below hnx)).mono ?_
          rintro e w2 ⟨en, rfl, he2, hb2⟩
          have HN2 : Hid (keyTo N n k en = keyTo N n k q ++ (keyHead N k q ++ (tree N n q).key)) := keyTo_next HT.out.tb.pre HBN.out hlt HU.out he2
          have HB2n : Hid (Bnd N n k en) := (bnd_next HT.out.tb.pre HBN.out hlt HU.out he2).1
          have hen : q < en ∧ en ≤ n := ⟨he2.1, he2.2.1⟩
          have HB2 : Hid (Below w.heap.size w w2) := hnx.trans (hb2.mono hz)
          have HO2 : Hid (OwnsT w2 w.heap.size (.slice am xs.length dm) xs) := row_block HO.out fun b' _ hl' _ => hb2.block b' hl'
          have zz2 := HB2.out.size
          clear he2 hb2
          go_wp2_with (first | (at_builtin; refine wpList_append_own _ rfl _ _ 39 rfl w.heap.size 9 iS _ 1 16 Tryd.underlying39 HIS.out.1 HIS.out.2.1 HIS.out.2.2.1 HIS.out.2.2.2 rfl (by decide) _ _ _ rfl (World.ownsRow.alloc HO2.out _) ⟨w2.heap.size, 0, none⟩ 1 1 [.string (strL (tree N n q).key)] rfl rfl ?c1 ?c2 ?c3 ?c4 ?c5 ?_))
          case c1 => exact one_news _ _ _
          case c2 => intro u hu; simp at hu; subst hu; rfl
          case c3 => unfold maxLen; omega
          case c4 => omega
          case c5 => simp; omega
          intro v3 w3 hown3 hgrow _
          have HB3 : Hid (Below w.heap.size w w3) := grow_below HO2.out _ HB2.out (by omega) hgrow
          have ho3 : OwnsT w3 w.heap.size v3 (xs ++ [strL (tree N n q).key]) := by
            unfold OwnsT
            rw [List.map_append, List.length_append]
            exact hown3
          obtain ⟨a3, d3, rfl⟩ := ho3.form
          have HO3 : Hid (OwnsT w3 w.heap.size (.slice a3 (xs ++ [strL (tree N n q).key]).length d3) (xs ++ [strL (tree N n q).key])) := ho3
          have HX3 : Hid (catL (xs ++ [strL (tree N n q).key]) = keyTo N n k en) := by
            show _ = _
            rw [catL_append, HX.out, HN2.out, HH.out]
            simp [catL, strL]
          clear hown3 hgrow ho3
          go_wp2_with fail
          go_roundw
          case rel => exact ⟨en, _, a3, d3, rfl, hen.2, rfl, by rw [List.length_append]; simp; omega, HB2n, HX3, HO3, HB3.out⟩
          case measure => simp [intOf]; omega
        · have e7 : ((N k).kind == 7) = true := by rw [h7]; rfl
          have HH : Hid (keyHead N k q = 2 :: ((N q).name.data.toList ++ [1])) := by show _ = _; unfold keyHead; rw [if_pos h7]
          rw [h7] at d0
          clear h7
          go_wp2_with (first | (at_builtin; refine wpList_append_own _ rfl _ _ 39 rfl w.heap.size 9 iS _ 1 16 Tryd.underlying39 HIS.out.1 HIS.out.2.1 HIS.out.2.2.1 HIS.out.2.2.2 rfl (by decide) _ _ _ rfl (World.ownsRow.alloc HO.out _) ⟨wr.heap.size, 0, none⟩ 3 3 [.string ⟨#[2]⟩, .string (N q).name, .string ⟨#[1]⟩] rfl rfl ?c1 ?c2 ?c3 ?c4 ?c5 ?_))
          case c1 => exact three_news _ _ _ _ _
          case c2 => exact three_one _ _ _
          case c3 => unfold maxLen; omega
          case c4 => omega
          case c5 => simp; omega
          intro v1 w1 hown1 hgrow1 _
          have HB1 : Hid (Below w.heap.size w w1) := grow_below HO.out _ hnx (by omega) hgrow1
          have zz1 := HB1.out.size
          obtain ⟨ys, hys⟩ : ∃ ys : List ByteArray, ys = xs ++ [⟨#[2]⟩, (N q).name, ⟨#[1]⟩] := ⟨_, rfl⟩
          have hyl : ys.length = xs.length + 3 := by rw [hys]; simp
          have ho1 : OwnsT w1 w.heap.size v1 ys := by
            unfold OwnsT
            rw [hyl, hys, List.map_append]
            exact hown1
          obtain ⟨a1, d1, rfl⟩ := ho1.form
          have HO1 : Hid (OwnsT w1 w.heap.size (.slice a1 ys.length d1) ys) := ho1
          have HY : Hid (catL ys = keyTo N n k q ++ keyHead N k q) := by
            show _ = _
            rw [hys, catL_append, HX.out, HH.out]
            simp [catL]
          have hyb : ys.length ≤ xs.length + 3 := by omega
          clear hown1 hgrow1 ho1 hys hyl
          go_wp2_with fail
          refine (HK9.out b off c _ (by omega) (HAT.out.below HB1.out hb) (HMK.out.below HB1.out)).mono ?_
          rintro e w2 ⟨en, rfl, he2, hb2⟩
          have HN2 : Hid (keyTo N n k en = keyTo N n k q ++ (keyHead N k q ++ (tree N n q).key)) := keyTo_next HT.out.tb.pre HBN.out hlt HU.out he2
          have HB2n : Hid (Bnd N n k en) := (bnd_next HT.out.tb.pre HBN.out hlt HU.out he2).1
          have hen : q < en ∧ en ≤ n := ⟨he2.1, he2.2.1⟩
          have HB2 : Hid (Below w.heap.size w w2) := HB1.out.trans (hb2.mono HB1.out.size)
          have HO2 : Hid (OwnsT w2 w.heap.size (.slice a1 ys.length d1) ys) := row_block HO1.out fun b' _ hl' _ => hb2.block b' hl'
          have zz2 := HB2.out.size
          clear he2 hb2
          go_wp2_with (first | (at_builtin; refine wpList_append_own _ rfl _ _ 39 rfl w.heap.size 9 iS _ 1 16 Tryd.underlying39 HIS.out.1 HIS.out.2.1 HIS.out.2.2.1 HIS.out.2.2.2 rfl (by decide) _ _ _ rfl (World.ownsRow.alloc HO2.out _) ⟨w2.heap.size, 0, none⟩ 1 1 [.string (strL (tree N n q).key)] rfl rfl ?c1 ?c2 ?c3 ?c4 ?c5 ?_))
          case c1 => exact one_news _ _ _
          case c2 => intro u hu; simp at hu; subst hu; rfl
          case c3 => unfold maxLen; omega
          case c4 => omega
          case c5 => simp; omega
          intro v3 w3 hown3 hgrow _
          have HB3 : Hid (Below w.heap.size w w3) := grow_below HO2.out _ HB2.out (by omega) hgrow
          have ho3 : OwnsT w3 w.heap.size v3 (ys ++ [strL (tree N n q).key]) := by
            unfold OwnsT
            rw [List.map_append, List.length_append]
            exact hown3
          obtain ⟨a3, d3, rfl⟩ := ho3.form
          have HO3 : Hid (OwnsT w3 w.heap.size (.slice a3 (ys ++ [strL (tree N n q).key]).length d3) (ys ++ [strL (tree N n q).key])) := ho3
          have HX3 : Hid (catL (ys ++ [strL (tree N n q).key]) = keyTo N n k en) := by
            show _ = _
            rw [catL_append, HY.out, HN2.out, List.append_assoc]
            simp [catL, strL]
          clear hown3 hgrow ho3
          go_wp2_with fail
          go_roundw
          case rel => exact ⟨en, _, a3, d3, rfl, hen.2, rfl, by rw [List.length_append]; simp; omega, HB2n, HX3, HO3, HB3.out⟩
          case measure => simp [intOf]; omega
      · have hub : ((N q).up == (k : Int)) = false := by simpa using hu
        have HEND : Hid (IsEnd N n k q ∧ keyTo N n k n = keyTo N n k q) := ⟨(bnd_stop HT.out.tb.pre HBN.out (fun _ => hu)).1, keyTo_stop HT.out.tb.pre HBN.out (fun _ => hu)⟩
        clear hu g0 g1 g2 g3
        go_wp2_with fail
        refine (joinKey_own HO.out (by omega) (by rw [HX.out]; have := HKL.out q HBN.out; omega)).mono ?_
        rintro e w2 ⟨rfl, hb2⟩
        have HB2 : Hid (Below w.heap.size w w2) := hnx.trans (hb2.mono hz)
        clear hb2
        go_wp2_with fail
        exact bodyPost_ret (v := .tuple #[.string (strL (catL xs)), .int .i64 (q : Int)]) (by simp [results, Tryd.results117, go_sem]) rfl ⟨q, by rw [HX.out, HEND.out.2], HEND.out.1, HB2.out⟩
    · have HEND : Hid (IsEnd N n k q ∧ keyTo N n k n = keyTo N n k q) := ⟨(bnd_stop HT.out.tb.pre HBN.out (fun h => absurd h hlt)).1, keyTo_stop HT.out.tb.pre HBN.out (fun h => absurd h hlt)⟩
      have hlt' : ¬ (q : Int) < (n : Int) := by omega
      go_wp2_with fail
      refine (joinKey_own HO.out (by omega) (by rw [HX.out]; have := HKL.out q HBN.out; omega)).mono ?_
      rintro e w2 ⟨rfl, hb2⟩
      have HB2 : Hid (Below w.heap.size w w2) := hnx.trans (hb2.mono hz)
      clear hb2
      go_wp2_with fail
      exact bodyPost_ret (v := .tuple #[.string (strL (catL xs)), .int .i64 (q : Int)]) (by simp [results, Tryd.results117, go_sem]) rfl ⟨q, by rw [HX.out, HEND.out.2], HEND.out.1, HB2.out⟩

set_option maxRecDepth 100000 in
set_option maxHeartbeats 2000000 in
theorem keyFrom_parts (N : Nat → Nd) (n k : Nat) (hn : n ≤ 80) (hk : k < n) (ht : TOK N n) (h67 : (N k).kind = 6 ∨ (N k).kind = 7) (hp : PartsK N n k) : KeySaid N n k := by
  intro b off c w hb hat hmk
  obtain ⟨a0, a1, a2, a3, a4⟩ := hat k hk
  have i0 : (0 : Int) ≤ (k : Int) := by omega
  have i1 : (k : Int) < (n : Int) := by omega
  have HR : Hid ((tree N n k).key = kindB (N k).kind :: (keyTo N n k n ++ [0])) := key_parts hk h67
  have hbl : ∀ o, Below w.heap.size w (w.alloc o) := fun o => (Below.refl _ _).alloc (Nat.le_refl _) o
  have HL : Hid ((keyTo N n k n).length ≤ 2 ^ 20) := by
    obtain ⟨e, he⟩ := end_of (N := N) hk
    have h1 := key_len ht (n - k) k rfl hk e he
    rw [key_parts hk h67, List.length_cons, List.length_append] at h1
    have := he.2.1
    show _ ≤ _
    omega
  have HAT : Hid (NodesAt w b off n N) := hat
  have HMK : Hid (Marks w) := hmk
  have HP : Hid (PartsK N n k) := hp
  have m6 := hmk.2 6 (by omega) (by omega)
  have m7 := hmk.2 7 (by omega) (by omega)
  have hg := hmk.1
  clear hat hmk hp
  rcases h67 with h6 | h6
  all_goals
    rw [h6] at a0 HR
    clear h6
    go_enter Tryd.func84, Tryd.ntmps84
    go_wp2_with fail
    refine (HP.out b off c _ (by simp; omega) (HAT.out.below (hbl _) hb) (HMK.out.below (hbl _))).mono ?_
    rintro e w1 ⟨en, rfl, he1, hb1⟩
    have HE1 : Hid (IsEnd N n k en) := he1
    have HB1 : Hid (Below w.heap.size w w1) := (hbl _).trans (hb1.mono (by simp))
    clear he1 hb1
    go_wp2_with fail
    refine (joinKey3 w1 _ rfl _ _ _ ?_).mono ?_
    · rw [strL_size, strL_size]
      have := HL.out
      show 1 + (keyTo N n k n).length + 1 ≤ _
      omega
    rintro e w2 ⟨rfl, hb2⟩
    have HB2 : Hid (Below w.heap.size w w2) := HB1.out.trans (hb2.mono HB1.out.size)
    clear hb2
    go_wp2_with fail
    refine bodyPost_ret (v := .tuple #[.string _, .int .i64 (en : Int)]) (by simp [results, Tryd.results84, go_sem]; rfl) rfl ⟨en, ?_, HE1.out, HB2.out⟩
    rw [HR.out]
    simp [strL]

theorem keyFrom_any (N : Nat → Nd) (n : Nat) (hn : n ≤ 80) (ht : TOK N n) : ∀ d k, n - k = d → k < n → KeySaid N n k := by
  intro d
  induction d using Nat.strongRecOn with
  | _ d ih =>
    intro k hd hk
    by_cases h67 : (N k).kind = 6 ∨ (N k).kind = 7
    · exact keyFrom_parts N n k hn hk ht h67 (keyOfParts_any N n k hn hk ht h67 (fun p h1 h2 => ih (n - p) (by omega) p rfl h2))
    · exact keyFrom_leaf N n k hn hk ht h67

end Go.Proofs.YthgjelbhhdomdaaDoor
