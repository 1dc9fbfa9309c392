/- The parts of a node: both sides answer the same list. -/
import Derived.Test.YtplkmlbjgbgldaaDoorInts
import Derived.Test.YtplkmlbjgbgldaaDoorTellLaw
namespace Go.Proofs.YtplkmlbjgbgldaaDoor
open Go.RowKit
set_option linter.unusedVariables false

def HasN (N : Nat → Nd) (n : Nat) (z : Int) : Prop := 0 ≤ z ∧ z < n ∧ GoodV N n

set_option maxRecDepth 100000 in
set_option maxHeartbeats 1000000 in
theorem hasNode_own (b n : Nat) (a : Option Addr) (c : Nat) (N : Nat → Nd) (z : Int) (w : World) (h : OwnAt w b (.slice a n c) n N) (hsm : SmallN n N) (htab : Tab w.heap.size w) :
    Calls Tryd.prog 42 #[.agg #[.slice a n c], .int .i64 z] w (BoolIs (HasN N n z) w) := by
  have HO : Hid (OwnAt w b (.slice a n c) n N) := h
  have HSM : Hid (SmallN n N) := hsm
  have HTB : Hid (Tab w.heap.size w) := htab
  have hbl : ∀ o, Below w.heap.size w (w.alloc o) := fun o => (Below.refl _ _).alloc (Nat.le_refl _) o
  have n20 : n ≤ 2 ^ 20 := hsm.1
  clear h hsm htab
  by_cases h0 : 0 ≤ z
  · by_cases h1 : z < n
    · go_enter Tryd.func42, Tryd.ntmps42
      go_wp2_with fail
      refine (implGood_own b n a c N _ (HO.out.below (hbl _)) HSM.out (HTB.out.up (hbl _))).mono ?_
      rintro e w1 ⟨q, rfl, hq, hb1⟩
      have HB1 : Hid (Below w.heap.size w w1) := (hbl _).trans (hb1.mono (by simp))
      have HQ : Hid (q = true ↔ HasN N n z) := ⟨fun h => ⟨h0, h1, hq.1 h⟩, fun h => hq.2 h.2.2⟩
      clear hb1 hbl hq
      go_wp2
      go_ret
      exact BoolIs.of HQ.out HB1.out
    · have HN : Hid (¬ HasN N n z) := fun h => h1 h.2.1
      go_enter Tryd.func42, Tryd.ntmps42
      go_wp2_with fail
      go_ret
      exact BoolIs.no HN.out (by go_grown)
  · have HN : Hid (¬ HasN N n z) := fun h => h0 h.1
    go_enter Tryd.func42, Tryd.ntmps42
    go_wp2_with fail
    go_ret
    exact BoolIs.no HN.out (by go_grown)

def KTold (N : Nat → Nd) (n : Nat) (z : Int) (q : Bool) (m : Nat) (f : Nat → Int) : Prop :=
  (q = true ∧ HasN N n z ∧ m = (kidsTo N z.toNat n).length ∧ f = fun j => (((kidsTo N z.toNat n).getD j 0 : Nat) : Int)) ∨ (q = false ∧ ¬ HasN N n z ∧ m = 0 ∧ f = fun _ => 0)
theorem KTold.same {N : Nat → Nd} {n m m' : Nat} {z : Int} {q q' : Bool} {f f' : Nat → Int} (h : KTold N n z q m f) (k : KTold N n z q' m' f') : q = q' ∧ m = m' ∧ f = f' := by
  rcases h with ⟨rfl, g, rfl, rfl⟩ | ⟨rfl, g, rfl, rfl⟩ <;> rcases k with ⟨rfl, g', rfl, rfl⟩ | ⟨rfl, g', rfl, rfl⟩
  · exact ⟨rfl, rfl, rfl⟩
  · exact absurd g g'
  · exact absurd g' g
  · exact ⟨rfl, rfl, rfl⟩
def KidsIs (N : Nat → Nd) (n : Nat) (z : Int) (w : World) (e : Ending) (w' : World) : Prop :=
  ∃ v q g m f, e = .returned (.tuple #[v, .bool q]) ∧ KTold N n z q m f ∧ w.heap.size ≤ g ∧ OwnI w' g v m f ∧ Below w.heap.size w w'
theorem KidsIs.no {N : Nat → Nd} {n : Nat} {z : Int} {w w' : World} (h : ¬ HasN N n z) (hb : Below w.heap.size w w') : KidsIs N n z w (.returned (.tuple #[.slice none 0 0, .bool false])) w' :=
  ⟨_, _, w.heap.size, 0, fun _ => 0, rfl, .inr ⟨rfl, h, rfl, rfl⟩, Nat.le_refl _, ⟨none, 0, rfl, by omega, .inl rfl⟩, hb⟩
theorem KidsIs.yes {N : Nat → Nd} {n k : Nat} {w w' : World} {v : Value} {B : Nat} (h : HasN N n k) (hn : n ≤ 2 ^ 20) (hB : w.heap.size ≤ B) (ho : w'.ownsRow B 3 1 v (kidsTo N k n).length (intCells (kidsTo N k n))) (hb : Below w.heap.size w w') : KidsIs N n k w (.returned (.tuple #[v, .bool true])) w' := by
  obtain ⟨g, hg, hi⟩ := own_row ho (by have := kids_len N k n; omega)
  exact ⟨v, true, g, _, _, rfl, .inl ⟨rfl, h, rfl, rfl⟩, by omega, hi, hb⟩

set_option maxRecDepth 100000 in
set_option maxHeartbeats 1000000 in
theorem l1In_any (x lo hi : Int) (w : World) : Calls Tryd.prog 40 #[.int .i64 x, .int .i64 lo, .int .i64 hi] w fun e w' => e = .returned (.bool (decide (lo ≤ x) && decide (x ≤ hi))) ∧ Below w.heap.size w w' := by
  by_cases h0 : lo ≤ x
  · go_enter Tryd.func40, Tryd.ntmps40
    go_wp2
    go_ret
    exact ⟨by simp [h0], by go_grown⟩
  · go_enter Tryd.func40, Tryd.ntmps40
    go_wp2
    go_ret
    have h1 : decide (lo ≤ x) = false := decide_eq_false (by omega)
    exact ⟨by rw [h1]; rfl, by go_grown⟩

set_option maxRecDepth 100000 in
set_option maxHeartbeats 1000000 in
theorem specKids_own (b n : Nat) (a : Option Addr) (c : Nat) (N : Nat → Nd) (z : Int) (w : World) (h : OwnAt w b (.slice a n c) n N) (hsm : SmallN n N) :
    Calls Tryd.prog 18 #[.agg #[.slice a n c], .int .i64 z] w (KidsIs N n z w) := by
  have HO : Hid (OwnAt w b (.slice a n c) n N) := h
  have HSM : Hid (SmallN n N) := hsm
  have n20 : n ≤ 2 ^ 20 := hsm.1
  have hbl : ∀ o, Below w.heap.size w (w.alloc o) := fun o => (Below.refl _ _).alloc (Nat.le_refl _) o
  clear h hsm
  go_enter Tryd.func18, Tryd.ntmps18
  go_wp2_with fail
  refine (specGood_own b n a c N _ (HO.out.below (hbl _)) HSM.out).mono ?_
  rintro e w1 ⟨q, rfl, hq, hb1⟩
  have hx : w1.cell? ⟨w.heap.size, 0, none⟩ = some (.slice a n c) := by rw [hb1.cell (by simp)]; simp [go_sem]
  have HB1 : Hid (Below w.heap.size w w1) := (hbl _).trans (hb1.mono (by simp))
  have z1 : w.heap.size < w1.heap.size := by have := hb1.size; simp at this; omega
  clear hb1 hbl
  cases q with
  | false =>
    have HN : Hid (¬ HasN N n z) := fun h => by have := hq.2 h.2.2; simp at this
    clear hq
    go_wp2_with fail
    exact bodyPost_ret (v := .tuple #[.slice none 0 0, .bool false]) (by simp [results, Tryd.results18, go_sem]) rfl (KidsIs.no HN.out HB1.out)
  | true =>
    have hg : GoodV N n := hq.1 rfl
    have HG : Hid (GoodV N n) := hg
    clear hq hg
    go_wp2_with fail
    refine (l1In_any _ _ _ _).mono ?_
    rintro e w2 ⟨rfl, hb2⟩
    have hx2 : w2.cell? ⟨w.heap.size, 0, none⟩ = some (.slice a n c) := (hb2.cell z1).trans hx
    have HB2 : Hid (Below w.heap.size w w2) := HB1.out.trans (hb2.mono HB1.out.size)
    clear hb2
    by_cases hz : 0 ≤ z ∧ z < n
    · obtain ⟨k, rfl⟩ := Int.eq_ofNat_of_zero_le hz.1
      have hk : k < n := by omega
      have HH : Hid (HasN N n k) := ⟨hz.1, hz.2, HG.out⟩
      have t1 : (decide ((0 : Int) ≤ (k : Int)) && decide ((k : Int) ≤ (n : Int) - 1)) = true := by simp; omega
      rw [t1]
      clear hz t1
      go_wp2_with fail
      refine (l1Kids_any a c n k N _ n20 hk ((own_arg HO.out).below HB2.out)).mono ?_
      rintro e w3 ⟨v, rfl, ho, hb3⟩
      have HB3 : Hid (Below w.heap.size w w3) := HB2.out.trans (hb3.mono HB2.out.size)
      have HOW : Hid (w3.ownsRow w2.heap.size 3 1 v (kidsTo N k n).length (intCells (kidsTo N k n))) := ho
      clear hb3 ho
      go_wp2
      exact bodyPost_ret (v := .tuple #[v, .bool true]) (by simp [results, Tryd.results18, go_sem]) rfl (KidsIs.yes HH.out n20 HB2.out.size HOW.out HB3.out)
    · have HN : Hid (¬ HasN N n z) := fun h => hz ⟨h.1, h.2.1⟩
      have t1 : (decide ((0 : Int) ≤ z) && decide (z ≤ (n : Int) - 1)) = false := by
        rw [Bool.and_eq_false_iff]
        simp only [decide_eq_false_iff_not]
        omega
      rw [t1]
      clear hz t1
      go_wp2_with fail
      exact bodyPost_ret (v := .tuple #[.slice none 0 0, .bool false]) (by simp [results, Tryd.results18, go_sem]) rfl (KidsIs.no HN.out HB2.out)

set_option maxRecDepth 100000 in
set_option maxHeartbeats 1000000 in
theorem implKids_own (b n : Nat) (a : Option Addr) (c : Nat) (N : Nat → Nd) (z : Int) (w : World) (h : OwnAt w b (.slice a n c) n N) (hsm : SmallN n N) (htab : Tab w.heap.size w) :
    Calls Tryd.prog 19 #[.agg #[.slice a n c], .int .i64 z] w (KidsIs N n z w) := by
  have HO : Hid (OwnAt w b (.slice a n c) n N) := h
  have HSM : Hid (SmallN n N) := hsm
  have HTB : Hid (Tab w.heap.size w) := htab
  have n20 : n ≤ 2 ^ 20 := hsm.1
  have hbl : ∀ o, Below w.heap.size w (w.alloc o) := fun o => (Below.refl _ _).alloc (Nat.le_refl _) o
  clear h hsm htab
  obtain ⟨i0, hi, hz0, hz1, hz2⟩ := info_parts infoInt
  have HI0 : Hid (Tryd.prog.info? 3 = some i0 ∧ i0.zero = some (.int .i64 0) ∧ i0.size = 1 ∧ i0.bytes = 8) := ⟨hi, hz0, hz1, hz2⟩
  clear hi hz0 hz1 hz2
  go_enter Tryd.func19, Tryd.ntmps19
  go_wp2_with fail
  refine (hasNode_own b n a c N z _ (HO.out.below (hbl _)) HSM.out (HTB.out.up (hbl _))).mono ?_
  rintro e w1 ⟨q, rfl, hq, hb1⟩
  have hx : w1.cell? ⟨w.heap.size, 0, none⟩ = some (.slice a n c) := by rw [hb1.cell (by simp)]; simp [go_sem]
  have HB1 : Hid (Below w.heap.size w w1) := (hbl _).trans (hb1.mono (by simp))
  have z1 : w.heap.size < w1.heap.size := by have := hb1.size; simp at this; omega
  clear hb1 hbl
  cases q with
  | false =>
    have HN : Hid (¬ HasN N n z) := fun h => by have := hq.2 h; simp at this
    clear hq
    go_wp2_with fail
    exact bodyPost_ret (v := .tuple #[.slice none 0 0, .bool false]) (by simp [results, Tryd.results19, go_sem]) rfl (KidsIs.no HN.out HB1.out)
  | true =>
    have hh : HasN N n z := hq.1 rfl
    obtain ⟨k, rfl⟩ := Int.eq_ofNat_of_zero_le hh.1
    have hk : k < n := by have := hh.2.1; omega
    have HH : Hid (HasN N n k) := hh
    have hs := hh.2.2.1
    have HP : Hid (Pre N n) := pre_of_place fun i hi => (hs.2.2 i hi).2.1
    obtain ⟨b', off, rfl, hb', hat⟩ : ∃ b off, a = some ⟨b, off, none⟩ ∧ b < w.heap.size ∧ NodesAt w b off n N := by
      rcases own_arg HO.out with h0 | h0
      · omega
      · exact h0
    have HAT : Hid (NodesAt w1 b' off n N) := hat.below HB1.out hb'
    clear hq hh hs hat
    have hb1' : b' < w1.heap.size := by omega
    go_wp2_with fail
    go_loopw [6, 16] (fun v i wr => ∃ j : Nat, j ≤ n ∧ i = .int .i64 j ∧ wr.ownsRow w1.heap.size 3 1 v (kidsTo N k j).length (intCells (kidsTo N k j)) ∧ Below w1.heap.size w1 wr) (fun _ i _ => n - (intOf i).toNat)
    case atStart => exact ⟨0, by omega, rfl, World.ownsRow_nil _ _ _ _, Below.refl _ _⟩
    case round =>
      obtain ⟨j, hj, rfl, hown, hnx⟩ := hrel
      have hww : w1.heap.size ≤ wr.heap.size := hnx.size
      by_cases hlt : j < n
      · obtain ⟨a0, a1, a2, a3, a4⟩ := HAT.out.below hnx hb1' j hlt
        have i1 : (0 : Int) ≤ (j : Int) := by omega
        have i2 : (j : Int) < (n : Int) := by omega
        have hbw : b' < wr.heap.size := by omega
        by_cases hu : (N j).up = k
        · have hub : ((N j).up == (k : Int)) = true := by simpa using hu
          have HU : Hid (k < j ∧ (N j).up = k) := by
            refine ⟨?_, hu⟩
            by_cases e : j = 0
            · subst e
              have := HP.out.1 (by omega)
              omega
            · have := (HP.out.2 j (by omega) hlt).2.1
              omega
          have hkl := kids_len N k j
          clear hu
          go_wp2_with (first | (at_builtin; refine wpList_append_own _ rfl _ _ 37 rfl w1.heap.size 3 i0 (.int .i64 0) 1 8 Tryd.underlying37 HI0.out.1 HI0.out.2.1 HI0.out.2.2.1 HI0.out.2.2.2 rfl (by decide) _ _ _ rfl ((hown.alloc _).alloc _) ⟨wr.heap.size + 1, 0, none⟩ 1 1 [.int .i64 (j : Int)] rfl rfl ?c1 ?c2 ?c3 ?c4 ?c5 ?_))
          case c1 =>
            intro jj u hjj
            have := one_news (wr.alloc (.cells #[.int .i64 (N j).kind, .int .i64 (N j).num, .string (N j).text, .string (N j).name, .int .i64 (N j).up] 52)) (.int .i64 (j : Int)) 3 jj u hjj
            rwa [show (wr.alloc (.cells #[.int .i64 (N j).kind, .int .i64 (N j).num, .string (N j).text, .string (N j).name, .int .i64 (N j).up] 52)).heap.size = wr.heap.size + 1 by simp] at this
          case c2 => exact one_cell_int _ _
          case c3 => unfold maxLen; omega
          case c4 => omega
          case c5 => simp; omega
          · intro v' w2 hown' hgrow _
            have HB : Hid (Below w1.heap.size w1 w2) := grow_below (hown.alloc _) _ (hnx.alloc hww _) (by simp; omega) hgrow
            have HO2 : Hid (w2.ownsRow w1.heap.size 3 1 v' (kidsTo N k (j + 1)).length (intCells (kidsTo N k (j + 1)))) := by
              show World.ownsRow _ _ _ _ _ _ _
              rw [kidsTo, if_pos HU.out, intCells_snoc, List.length_append]
              exact hown'
            clear hown hown' hgrow hnx
            go_wp2
            go_roundw
            case rel => exact ⟨j + 1, by omega, by go_num, HO2.out, HB.out⟩
            case measure => simp [intOf]; omega
        · have hub : ((N j).up == (k : Int)) = false := by simpa using hu
          have hks : kidsTo N k (j + 1) = kidsTo N k j := by rw [kidsTo, if_neg (fun h => hu h.2)]
          have HO2 : Hid (wr.ownsRow w1.heap.size 3 1 u6 (kidsTo N k (j + 1)).length (intCells (kidsTo N k (j + 1)))) := by
            show World.ownsRow _ _ _ _ _ _ _
            rw [hks]
            exact hown
          clear hks hown
          go_wp2
          go_roundw
          case rel => exact ⟨j + 1, by omega, by go_num, HO2.out.alloc _, hnx.alloc hww _⟩
          case measure => simp [intOf]; omega
      · have HO2 : Hid (wr.ownsRow w1.heap.size 3 1 u6 (kidsTo N k j).length (intCells (kidsTo N k j))) := hown
        clear hown
        go_wp2
        obtain rfl : j = n := by omega
        exact bodyPost_ret (v := .tuple #[u6, .bool true]) (by simp [results, Tryd.results19, go_sem]) rfl (KidsIs.yes HH.out n20 HB1.out.size HO2.out (HB1.out.trans (hnx.mono HB1.out.size)))

end Go.Proofs.YtplkmlbjgbgldaaDoor
