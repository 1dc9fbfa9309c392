/- Own rows of nodes, kept. No program. Whether a number lies between two, by the specification. Whether a value has a node. A node with all its own, by itself: the program's walk. What a path leads to: the program. The program's order of nodes and of rows of nodes. The program's order of values. What a term that stands alone answers, told by what GetAt answers. No program in this text. Whether two rows of nodes are the same: slices.Equal. Where a node's own nodes end: the program's endOf. Rows of nodes, cell by cell. No program. A cell of a row of nodes written. No program. Own rows: the empty one, and one that is not. No program. The nodes of a whole value as those of a part: the program's partAt, and slices.Clone of nodes. A region in a round of a range over a function goes as it goes elsewhere, where it defers nothing. No program in this text. -/
import Derived.Test.YtjohocnfcnjciaaGreatDoorQGoodOk
import Derived.Test.YtjohocnfcnjciaaGreatDoorGoodOwn
import Derived.Test.YtjohocnfcnjciaaGreatDoorLib
import Derived.Test.YtjohocnfcnjciaaGreatDoorBase
import Derived.Deep.RegionHeld3
import Derived.Deep.DeepFit
import Derived.Test.YtjohocnfcnjciaaGreatDoorQClF
import Derived.Test.YtjohocnfcnjciaaGreatDoorPlace
import Derived.Laws.StructEq
import Derived.Deep.RegionLaw
import Derived.Deep.QuietTactic
import Derived.BigQuiet
import Derived.Test.YtjohocnfcnjciaaGreatDoorTell
import Derived.Deep.AppendLies
import Derived.RangeFuncNested
import Derived.Deep.DeepCutAuto
import Derived.Deep.RegionWith
import Derived.Lib.AppendZeros
import Derived.Laws.OwnMore
namespace Go.Proofs.YtjohocnfcnjciaaGreatDoor
open Go.RowKit
set_option linter.unusedVariables false

theorem own_set {w : World} {B R x : Nat} {v u : Value} {L : List Nd} (h : OwnsN w B v L) (hR : R < B) : OwnsN (w.setCell ⟨R, x, none⟩ u) B v L := row_block h fun b hb _ _ => Below.heap_setCell _ _ _ _ (by show b ≠ R; omega)
theorem own_len {w : World} {B m : Nat} {v : Value} {L : List Nd} (h : OwnsN w B v L) (hm : L.length = m) : w.ownsRow B 94 5 v m (ndCells L) := by rw [← hm]; exact h
theorem own_set' {w : World} {B R x : Nat} {v u : Value} {L : List Nd} (h : OwnsN w B v L) (hR : R < B) : OwnsN (w.setCell ⟨R, x, none⟩ u) B v L := own_set h hR
theorem OwnsN.low {w : World} {B B' : Nat} {v : Value} {L : List Nd} (h : OwnsN w B v L) (hB : B' ≤ B) : OwnsN w B' v L := by
  refine ⟨h.1, ?_⟩
  rcases h.2 with hn | ⟨g, cap, cur, rfl, hb, rest⟩
  · exact .inl hn
  · exact .inr ⟨g, cap, cur, rfl, by omega, rest⟩
theorem Below.setR {B R x : Nat} {w w' : World} {u : Value} (h : Below B w w') (hR : B ≤ R) : Below B w (w'.setCell ⟨R, x, none⟩ u) := h.trans ⟨rfl, rfl, rfl, by simp, fun b hb => Below.heap_setCell _ _ _ _ (by show b ≠ R; omega)⟩

theorem grown_none {w w' : World} (h : w.grownBy w' none) : Below w.heap.size w w' := ⟨h.os, h.tape, h.output, h.size, fun b hb => h.block b hb (by simp)⟩

end Go.Proofs.YtjohocnfcnjciaaGreatDoor
namespace Go.Proofs.YtjohocnfcnjciaaGreatDoor
open Go.RowKit
set_option linter.unusedVariables false

set_option maxRecDepth 100000 in
set_option maxHeartbeats 1000000 in
theorem l1In_any (x lo hi : Int) (w : World) : Calls Tryz.prog 49 #[.int .i64 x, .int .i64 lo, .int .i64 hi] w fun e w' => e = .returned (.bool (decide (lo ≤ x) && decide (x ≤ hi))) ∧ Below w.heap.size w w' := by
  by_cases h0 : lo ≤ x
  · go_enter Tryz.func49, Tryz.ntmps49
    go_wp2
    go_ret
    exact ⟨by simp [h0], by go_grown⟩
  · go_enter Tryz.func49, Tryz.ntmps49
    go_wp2
    go_ret
    have h1 : decide (lo ≤ x) = false := decide_eq_false (by omega)
    exact ⟨by rw [h1]; rfl, by go_grown⟩

end Go.Proofs.YtjohocnfcnjciaaGreatDoor
namespace Go.Proofs.YtjohocnfcnjciaaGreatDoor
open Go.RowKit
set_option linter.unusedVariables false


set_option maxRecDepth 100000 in
set_option maxHeartbeats 1000000 in
theorem hasNode_own (b n : Nat) (a : Option Addr) (c : Nat) (N : Nat → Nd) (z : Int) (w : World) (h : OwnAt w b (.slice a n c) n N) (hsm : SmallN n N) (htab : Tab w.heap.size w) :
    Calls Tryz.prog 178 #[.agg #[.slice a n c], .int .i64 z] w (BoolIs (HasN N n z) w) := by
  have HO : Hid (OwnAt w b (.slice a n c) n N) := h
  have HSM : Hid (SmallN n N) := hsm
  have HTB : Hid (Tab w.heap.size w) := htab
  have hbl : ∀ o, Below w.heap.size w (w.alloc o) := fun o => (Below.refl _ _).alloc (Nat.le_refl _) o
  have n20 : n ≤ 2 ^ 20 := hsm.1
  clear h hsm htab
  by_cases h0 : 0 ≤ z
  · by_cases h1 : z < n
    · go_enter Tryz.func178, Tryz.ntmps178
      go_wp2_with fail
      refine (implGood_own b n a c N _ (HO.out.below (hbl _)) HSM.out (HTB.out.up (hbl _))).mono ?_
      rintro e w1 ⟨q, rfl, hq, hb1⟩
      have HB1 : Hid (Below w.heap.size w w1) := (hbl _).trans (hb1.mono (by simp))
      have HQ : Hid (q = true ↔ HasN N n z) := ⟨fun h => ⟨h0, h1, hq.1 h⟩, fun h => hq.2 h.2.2⟩
      clear hb1 hbl hq
      go_wp2
      go_ret
      exact BoolIs.of HQ.out HB1.out
    · have HN : Hid (¬ HasN N n z) := fun h => h1 h.2.1
      go_enter Tryz.func178, Tryz.ntmps178
      go_wp2_with fail
      go_ret
      exact BoolIs.no HN.out (by go_grown)
  · have HN : Hid (¬ HasN N n z) := fun h => h0 h.1
    go_enter Tryz.func178, Tryz.ntmps178
    go_wp2_with fail
    go_ret
    exact BoolIs.no HN.out (by go_grown)

end Go.Proofs.YtjohocnfcnjciaaGreatDoor
namespace Go.Proofs.YtjohocnfcnjciaaGreatDoor
open Go.RowKit
set_option linter.unusedVariables false

set_option maxRecDepth 100000 in
set_option maxHeartbeats 1000000 in
theorem implSub_own (b n : Nat) (a : Option Addr) (c : Nat) (N : Nat → Nd) (z : Int) (w : World) (h : OwnAt w b (.slice a n c) n N) (hsm : SmallN n N) (htab : Tab w.heap.size w) (hcap : n ≤ c) :
    Calls Tryz.prog 170 #[.agg #[.slice a n c], .int .i64 z] w (SubIs N n z w) := by
  have HO : Hid (OwnAt w b (.slice a n c) n N) := h
  have HSM : Hid (SmallN n N) := hsm
  have HTB : Hid (Tab w.heap.size w) := htab
  have n20 : n ≤ 2 ^ 20 := hsm.1
  have hbl : ∀ o o', Below w.heap.size w ((w.alloc o).alloc o') := fun o o' => ((Below.refl _ _).alloc (Nat.le_refl _) o).alloc (by simp) o'
  clear h hsm htab
  obtain ⟨iN, hi, hz0, hz1, hz2⟩ := info_parts infoNode5
  have HI : Hid (Tryz.prog.info? 94 = some iN ∧ iN.zero = some (.agg #[.int .i64 0, .int .i64 0, .string ⟨#[]⟩, .string ⟨#[]⟩, .int .i64 0]) ∧ iN.size = 5 ∧ iN.bytes = 56) := ⟨hi, hz0, hz1, hz2⟩
  clear hi hz0 hz1 hz2
  go_enter Tryz.func170, Tryz.ntmps170
  go_wp2_with fail
  refine (hasNode_own b n a c N z _ (HO.out.below (hbl _ _)) HSM.out (HTB.out.up (hbl _ _))).mono ?_
  rintro e w1 ⟨q, rfl, hq, hb1⟩
  have hx : w1.cell? ⟨w.heap.size, 0, none⟩ = some (.slice a n c) := by rw [hb1.cell (by simp; omega)]; simp [go_sem]
  have hr1 : w1.cell? ⟨w.heap.size + 1, 0, none⟩ = some (.slice none 0 0) := by rw [hb1.cell (by simp)]; simp [go_sem]
  have hr2 : w1.frozen? ⟨w.heap.size + 1, 0, none⟩ = false := by rw [hb1.frozen (by simp)]; simp [go_sem]
  have HB1 : Hid (Below w.heap.size w w1) := (hbl _ _).trans (hb1.mono (by simp; omega))
  have z1 : w.heap.size < w1.heap.size := by have := hb1.size; simp at this; omega
  have zR : w.heap.size + 1 < w1.heap.size := by have := hb1.size; simp at this; omega
  clear hb1 hbl
  cases q with
  | false =>
    have HN : Hid (¬ HasN N n z) := fun h => by have := hq.2 h; simp at this
    clear hq
    go_wp2_with fail
    exact bodyPost_ret (v := .tuple #[.agg #[.slice none 0 0], .bool false]) (by simp [results, Tryz.results170, go_sem, hr1]) rfl (SubIs.no HN.out (Below.setR HB1.out (by omega)))
  | true =>
    have hh : HasN N n z := hq.1 rfl
    obtain ⟨k, rfl⟩ := Int.eq_ofNat_of_zero_le hh.1
    have hk : k < n := by have := hh.2.1; omega
    have HH : Hid (HasN N n k) := hh
    have hs := hh.2.2.1
    have HP : Hid (Pre N n) := pre_of_place fun i hi => (hs.2.2 i hi).2.1
    obtain ⟨b', off, rfl, hb', hat⟩ : ∃ b off, a = some ⟨b, off, none⟩ ∧ b < w.heap.size ∧ NodesAt w b off n N := by
      rcases own_arg HO.out with h0 | h0
      · omega
      · exact h0
    have HAT : Hid (NodesAt w1 b' off n N) := hat.below HB1.out hb'
    clear hq hh hs hat
    have hb1' : b' < w1.heap.size := by omega
    obtain ⟨a0, a1, a2, a3, a4⟩ := HAT.out k hk
    have i0 : (0 : Int) ≤ (k : Int) := by omega
    have i1 : (k : Int) < (n : Int) := by omega
    have i2 : (k : Int) + 1 ≤ (n : Int) := by omega
    have HSG : Hid (∀ j, subTo N k (k + 1 + (j + 1)) = subTo N k (k + 1 + j) ++ [{ N (k + 1 + j) with up := (N (k + 1 + j)).up - k }]) := fun j => by have := subTo_snoc (N := N) (k := k) (q := k + 1 + j) (by omega); exact this
    have HST : Hid (∀ W : World, W.heap.size = w1.heap.size → OwnsN ((W.alloc (.cells #[.int .i64 (N k).kind, .int .i64 (N k).num, .string (N k).text, .string ⟨#[]⟩, .int .i64 (-1)] 94)).alloc (.cells #[.int .i64 (N k).kind, .int .i64 (N k).num, .string (N k).text, .string ⟨#[]⟩, .int .i64 (-1)] 94)) w1.heap.size (.slice (some ⟨w1.heap.size + 1, 0, none⟩) 1 1) (subTo N k (k + 1))) := by
      intro W hW
      rw [← hW]
      refine ⟨by rw [subTo_len]; simp [subTo, seg_nil, ndCells], .inr ⟨W.heap.size + 1, 1, #[.int .i64 (N k).kind, .int .i64 (N k).num, .string (N k).text, .string ⟨#[]⟩, .int .i64 (-1)], by rw [subTo_len]; simp, by omega, ?_, by rw [subTo_len]; simp, by unfold maxLen; omega, rfl, ?_⟩⟩
      · have := heap_alloc_new (W.alloc (.cells #[.int .i64 (N k).kind, .int .i64 (N k).num, .string (N k).text, .string ⟨#[]⟩, .int .i64 (-1)] 94)) (.cells #[.int .i64 (N k).kind, .int .i64 (N k).num, .string (N k).text, .string ⟨#[]⟩, .int .i64 (-1)] 94)
        rw [World.size_alloc] at this
        exact this
      · rw [subTo_len]
        simp [subTo, seg_nil, ndCells]
    have hal2 : ∀ o o', Below w1.heap.size w1 ((w1.alloc o).alloc o') := fun o o' => ((Below.refl _ _).alloc (Nat.le_refl _) o).alloc (by simp) o'
    have HS2 : Hid (HasN N n k ∧ n ≤ 2 ^ 20) := ⟨HH.out, n20⟩
    have HPN : Hid (∀ i, 0 < i → i < n → 0 ≤ (N i).up ∧ (N i).up < i) := fun i h1 h2 => ⟨(HP.out.2 i h1 h2).1, (HP.out.2 i h1 h2).2.1⟩
    by_cases hlast : c = k + 1
    · have hnk : n = k + 1 := by omega
      subst hnk
      subst hlast
      have HE : Hid (IsEnd N (k + 1) k (k + 1)) := ⟨by omega, Nat.le_refl _, fun i h1 h2 => by omega, fun h => by omega⟩
      have s0 : k + 1 - (k + 1) = 0 := by omega
      go_wp2_with fail
      go_rounds 1
      have q3 := fun o o' => ((hal2 o o').cell (p := ⟨w.heap.size + 1, 0, none⟩) zR).trans hr1
      have q4 := fun o o' => ((hal2 o o').frozen (p := ⟨w.heap.size + 1, 0, none⟩) zR).trans hr2
      have q5 : ∀ v o o', (((w1.setCell ⟨w.heap.size + 1, 0, none⟩ v).alloc o).alloc o').cell? ⟨w.heap.size + 1, 0, none⟩ = some v := fun v o o' => by
        rw [cell_past _ _ (by simp; omega), cell_past _ _ (by simp; omega), cell_set (by rw [hr1]; rfl), if_pos rfl]
      go_wp2_with fail
      exact bodyPost_ret (v := .tuple #[.agg #[.slice (some ⟨w1.heap.size + 1, 0, none⟩) 1 1], .bool true]) (by simp [results, Tryz.results170, go_sem, q5]) rfl (SubIs.yes HS2.out.1 HE.out HB1.out.size HS2.out.2 (HST.out _ (by simp)) (((Below.setR HB1.out (by omega)).alloc (by simp; omega) _).alloc (by simp; omega) _))
    · go_wp2_with fail
      go_loopw [7, 30] (fun v i wr => ∃ (j : Nat) (am : Option Addr) (dm : Nat), j ≤ n - (k + 1) ∧ i = .int .i64 j ∧ v = .slice am (j + 1) dm ∧ Hid (OwnsN wr w1.heap.size (.slice am (j + 1) dm) (subTo N k (k + 1 + j))) ∧ Hid (∀ i, k < i → i < k + 1 + j → (k : Int) ≤ (N i).up) ∧ Below w1.heap.size w1 wr) (fun _ i _ => n - (k + 1) - (intOf i).toNat)
      case atStart => exact ⟨0, _, _, Nat.zero_le _, rfl, rfl, HST.out w1 rfl, fun i h1 h2 => by omega, hal2 _ _⟩
      case round =>
        obtain ⟨j, am, dm, hj, rfl, rfl, HOJ, HUP, hnx⟩ := hrel
        have hzw := hnx.size
        have q1 : wr.cell? ⟨w.heap.size + 1, 0, none⟩ = some (.slice none 0 0) := (hnx.cell zR).trans hr1
        have q2 : wr.frozen? ⟨w.heap.size + 1, 0, none⟩ = false := (hnx.frozen zR).trans hr2
        have hRw : w.heap.size + 1 < wr.heap.size := by omega
        have q3 := fun o => (cell_past wr o (x := 0) hRw).trans q1
        have q4 := fun o => (frozen_past wr o (x := 0) hRw).trans q2
        have q5 : ∀ v o, ((wr.setCell ⟨w.heap.size + 1, 0, none⟩ v).alloc o).cell? ⟨w.heap.size + 1, 0, none⟩ = some v := fun v o => by
          rw [cell_past _ _ (by simp; omega), cell_set (by rw [q1]; rfl), if_pos rfl]
        by_cases hlt : j < n - (k + 1)
        · obtain ⟨e0, e1, e2, e3, e4⟩ := HAT.out.below hnx hb1' (k + 1 + j) (by omega)
          have eo : off + (k + 1 + j) * 5 = off + (k + 1) * 5 + j * 5 := by omega
          rw [eo] at e0 e1 e2 e3 e4
          have j0 : (0 : Int) ≤ (j : Int) := by omega
          have j1 : (j : Int) < ((n - (k + 1) : Nat) : Int) := by omega
          have hbw : b' < wr.heap.size := by omega
          obtain ⟨y, hy⟩ : ∃ y, y = N (k + 1 + j) := ⟨_, rfl⟩
          rw [← hy] at e0 e1 e2 e3 e4
          have HY : Hid (y = N (k + 1 + j)) := hy
          clear eo hy
          by_cases hu : y.up < (k : Int)
          · have HE : Hid (IsEnd N n k (k + 1 + j)) := ⟨by omega, by omega, HUP.out, fun _ => by rw [← HY.out]; exact hu⟩
            have hsl : (subTo N k (k + 1 + j)).length = j + 1 := by rw [subTo_len]; omega
            go_wp2_with fail
            exact bodyPost_ret (v := .tuple #[.agg #[.slice am (j + 1) dm], .bool true]) (by simp [results, Tryz.results170, go_sem, q5]) rfl (SubIs.yes HS2.out.1 HE.out HB1.out.size HS2.out.2 (World.ownsRow.alloc (own_set' HOJ.out zR) _) ((Below.setR (HB1.out.trans (hnx.mono HB1.out.size)) (by omega)).alloc (by simp; omega) _))
          · have hu' : ¬ y.up < (k : Int) := hu
            have hupb : (k : Int) ≤ y.up ∧ y.up < n := by
              have h1 := HPN.out (k + 1 + j) (by omega) (by omega)
              rw [← HY.out] at h1
              omega
            go_wp2_with (first | (at_builtin; refine wpList_append_own _ rfl _ _ 36 rfl w1.heap.size 94 iN _ 5 56 Tryz.underlying36 HI.out.1 HI.out.2.1 HI.out.2.2.1 HI.out.2.2.2 rfl (by decide) _ (j + 1) _ rfl (World.ownsRow.alloc (World.ownsRow.alloc (own_len HOJ.out (by rw [subTo_len]; omega)) _) _) ⟨wr.heap.size + 1, 0, none⟩ 1 1 [.int .i64 y.kind, .int .i64 y.num, .string y.text, .string y.name, .int .i64 (y.up - k)] rfl rfl ?c1 ?c2 ?c3 ?c4 ?c5 ?_))
            case c2 => first | exact ⟨rfl, rfl, rfl, rfl, rfl⟩ | exact nd_one _ _ _ _ _
            case c3 => unfold maxLen; omega
            case c4 => omega
            case c5 => first | omega | (simp; omega)
            intro v2 w2 hown2 hgrow _
            have HB2 : Hid (Below w1.heap.size w1 w2) := grow_below (World.ownsRow.alloc HOJ.out _) _ (hnx.alloc hzw _) (by simp; omega) hgrow
            have ho2 : OwnsN w2 w1.heap.size v2 (subTo N k (k + 1 + (j + 1))) := by
              unfold OwnsN
              rw [HSG.out j, nd_snoc, List.length_append, subTo_len, ← HY.out]
              have e1 : k + 1 + j - (k + 1) + 1 + [({ y with up := y.up - k } : Nd)].length = j + 1 + 1 := by simp
              rw [e1]
              exact hown2
            obtain ⟨a2, d2, rfl⟩ := ho2.form
            have hsl2 : (subTo N k (k + 1 + (j + 1))).length = j + 1 + 1 := by rw [subTo_len]; omega
            rw [hsl2] at ho2 ⊢
            have HO2 : Hid (OwnsN w2 w1.heap.size (.slice a2 (j + 1 + 1) d2) (subTo N k (k + 1 + (j + 1)))) := ho2
            have HU2 : Hid (∀ i, k < i → i < k + 1 + (j + 1) → (k : Int) ≤ (N i).up) := fun i h1 h2 => by
              by_cases e : i = k + 1 + j
              · rw [e, ← HY.out]; exact hupb.1
              · exact HUP.out i h1 (by omega)
            clear hown2 hgrow ho2 hsl2
            go_wp2_with fail
            go_roundw
            case rel => exact ⟨j + 1, a2, d2, by omega, by go_num, rfl, HO2, HU2, HB2.out⟩
            case measure => simp [intOf]; omega
        · have hjn : k + 1 + j = n := by omega
          have HE : Hid (IsEnd N n k (k + 1 + j)) := ⟨by omega, by omega, HUP.out, fun h => by omega⟩
          go_wp2_with fail
          exact bodyPost_ret (v := .tuple #[.agg #[.slice am (j + 1) dm], .bool true]) (by simp [results, Tryz.results170, go_sem, q1]) rfl (SubIs.yes HS2.out.1 HE.out HB1.out.size HS2.out.2 (own_set' HOJ.out zR) (Below.setR (HB1.out.trans (hnx.mono HB1.out.size)) (by omega)))

end Go.Proofs.YtjohocnfcnjciaaGreatDoor
namespace Go.Proofs.YtjohocnfcnjciaaGreatDoor
open Go.RowKit
set_option linter.unusedVariables false

/-- WHAT GetAt ANSWERS. -/
def GTold (N : Nat → Nd) (n : Nat) (s : ByteArray) (q : Bool) (L : List Nd) : Prop := (q = true ∧ AskedOf N n s ∧ ∃ k e, goN N n 0 (nmsL s) = some k ∧ IsEnd N n k e ∧ L = subTo N k e) ∨ (q = false ∧ ¬ (AskedOf N n s ∧ (goN N n 0 (nmsL s)).isSome = true) ∧ L = [])
theorem GTold.same {N : Nat → Nd} {n : Nat} {s : ByteArray} {q r : Bool} {L M : List Nd} (h : GTold N n s q L) (k : GTold N n s r M) : q = r ∧ L = M := by
  rcases h with ⟨rfl, g, x, e, hx, he, rfl⟩ | ⟨rfl, g, rfl⟩ <;> rcases k with ⟨rfl, g', x', e', hx', he', rfl⟩ | ⟨rfl, g', rfl⟩
  · obtain rfl : x = x' := Option.some.inj (hx.symm.trans hx')
    obtain rfl := end_unique he he'
    exact ⟨rfl, rfl⟩
  · exact absurd ⟨g, by rw [hx]; rfl⟩ g'
  · exact absurd ⟨g', by rw [hx']; rfl⟩ g
  · exact ⟨rfl, rfl⟩
def GetIs (N : Nat → Nd) (n : Nat) (s : ByteArray) (w : World) (e : Ending) (w' : World) : Prop :=
  ∃ v q b L, e = .returned (.tuple #[.agg #[v], .bool q]) ∧ GTold N n s q L ∧ (L ≠ [] → w.heap.size ≤ b ∧ b < w'.heap.size) ∧ OwnAt w' b v L.length (fun i => L.getD i ⟨0, 0, ⟨#[]⟩, ⟨#[]⟩, 0⟩) ∧ Below w.heap.size w w'
theorem GetIs.no {N : Nat → Nd} {n : Nat} {s : ByteArray} {w w' : World} (h : ¬ (AskedOf N n s ∧ (goN N n 0 (nmsL s)).isSome = true)) (hb : Below w.heap.size w w') : GetIs N n s w (.returned (.tuple #[.agg #[.slice none 0 0], .bool false])) w' :=
  ⟨_, _, 0, [], rfl, .inr ⟨rfl, h, rfl⟩, fun h => absurd rfl h, ⟨none, 0, 0, rfl, by decide, .inl rfl⟩, hb⟩
theorem GetIs.yes {N : Nat → Nd} {n k e B : Nat} {s : ByteArray} {w w' : World} {v : Value} (h : AskedOf N n s) (hk : goN N n 0 (nmsL s) = some k) (he : IsEnd N n k e) (hB : w.heap.size ≤ B) (hn : n ≤ 2 ^ 20) (ho : OwnsN w' B v (subTo N k e)) (hb : Below w.heap.size w w') : GetIs N n s w (.returned (.tuple #[.agg #[v], .bool true])) w' := by
  obtain ⟨b, h1, h2⟩ := ho.own (by rw [subTo_len]; have := he.2.1; omega)
  exact ⟨v, true, b, subTo N k e, rfl, .inl ⟨rfl, h, k, e, hk, he, rfl⟩, fun hn => ⟨Nat.le_trans hB (h1 hn).1, (h1 hn).2⟩, h2, hb⟩

theorem goN_lt {N : Nat → Nd} {n : Nat} : ∀ (l : List ByteArray) (k p : Nat), k < n → goN N n k l = some p → p < n := by
  intro l
  induction l with
  | nil => intro k p hk h; simp [goN] at h; omega
  | cons nm r ih =>
    intro k p hk h
    rw [goN] at h
    obtain ⟨q, hq, h'⟩ := Option.bind_eq_some_iff.1 h
    exact ih q p (kidsTo_mem (findP_kid hq)).2.1 h'

set_option maxRecDepth 100000 in
set_option maxHeartbeats 2000000 in
theorem implGet_own (b n : Nat) (a : Option Addr) (c : Nat) (N : Nat → Nd) (s : ByteArray) (w : World) (h : OwnAt w b (.slice a n c) n N) (hsm : SmallN n N) (htab : Tab w.heap.size w) (hcap : n ≤ c) (hml : ML w) :
    Calls Tryz.prog 165 #[.agg #[.slice a n c], .string s] w (GetIs N n s w) := by
  have HO : Hid (OwnAt w b (.slice a n c) n N) := h
  have HSM : Hid (SmallN n N) := hsm
  have HTB : Hid (Tab w.heap.size w) := htab
  have HML : Hid (ML w) := hml
  have n20 : n ≤ 2 ^ 20 := hsm.1
  have hbl : ∀ o o', Below w.heap.size w ((w.alloc o).alloc o') := fun o o' => ((Below.refl _ _).alloc (Nat.le_refl _) o).alloc (by simp) o'
  have h61 := names60 s.data.toList
  clear h hsm htab hml
  go_enter Tryz.func165, Tryz.ntmps165
  go_wp2_with fail
  refine (implPathOf_any s _ (HML.out.below (hbl _ _))).mono ?_
  rintro e w1 ⟨v1, g1, rfl, hg1, ho1, hb1⟩
  obtain ⟨a1, c1, rfl⟩ : ∃ a c, v1 = .slice a (namesN s.data.toList) c := by obtain ⟨a, c, rfl, _⟩ := ho1; exact ⟨a, c, rfl⟩
  have x1 : w1.cell? ⟨w.heap.size, 0, none⟩ = some (.slice a n c) := by rw [hb1.cell (by simp; omega)]; simp [go_sem]
  have r1 : w1.cell? ⟨w.heap.size + 1, 0, none⟩ = some (.slice none 0 0) := by rw [hb1.cell (by simp)]; simp [go_sem]
  have f1 : w1.frozen? ⟨w.heap.size + 1, 0, none⟩ = false := by rw [hb1.frozen (by simp)]; simp [go_sem]
  have HB1 : Hid (Below w.heap.size w w1) := (hbl _ _).trans (hb1.mono (by simp; omega))
  have z1 : w.heap.size < w1.heap.size := by have := hb1.size; simp at this; omega
  have zR : w.heap.size + 1 < w1.heap.size := by have := hb1.size; simp at this; omega
  have HNM : Hid (ArgS w1 a1 (namesN s.data.toList) (namesF s.data.toList)) := ho1.arg
  clear hb1 hbl ho1 hg1
  cases hp : (namesL s.data.toList).isSome with
  | false =>
    have HN : Hid (¬ (AskedOf N n s ∧ (goN N n 0 (nmsL s)).isSome = true)) := fun h => by have := h.1.2; rw [hp] at this; simp at this
    go_wp2_with fail
    exact bodyPost_ret (v := .tuple #[.agg #[.slice none 0 0], .bool false]) (by simp [results, Tryz.results165, go_sem, r1]) rfl (GetIs.no HN.out (Below.setR HB1.out (by omega)))
  | true =>
    go_wp2_with fail
    refine (implGood_own b n a c N _ (HO.out.below HB1.out) HSM.out (HTB.out.up HB1.out)).mono ?_
    rintro e w2 ⟨q, rfl, hq, hb2⟩
    have x2 : w2.cell? ⟨w.heap.size, 0, none⟩ = some (.slice a n c) := (hb2.cell z1).trans x1
    have r2 : w2.cell? ⟨w.heap.size + 1, 0, none⟩ = some (.slice none 0 0) := (hb2.cell zR).trans r1
    have f2 : w2.frozen? ⟨w.heap.size + 1, 0, none⟩ = false := (hb2.frozen zR).trans f1
    have HB2 : Hid (Below w.heap.size w w2) := HB1.out.trans (hb2.mono HB1.out.size)
    have HNM2 : Hid (ArgS w2 a1 (namesN s.data.toList) (namesF s.data.toList)) := HNM.out.below hb2
    have z2 : w.heap.size < w2.heap.size := Nat.lt_of_lt_of_le z1 hb2.size
    have zR2 : w.heap.size + 1 < w2.heap.size := Nat.lt_of_lt_of_le zR hb2.size
    clear hb2
    cases q with
    | false =>
      have HN : Hid (¬ (AskedOf N n s ∧ (goN N n 0 (nmsL s)).isSome = true)) := fun h => by have := hq.2 h.1.1; simp at this
      clear hq
      go_wp2_with fail
      exact bodyPost_ret (v := .tuple #[.agg #[.slice none 0 0], .bool false]) (by simp [results, Tryz.results165, go_sem, r2]) rfl (GetIs.no HN.out (Below.setR HB2.out (by omega)))
    | true =>
      have HG : Hid (GoodV N n) := hq.1 rfl
      have HAS : Hid (AskedOf N n s) := ⟨HG.out, hp⟩
      clear hq
      obtain ⟨b1, o1, rfl, hb1, hat1⟩ := own_some HO.out HG.out.1.1
      have HT1 : Hid (NodesAt w2 b1 o1 n N) := hat1.below HB2.out hb1
      have hbz : b1 < w2.heap.size := Nat.lt_of_lt_of_le hb1 HB2.out.size
      clear hat1
      go_wp2_with fail
      refine (nodeAt_any b1 o1 c n N a1 c1 (namesN s.data.toList) (namesF s.data.toList) _ HG.out.1.2.1 HG.out.1.1 (good_up HG.out) hbz HT1.out (by omega) HNM2.out).mono ?_
      rintro e w3 ⟨rfl, hb3⟩
      have x3 : w3.cell? ⟨w.heap.size, 0, none⟩ = some (.slice (some ⟨b1, o1, none⟩) n c) := (hb3.cell z2).trans x2
      have r3 : w3.cell? ⟨w.heap.size + 1, 0, none⟩ = some (.slice none 0 0) := (hb3.cell zR2).trans r2
      have f3 : w3.frozen? ⟨w.heap.size + 1, 0, none⟩ = false := (hb3.frozen zR2).trans f2
      have zR3 : w.heap.size + 1 < w3.heap.size := Nat.lt_of_lt_of_le zR2 hb3.size
      have HB3 : Hid (Below w.heap.size w w3) := HB2.out.trans (hb3.mono HB2.out.size)
      clear hb3
      rw [show lst (namesF s.data.toList) (namesN s.data.toList) = nmsL s from rfl]
      cases hgo : goN N n 0 (nmsL s) with
      | none =>
        have HN : Hid (¬ (AskedOf N n s ∧ (goN N n 0 (nmsL s)).isSome = true)) := fun h => by have := h.2; rw [hgo] at this; simp at this
        dsimp only [Option.isSome, Option.getD]
        go_wp2_with fail
        exact bodyPost_ret (v := .tuple #[.agg #[.slice none 0 0], .bool false]) (by simp [results, Tryz.results165, go_sem, r3]) rfl (GetIs.no HN.out (Below.setR HB3.out (by omega)))
      | some k =>
        have hk : k < n := goN_lt _ 0 k HG.out.1.1 hgo
        have HGO : Hid (goN N n 0 (nmsL s) = some k) := hgo
        have HH : Hid (HasN N n (k : Int)) := ⟨by omega, by omega, HG.out⟩
        dsimp only [Option.isSome, Option.getD]
        clear hgo
        go_wp2_with fail
        refine (implSub_own b n (some ⟨b1, o1, none⟩) c N (k : Int) _ (HO.out.below HB3.out) HSM.out (HTB.out.up HB3.out) hcap).mono ?_
        rintro e w4 ⟨v4, q4, b4, L4, rfl, hq4, hb4, ho4, hw4⟩
        obtain ⟨a4, c4, rfl⟩ := ho4.form
        have r4 : w4.cell? ⟨w.heap.size + 1, 0, none⟩ = some (.slice none 0 0) := (hw4.cell zR3).trans r3
        have f4 : w4.frozen? ⟨w.heap.size + 1, 0, none⟩ = false := (hw4.frozen zR3).trans f3
        obtain ⟨rfl, en, hen, rfl⟩ : q4 = true ∧ ∃ en, IsEnd N n k en ∧ L4 = subTo N k en := by
          rcases hq4 with ⟨rfl, _, en, he, rfl⟩ | ⟨_, hn, _⟩
          · exact ⟨rfl, en, by simpa using he, by simp⟩
          · exact absurd HH.out hn
        have HB4 : Hid (Below w.heap.size w w4) := HB3.out.trans (hw4.mono HB3.out.size)
        have HO4 : Hid (OwnAt w4 b4 (.slice a4 (subTo N k en).length c4) (subTo N k en).length (fun i => (subTo N k en).getD i ⟨0, 0, ⟨#[]⟩, ⟨#[]⟩, 0⟩)) := ho4
        have HL4 : Hid (subTo N k en ≠ [] → w3.heap.size ≤ b4 ∧ b4 < w4.heap.size) := hb4
        have HE : Hid (IsEnd N n k en) := hen
        have hne : subTo N k en ≠ [] := by unfold subTo; simp
        have hb4' := hb4 hne
        have hz3 := HB3.out.size
        clear hq4 hb4 ho4 hw4 hen
        go_wp2_with fail
        exact bodyPost_ret (v := .tuple #[.agg #[.slice a4 (subTo N k en).length c4], .bool true]) (by simp [results, Tryz.results165, go_sem, r4]) rfl ⟨_, _, b4, _, rfl, .inl ⟨rfl, HAS.out, k, en, HGO.out, HE.out, rfl⟩, fun _ => ⟨by omega, by simpa [World.setCell] using hb4'.2⟩, HO4.out.but (BelowBut.setCell (B := w4.heap.size) (b := w.heap.size + 1) _ _ _) (by omega), Below.setR HB4.out (by omega)⟩

end Go.Proofs.YtjohocnfcnjciaaGreatDoor
namespace Go.Proofs.YtjohocnfcnjciaaGreatDoor
open Go.RowKit
set_option linter.unusedVariables false

theorem cmpInt_is (x y : Int) : Lib.compareInt x y = intCmp x y := by
  unfold Lib.compareInt intCmp
  rfl

def orL : List Int → Int
  | [] => 0
  | a :: l => or2 a (orL l)
theorem orL_five (a b c d e : Int) : orL [a, b, c, d, e] = or2 a (or2 b (or2 c (or2 d e))) := by
  have : or2 e 0 = e := by unfold or2; split <;> simp_all
  simp [orL, this]

set_option maxRecDepth 100000 in
set_option maxHeartbeats 1000000 in
theorem cmpOr_any (bk c : Nat) (l : List Int) (w : World) (hl : l.length ≤ 100) (hcells : ∀ j, j < l.length → w.cell? ⟨bk, j, none⟩ = some (.int .i64 (l.getD j 0))) :
    Calls Tryz.prog 179 #[.slice (some ⟨bk, 0, none⟩) l.length c] w fun e w' => e = .returned (.int .i64 (orL l)) ∧ w' = w := by
  have HC : Hid (∀ j, j < l.length → w.cell? ⟨bk, j, none⟩ = some (.int .i64 (l.getD j 0))) := hcells
  clear hcells
  go_enter Tryz.func179, Tryz.ntmps179
  go_wp2_with fail
  go_loopw [8] (fun i wr => ∃ m : Nat, m ≤ l.length ∧ i = .int .i64 m ∧ Hid (orL l = orL (l.drop m)) ∧ wr = w) (fun i _ => l.length - (intOf i).toNat)
  case atStart => exact ⟨0, Nat.zero_le _, rfl, rfl, rfl⟩
  case round =>
    obtain ⟨m, hm, rfl, HO, rfl⟩ := hrel
    by_cases hlt : m < l.length
    · have hc := HC.out m hlt
      have hd : l.drop m = l.getD m 0 :: l.drop (m + 1) := by
        rw [List.drop_eq_getElem_cons hlt, List.getD_eq_getElem?_getD, List.getElem?_eq_getElem hlt]
        rfl
      obtain ⟨x, hx⟩ : ∃ x, x = l.getD m 0 := ⟨_, rfl⟩
      rw [← hx] at hc hd
      have j0 : (0 : Int) ≤ (m : Int) := by omega
      have j1 : (m : Int) < (l.length : Int) := by omega
      by_cases h0 : x = 0
      · have HO2 : Hid (orL l = orL (l.drop (m + 1))) := by
          show _ = _
          rw [HO.out, hd, orL, h0, or2_zero]
        subst h0
        clear hd hx
        go_wp2_with fail
        go_roundw
        case rel => exact ⟨m + 1, by omega, by go_num, HO2, by trivial⟩
        case measure => simp [intOf]; omega
      · have HO2 : Hid (orL l = x) := by
          show _ = _
          rw [HO.out, hd, orL, or2_ne h0]
        have hb : (x == 0) = false := by simpa using h0
        clear hd hx
        go_wp2_with fail
        go_ret
        exact ⟨by rw [HO2.out]; rfl, rfl⟩
    · obtain rfl : m = l.length := by omega
      go_wp2_with fail
      go_ret
      exact ⟨by rw [HO.out, List.drop_length]; rfl, rfl⟩

theorem five_ints (W : World) (a b c d e : Int) (T : TypeId) (H : Nat) (hH : W.heap.size = H) : ∀ j, j < [a, b, c, d, e].length → (W.alloc (.cells #[.int .i64 a, .int .i64 b, .int .i64 c, .int .i64 d, .int .i64 e] T)).drew.cell? ⟨H, j, none⟩ = some (.int .i64 ([a, b, c, d, e].getD j 0)) := by
  intro j hj
  subst hH
  show (W.alloc (.cells #[.int .i64 a, .int .i64 b, .int .i64 c, .int .i64 d, .int .i64 e] T)).cell? _ = _
  rw [World.cell?_alloc_new]
  match j, hj with
  | 0, _ => rfl
  | 1, _ => rfl
  | 2, _ => rfl
  | 3, _ => rfl
  | 4, _ => rfl

set_option maxRecDepth 100000 in
set_option maxHeartbeats 4000000 in
theorem compareNodes_any (x y : Nd) (w : World) :
    Calls Tryz.prog 172 #[.agg #[.int .i64 x.kind, .int .i64 x.num, .string x.text, .string x.name, .int .i64 x.up], .agg #[.int .i64 y.kind, .int .i64 y.num, .string y.text, .string y.name, .int .i64 y.up]] w fun e w' => e = .returned (.int .i64 (ndCmp x y)) ∧ Below w.heap.size w w' := by
  have HR : Hid (orL [Lib.compareInt x.up y.up, Lib.compareBytes x.name.data.toList y.name.data.toList, Lib.compareInt x.kind y.kind, Lib.compareInt x.num y.num, Lib.compareBytes x.text.data.toList y.text.data.toList] = ndCmp x y) := by
    show _ = _
    rw [orL_five, cmpInt_is, cmpInt_is, cmpInt_is]
    rfl
  have z0 : w.heap.size < w.heap.size + 1 + 1 := by omega
  obtain ⟨W, hW⟩ : ∃ W, W = (w.alloc (.cells #[.int .i64 x.kind, .int .i64 x.num, .string x.text, .string x.name, .int .i64 x.up] 94)).alloc (.cells #[.int .i64 y.kind, .int .i64 y.num, .string y.text, .string y.name, .int .i64 y.up] 94) := ⟨_, rfl⟩
  have a0 : W.cell? ⟨w.heap.size, 0, none⟩ = some (.int .i64 x.kind) ∧ W.cell? ⟨w.heap.size, 1, none⟩ = some (.int .i64 x.num) ∧ W.cell? ⟨w.heap.size, 2, none⟩ = some (.string x.text) ∧ W.cell? ⟨w.heap.size, 3, none⟩ = some (.string x.name) ∧ W.cell? ⟨w.heap.size, 4, none⟩ = some (.int .i64 x.up) ∧
      W.cell? ⟨w.heap.size + 1, 0, none⟩ = some (.int .i64 y.kind) ∧ W.cell? ⟨w.heap.size + 1, 1, none⟩ = some (.int .i64 y.num) ∧ W.cell? ⟨w.heap.size + 1, 2, none⟩ = some (.string y.text) ∧ W.cell? ⟨w.heap.size + 1, 3, none⟩ = some (.string y.name) ∧ W.cell? ⟨w.heap.size + 1, 4, none⟩ = some (.int .i64 y.up) := by
    rw [hW]
    simp [go_sem]
  have hWz : W.heap.size = w.heap.size + 2 := by rw [hW]; simp
  have HBW : Hid (Below w.heap.size w W) := by rw [hW]; exact ((Below.refl _ _).alloc (Nat.le_refl _) _).alloc (by simp) _
  have HA : Hid (∀ o, (W.alloc o).cell? ⟨w.heap.size, 0, none⟩ = some (.int .i64 x.kind) ∧ (W.alloc o).cell? ⟨w.heap.size, 1, none⟩ = some (.int .i64 x.num) ∧ (W.alloc o).cell? ⟨w.heap.size, 2, none⟩ = some (.string x.text) ∧ (W.alloc o).cell? ⟨w.heap.size, 3, none⟩ = some (.string x.name) ∧ (W.alloc o).cell? ⟨w.heap.size, 4, none⟩ = some (.int .i64 x.up) ∧
      (W.alloc o).cell? ⟨w.heap.size + 1, 0, none⟩ = some (.int .i64 y.kind) ∧ (W.alloc o).cell? ⟨w.heap.size + 1, 1, none⟩ = some (.int .i64 y.num) ∧ (W.alloc o).cell? ⟨w.heap.size + 1, 2, none⟩ = some (.string y.text) ∧ (W.alloc o).cell? ⟨w.heap.size + 1, 3, none⟩ = some (.string y.name) ∧ (W.alloc o).cell? ⟨w.heap.size + 1, 4, none⟩ = some (.int .i64 y.up)) := fun o => by
    have e : ∀ x, (W.alloc o).cell? ⟨w.heap.size, x, none⟩ = W.cell? ⟨w.heap.size, x, none⟩ := fun x => World.cell?_of_block (heap_alloc_old _ _ (by show w.heap.size < _; omega))
    have e' : ∀ x, (W.alloc o).cell? ⟨w.heap.size + 1, x, none⟩ = W.cell? ⟨w.heap.size + 1, x, none⟩ := fun x => World.cell?_of_block (heap_alloc_old _ _ (by show w.heap.size + 1 < _; omega))
    simp only [e, e']
    exact a0
  have H0 : Hid (W.cell? ⟨w.heap.size, 0, none⟩ = some (.int .i64 x.kind) ∧ W.cell? ⟨w.heap.size, 1, none⟩ = some (.int .i64 x.num) ∧ W.cell? ⟨w.heap.size, 2, none⟩ = some (.string x.text) ∧ W.cell? ⟨w.heap.size, 3, none⟩ = some (.string x.name) ∧ W.cell? ⟨w.heap.size, 4, none⟩ = some (.int .i64 x.up) ∧
      W.cell? ⟨w.heap.size + 1, 0, none⟩ = some (.int .i64 y.kind) ∧ W.cell? ⟨w.heap.size + 1, 1, none⟩ = some (.int .i64 y.num) ∧ W.cell? ⟨w.heap.size + 1, 2, none⟩ = some (.string y.text) ∧ W.cell? ⟨w.heap.size + 1, 3, none⟩ = some (.string y.name) ∧ W.cell? ⟨w.heap.size + 1, 4, none⟩ = some (.int .i64 y.up)) := a0
  clear a0
  have HW : Hid (W = (w.alloc (.cells #[.int .i64 x.kind, .int .i64 x.num, .string x.text, .string x.name, .int .i64 x.up] 94)).alloc (.cells #[.int .i64 y.kind, .int .i64 y.num, .string y.text, .string y.name, .int .i64 y.up] 94)) := hW
  clear hW
  go_enter Tryz.func172, Tryz.ntmps172
  go_wp2_with fail
  rw [← HW.out]
  go_region_held3 (fun w' => w'.cell? ⟨w.heap.size, 0, none⟩ = some (.int .i64 x.kind) ∧ w'.cell? ⟨w.heap.size, 1, none⟩ = some (.int .i64 x.num) ∧ w'.cell? ⟨w.heap.size, 2, none⟩ = some (.string x.text) ∧ w'.cell? ⟨w.heap.size, 3, none⟩ = some (.string x.name) ∧ w'.cell? ⟨w.heap.size, 4, none⟩ = some (.int .i64 x.up) ∧
      w'.cell? ⟨w.heap.size + 1, 0, none⟩ = some (.int .i64 y.kind) ∧ w'.cell? ⟨w.heap.size + 1, 1, none⟩ = some (.int .i64 y.num) ∧ w'.cell? ⟨w.heap.size + 1, 2, none⟩ = some (.string y.text) ∧ w'.cell? ⟨w.heap.size + 1, 3, none⟩ = some (.string y.name) ∧ w'.cell? ⟨w.heap.size + 1, 4, none⟩ = some (.int .i64 y.up)) (first | exact H0.out | exact HA.out _)
    (first | (go_at_call 180; refine (Tryz.cmp_Compare_int _ _ _).mono ?_; rintro e w' ⟨rfl, rfl⟩) | (go_at_call 181; refine (Tryz.strings_Compare _ _ _).mono ?_; rintro e w' ⟨rfl, rfl⟩) | (go_at_call 179; go_fit (cmpOr_any (w.heap.size + 2) 5 [Lib.compareInt x.up y.up, Lib.compareBytes x.name.data.toList y.name.data.toList, Lib.compareInt x.kind y.kind, Lib.compareInt x.num y.num, Lib.compareBytes x.text.data.toList y.text.data.toList] _ (by simp) (five_ints W _ _ _ _ _ _ _ hWz)); rintro e w' ⟨rfl, rfl⟩))
  go_wp2_with fail
  go_ret
  exact ⟨by rw [HR.out]; rfl, HBW.out.trans (((Below.refl _ _).alloc (by omega) _).drew)⟩

end Go.Proofs.YtjohocnfcnjciaaGreatDoor
namespace Go.Proofs.YtjohocnfcnjciaaGreatDoor
open Go.RowKit
set_option linter.unusedVariables false

/-- The nodes from m on. -/
def from_ (N : Nat → Nd) (n m : Nat) : List Nd := (List.range' m (n - m)).map N
theorem from_cons {N : Nat → Nd} {n m : Nat} (h : m < n) : from_ N n m = N m :: from_ N n (m + 1) := by
  unfold from_
  rw [show n - m = (n - (m + 1)) + 1 by omega, List.range'_succ]
  rfl
theorem from_end {N : Nat → Nd} {n m : Nat} (h : n ≤ m) : from_ N n m = [] := by
  unfold from_
  rw [show n - m = 0 by omega]
  rfl
theorem from_zero (N : Nat → Nd) (n : Nat) : from_ N n 0 = (List.range n).map N := by
  unfold from_
  rw [List.range_eq_range', Nat.sub_zero]

set_option maxRecDepth 100000 in
set_option maxHeartbeats 2000000 in
theorem compareFunc_any (b1 o1 c1 n1 b2 o2 c2 n2 : Nat) (N1 N2 : Nat → Nd) (w : World) (hn1 : n1 ≤ 2 ^ 20) (hn2 : n2 ≤ 2 ^ 20) (hb1 : b1 < w.heap.size) (hb2 : b2 < w.heap.size) (h1 : NodesAt w b1 o1 n1 N1) (h2 : NodesAt w b2 o2 n2 N2) :
    Calls Tryz.prog 171 #[.slice (some ⟨b1, o1, none⟩) n1 c1, .slice (some ⟨b2, o2, none⟩) n2 c2, (.func (.func 172) #[] #[])] w fun e w' => e = .returned (.int .i64 (lexN (from_ N1 n1 0) (from_ N2 n2 0))) ∧ Below w.heap.size w w' := by
  have H1 : Hid (NodesAt w b1 o1 n1 N1) := h1
  have H2 : Hid (NodesAt w b2 o2 n2 N2) := h2
  clear h1 h2
  go_enter Tryz.func171, Tryz.ntmps171
  go_wp2_with fail
  go_loopw [13] (fun i wr => ∃ m : Nat, m ≤ n1 ∧ m ≤ n2 ∧ i = .int .i64 m ∧ Hid (lexN (from_ N1 n1 0) (from_ N2 n2 0) = lexN (from_ N1 n1 m) (from_ N2 n2 m)) ∧ Below w.heap.size w wr) (fun i _ => n1 - (intOf i).toNat)
  case atStart => exact ⟨0, Nat.zero_le _, Nat.zero_le _, rfl, rfl, Below.refl _ _⟩
  case round =>
    obtain ⟨m, hm1, hm2, rfl, HL, hnx⟩ := hrel
    have hz := hnx.size
    by_cases hlt : m < n1
    · obtain ⟨a0, a1, a2, a3, a4⟩ := H1.out.below hnx hb1 m hlt
      have j0 : (0 : Int) ≤ (m : Int) := by omega
      have j1 : (m : Int) < (n1 : Int) := by omega
      have hbw1 : b1 < wr.heap.size := by omega
      have hbw2 : b2 < wr.heap.size := by omega
      by_cases hlt2 : m < n2
      · obtain ⟨d0, d1, d2, d3, d4⟩ := H2.out.below hnx hb2 m hlt2
        have j2 : (m : Int) < (n2 : Int) := by omega
        have j3 : ¬ (n2 : Int) ≤ (m : Int) := by omega
        have HS : Hid (lexN (from_ N1 n1 0) (from_ N2 n2 0) = or2 (ndCmp (N1 m) (N2 m)) (lexN (from_ N1 n1 (m + 1)) (from_ N2 n2 (m + 1)))) := by
          show _ = _
          rw [HL.out, from_cons hlt, from_cons hlt2, lexN]
        obtain ⟨C, hC⟩ : ∃ C, C = ndCmp (N1 m) (N2 m) := ⟨_, rfl⟩
        have HC : Hid (C = ndCmp (N1 m) (N2 m)) := hC
        clear hC
        go_wp2_with fail
        refine (compareNodes_any (N1 m) (N2 m) _).mono ?_
        rintro e w2 ⟨rfl, hb2'⟩
        rw [← HC.out]
        rw [← HC.out] at HS
        have HB2 : Hid (Below w.heap.size w w2) := hnx.trans ((((Below.refl _ _).alloc (Nat.le_refl _) _).alloc (by simp) _).mono hz |>.trans (hb2'.mono (by simp; omega)))
        clear hb2'
        by_cases h0 : C = 0
        · subst h0
          rw [or2_zero] at HS
          go_wp2_with fail
          go_roundw
          case rel => exact ⟨m + 1, by omega, by omega, by go_num, HS, HB2.out⟩
          case measure => simp [intOf]; omega
        · have hb : (C == 0) = false := by simpa using h0
          rw [or2_ne h0] at HS
          go_wp2_with fail
          go_ret
          exact ⟨by rw [HS.out]; rfl, HB2.out⟩
      · obtain rfl : m = n2 := by omega
        have HS : Hid (lexN (from_ N1 n1 0) (from_ N2 m 0) = 1) := by
          show _ = _
          rw [HL.out, from_cons hlt, from_end (Nat.le_refl _)]
          rfl
        go_wp2_with fail
        go_ret
        exact ⟨by rw [HS.out]; rfl, hnx.trans (((Below.refl _ _).alloc (Nat.le_refl _) _).mono hz)⟩
    · obtain rfl : m = n1 := by omega
      by_cases hlt2 : m < n2
      · have j2 : (m : Int) < (n2 : Int) := by omega
        have HS : Hid (lexN (from_ N1 m 0) (from_ N2 n2 0) = -1) := by
          show _ = _
          rw [HL.out, from_cons hlt2, from_end (Nat.le_refl _)]
          rfl
        go_wp2_with fail
        go_ret
        exact ⟨by rw [HS.out]; rfl, hnx⟩
      · have j2 : ¬ (m : Int) < (n2 : Int) := by omega
        have HS : Hid (lexN (from_ N1 m 0) (from_ N2 n2 0) = 0) := by
          show _ = _
          rw [HL.out, from_end (Nat.le_refl _), from_end (by omega)]
          rfl
        go_wp2_with fail
        go_ret
        exact ⟨by rw [HS.out]; rfl, hnx⟩

set_option maxRecDepth 100000 in
set_option maxHeartbeats 1000000 in
theorem compareValues_any (b1 o1 c1 n1 b2 o2 c2 n2 : Nat) (N1 N2 : Nat → Nd) (w : World) (hn1 : n1 ≤ 2 ^ 20) (hn2 : n2 ≤ 2 ^ 20) (hb1 : b1 < w.heap.size) (hb2 : b2 < w.heap.size) (h1 : NodesAt w b1 o1 n1 N1) (h2 : NodesAt w b2 o2 n2 N2) :
    Calls Tryz.prog 166 #[.agg #[.slice (some ⟨b1, o1, none⟩) n1 c1], .agg #[.slice (some ⟨b2, o2, none⟩) n2 c2]] w fun e w' => e = .returned (.int .i64 (lexN (from_ N1 n1 0) (from_ N2 n2 0))) ∧ Below w.heap.size w w' := by
  have H1 : Hid (NodesAt w b1 o1 n1 N1) := h1
  have H2 : Hid (NodesAt w b2 o2 n2 N2) := h2
  clear h1 h2
  go_enter Tryz.func166, Tryz.ntmps166
  go_wp2_with fail
  have hb2' : ∀ o o', Below w.heap.size w ((w.alloc o).alloc o') := fun o o' => ((Below.refl _ _).alloc (Nat.le_refl _) o).alloc (by simp) o'
  refine (compareFunc_any b1 o1 c1 n1 b2 o2 c2 n2 N1 N2 _ hn1 hn2 (by simp; omega) (by simp; omega) (H1.out.below (hb2' _ _) hb1) (H2.out.below (hb2' _ _) hb2)).mono ?_
  rintro e w1 ⟨rfl, hb3⟩
  have HB : Hid (Below w.heap.size w w1) := (hb2' _ _).trans (hb3.mono (by simp; omega))
  clear hb3 hb2'
  go_wp2_with fail
  go_ret
  exact ⟨rfl, HB.out⟩

end Go.Proofs.YtjohocnfcnjciaaGreatDoor
namespace Go.Proofs.YtjohocnfcnjciaaGreatDoor
open Go.RowKit
set_option linter.unusedVariables false

theorem list_getD (L : List Nd) : (List.range L.length).map (fun i => L.getD i ⟨0, 0, ⟨#[]⟩, ⟨#[]⟩, 0⟩) = L := by
  refine List.ext_getElem (by simp) fun i h1 h2 => ?_
  simp [List.getD_eq_getElem?_getD, List.getElem?_eq_getElem h2]
/-- What GetAt answers, as a tree. -/
theorem gtold_tree {N : Nat → Nd} {n : Nat} {s : ByteArray} {q : Bool} {L : List Nd} (h : GTold N n s q L) (hg : GoodV N n) (hp : PathIs s) :
    (q = false ∧ getT (tree N n 0) (nmsL s) = none) ∨ (q = true ∧ ∃ k e, k < n ∧ IsEnd N n k e ∧ L = subTo N k e ∧ getT (tree N n 0) (nmsL s) = some (tree N n k)) := by
  have h0 := hg.1.1
  rcases h with ⟨rfl, _, k, e, hk, he, rfl⟩ | ⟨rfl, h1, rfl⟩
  · refine .inr ⟨rfl, k, e, goN_lt _ 0 k h0 hk, he, rfl, ?_⟩
    rw [get_go hg _ 0 h0, hk]
    rfl
  · refine .inl ⟨rfl, ?_⟩
    rw [get_go hg _ 0 h0]
    cases hh : goN N n 0 (nmsL s) with
    | none => rfl
    | some k => exact absurd ⟨⟨hg, hp⟩, by rw [hh]; rfl⟩ h1
theorem sub_cmp {N X : Nat → Nd} {n m k e : Nat} (hg : GoodV N n) (hk : k < n) (he : IsEnd N n k e) (hX : GoodV X m) : lexN (from_ (fun i => (subTo N k e).getD i ⟨0, 0, ⟨#[]⟩, ⟨#[]⟩, 0⟩) (subTo N k e).length 0) (from_ X m 0) = (tree N n k).cmp (tree X m 0) := by
  rw [← cmp_whole (good_okAt hg hk) (good_ok hX), good_flat hX, from_zero, from_zero, list_getD]
  rw [show (tree N n k).flat ByteArray.empty (-1) 0 = subTo N k e from tree_sub hg hk he]
theorem sub_head (N : Nat → Nd) (k e : Nat) : (subTo N k e).getD 0 ⟨0, 0, ⟨#[]⟩, ⟨#[]⟩, 0⟩ = ⟨(N k).kind, (N k).num, (N k).text, ⟨#[]⟩, -1⟩ := by unfold subTo; rfl
theorem tree_kind {N : Nat → Nd} {n k : Nat} (hk : k < n) : (tree N n k).kind = (N k).kind := by rw [tree_eq hk]; rfl

section
variable {kd : Int} {p : ByteArray} {m : Nat} {X : Nat → Nd} {u : Nat} {K : Nat → Int} {t y : Tr}
theorem leaf_none (h : getT t (nmsL p) = none) : leafM ⟨kd, p, m, X, u, K⟩ t = false := by unfold leafM; rw [h]
theorem leaf_eq (h : getT t (nmsL p) = some y) : leafM ⟨1, p, m, X, u, K⟩ t = (y.cmp (tree X m 0) == 0) := by
  unfold leafM
  rw [h]
  simp only [show ¬ (1 : Int) = 4 by decide, show ¬ (1 : Int) = 5 by decide, show ¬ (1 : Int) = 2 by decide, show ¬ (1 : Int) = 3 by decide, if_false]
  by_cases hk : y.kind = (tree X m 0).kind
  · rw [if_neg (fun hh => hh hk)]
  · rw [if_pos hk]
    cases hc : (y.cmp (tree X m 0) == 0) with
    | false => rfl
    | true => exact absurd (cmp_kind (by simpa using hc)) hk
theorem leaf_lt (h : getT t (nmsL p) = some y) : leafM ⟨2, p, m, X, u, K⟩ t = (decide (y.kind = (tree X m 0).kind) && decide (y.cmp (tree X m 0) < 0)) := by
  unfold leafM
  rw [h]
  simp only [show ¬ (2 : Int) = 4 by decide, show ¬ (2 : Int) = 5 by decide, if_false, if_true]
  by_cases hk : y.kind = (tree X m 0).kind
  · rw [if_neg (fun hh => hh hk)]; simp [hk]
  · rw [if_pos hk]; simp [hk]
theorem leaf_gt (h : getT t (nmsL p) = some y) : leafM ⟨3, p, m, X, u, K⟩ t = (decide (y.kind = (tree X m 0).kind) && decide (0 < y.cmp (tree X m 0))) := by
  unfold leafM
  rw [h]
  simp only [show ¬ (3 : Int) = 4 by decide, show ¬ (3 : Int) = 5 by decide, show ¬ (3 : Int) = 2 by decide, if_false, if_true]
  by_cases hk : y.kind = (tree X m 0).kind
  · rw [if_neg (fun hh => hh hk)]; simp [hk]
  · rw [if_pos hk]; simp [hk]
theorem leaf_has (h : getT t (nmsL p) = some y) : leafM ⟨4, p, m, X, u, K⟩ t = true := by
  unfold leafM
  rw [h]
  simp
theorem leaf_in (h : getT t (nmsL p) = some y) : leafM ⟨5, p, m, X, u, K⟩ t = (tree X m 0).kids.any fun x => y.cmp x == 0 := by
  unfold leafM
  rw [h]
  simp
end

end Go.Proofs.YtjohocnfcnjciaaGreatDoor
namespace Go.Proofs.YtjohocnfcnjciaaGreatDoor
open Go.RowKit
set_option linter.unusedVariables false

/-- A node's five cells. -/
def ndV (x : Nd) : Value := .agg #[.int .i64 x.kind, .int .i64 x.num, .string x.text, .string x.name, .int .i64 x.up]
def ndSame (x y : Nd) : Bool := x.kind == y.kind && x.num == y.num && (x.text.toList == y.text.toList) && (x.name.toList == y.name.toList) && x.up == y.up
theorem bytes_same {a b : ByteArray} : a.toList = b.toList ↔ a = b := by
  rw [ByteArray.toList_eq, ByteArray.toList_eq]
  constructor
  · intro h
    cases a; cases b
    simp_all
  · rintro rfl; rfl
theorem ndSame_iff {x y : Nd} : ndSame x y = true ↔ x = y := by
  unfold ndSame
  cases x; cases y
  simp [bytes_same]
  constructor
  · rintro ⟨⟨⟨⟨h1, h2⟩, h3⟩, h4⟩, h5⟩; exact ⟨h1, h2, h3, h4, h5⟩
  · rintro ⟨h1, h2, h3, h4, h5⟩; exact ⟨⟨⟨⟨h1, h2⟩, h3⟩, h4⟩, h5⟩
theorem eql_node (x y : Nd) (w : World) : Sem.run Tryz.prog (binOp .eql 94 (.agg #[.int .i64 x.kind, .int .i64 x.num, .string x.text, .string x.name, .int .i64 x.up]) (.agg #[.int .i64 y.kind, .int .i64 y.num, .string y.text, .string y.name, .int .i64 y.up])) w = .ok (.bool (ndSame x y)) w := by
  have u3 := Tryz.underlying3
  have a3 := Tryz.isAgg3
  have z3 := Tryz.sizeOf3
  have u9 := Tryz.underlying9
  have a9 := Tryz.isAgg9
  have z9 := Tryz.sizeOf9
  have hS : Tryz.prog.underlying 94 = some (.struct (Tryz.prog.fieldsOf 94)) := by kernel_rfl
  have hp : Tryz.prog.stoodInHeld 94 = false := by kernel_rfl
  rw [run_eql_struct, show (10000 : Nat) = 9999 + 1 from rfl, run_equalIn_agg w 9999 94 _ _ hS hp]
  simp only [Program.fieldsOf, Tryz.underlying94]
  go_simp
  unfold ndSame
  by_cases h1 : x.kind = y.kind <;> by_cases h2 : x.num = y.num <;> by_cases h3 : x.text.toList = y.text.toList <;> by_cases h4 : x.name.toList = y.name.toList <;> by_cases h5 : x.up = y.up <;> simp [h1, h2, h3, h4, h5]

theorem neq_node (x y : Nd) (w : World) : Sem.run Tryz.prog (binOp .neq 94 (.agg #[.int .i64 x.kind, .int .i64 x.num, .string x.text, .string x.name, .int .i64 x.up]) (.agg #[.int .i64 y.kind, .int .i64 y.num, .string y.text, .string y.name, .int .i64 y.up])) w = .ok (.bool (!ndSame x y)) w := by
  have u3 := Tryz.underlying3
  have a3 := Tryz.isAgg3
  have z3 := Tryz.sizeOf3
  have u9 := Tryz.underlying9
  have a9 := Tryz.isAgg9
  have z9 := Tryz.sizeOf9
  have hS : Tryz.prog.underlying 94 = some (.struct (Tryz.prog.fieldsOf 94)) := by kernel_rfl
  have hp : Tryz.prog.stoodInHeld 94 = false := by kernel_rfl
  rw [run_neq_struct, show (10000 : Nat) = 9999 + 1 from rfl, run_equalIn_agg w 9999 94 _ _ hS hp]
  simp only [Program.fieldsOf, Tryz.underlying94]
  go_simp
  unfold ndSame
  by_cases h1 : x.kind = y.kind <;> by_cases h2 : x.num = y.num <;> by_cases h3 : x.text.toList = y.text.toList <;> by_cases h4 : x.name.toList = y.name.toList <;> by_cases h5 : x.up = y.up <;> simp [h1, h2, h3, h4, h5]
theorem guard_node (op : BinOp) (a b : Operand) (x y : Nd) (w : World) : Sem.run Tryz.prog (eqGuard op 94 a b (.agg #[.int .i64 x.kind, .int .i64 x.num, .string x.text, .string x.name, .int .i64 x.up]) (.agg #[.int .i64 y.kind, .int .i64 y.num, .string y.text, .string y.name, .int .i64 y.up])) w = .ok () w :=
  run_eqGuard_agg w op 94 a b _ _ (by kernel_rfl)

set_option maxRecDepth 100000 in
set_option maxHeartbeats 2000000 in
theorem eqNodes_any (b1 o1 c1 n1 b2 o2 c2 n2 : Nat) (N1 N2 : Nat → Nd) (w : World) (hn1 : n1 ≤ 2 ^ 20) (hn2 : n2 ≤ 2 ^ 20) (hb1 : b1 < w.heap.size) (hb2 : b2 < w.heap.size) (h1 : NodesAt w b1 o1 n1 N1) (h2 : NodesAt w b2 o2 n2 N2) :
    Calls Tryz.prog 174 #[.slice (some ⟨b1, o1, none⟩) n1 c1, .slice (some ⟨b2, o2, none⟩) n2 c2] w fun e w' => ∃ q, e = .returned (.bool q) ∧ (q = true ↔ n1 = n2 ∧ ∀ i, i < n1 → N1 i = N2 i) ∧ Below w.heap.size w w' := by
  have H1 : Hid (NodesAt w b1 o1 n1 N1) := h1
  have H2 : Hid (NodesAt w b2 o2 n2 N2) := h2
  clear h1 h2
  by_cases hnn : n1 = n2
  · subst hnn
    go_enter Tryz.func174, Tryz.ntmps174
    go_wp2_with fail
    go_loopw [13] (fun i wr => ∃ m : Nat, m ≤ n1 ∧ i = .int .i64 m ∧ Hid (∀ j, j < m → N1 j = N2 j) ∧ Below w.heap.size w wr) (fun i _ => n1 - (intOf i).toNat)
    case atStart => exact ⟨0, Nat.zero_le _, rfl, fun j hj => by omega, Below.refl _ _⟩
    case round =>
      obtain ⟨m, hm1, rfl, HL, hnx⟩ := hrel
      have hz := hnx.size
      by_cases hlt : m < n1
      · obtain ⟨a0, a1, a2, a3, a4⟩ := H1.out.below hnx hb1 m hlt
        obtain ⟨d0, d1, d2, d3, d4⟩ := H2.out.below hnx hb2 m hlt
        have j0 : (0 : Int) ≤ (m : Int) := by omega
        have j1 : (m : Int) < (n1 : Int) := by omega
        have hbw1 : b1 < wr.heap.size := by omega
        have hbw2 : b2 < wr.heap.size := by omega
        have hne := neq_node (N1 m) (N2 m)
        have hgd := fun op a b => guard_node op a b (N1 m) (N2 m)
        obtain ⟨q, hq⟩ : ∃ q, q = ndSame (N1 m) (N2 m) := ⟨_, rfl⟩
        have HQ : Hid (q = ndSame (N1 m) (N2 m)) := hq
        rw [← hq] at hne
        have HNX : Hid (Below w.heap.size w wr) := hnx
        clear hq hnx
        cases q with
        | true =>
          have HL' : Hid (∀ j, j < m + 1 → N1 j = N2 j) := fun j hj => by
            by_cases e : j = m
            · subst e; exact ndSame_iff.1 HQ.out.symm
            · exact HL.out j (by omega)
          go_wp2_with fail
          go_quiet (fail)
          go_wp2
          go_roundw
          case rel => exact ⟨m + 1, by omega, by go_num, HL', drewN_below HNX.out _⟩
          case measure => simp [intOf]; omega
        | false =>
          have HN : Hid (¬ (n1 = n1 ∧ ∀ i, i < n1 → N1 i = N2 i)) := fun h => by
            have := ndSame_iff.2 (h.2 m hlt)
            rw [← HQ.out] at this
            simp at this
          go_wp2_with fail
          go_quiet (fail)
          go_wp2
          go_ret
          exact ⟨false, rfl, by simp [HN.out], drewN_below HNX.out _⟩
      · obtain rfl : m = n1 := by omega
        go_wp2
        go_ret
        exact ⟨true, rfl, by simpa using HL.out, hnx⟩
  · have hne : ¬ (n1 : Int) = (n2 : Int) := by omega
    go_enter Tryz.func174, Tryz.ntmps174
    go_wp2
    go_ret
    exact ⟨false, rfl, by simp [hnn], Below.refl _ _⟩

end Go.Proofs.YtjohocnfcnjciaaGreatDoor
namespace Go.Proofs.YtjohocnfcnjciaaGreatDoor
open Go.RowKit
set_option linter.unusedVariables false

set_option maxRecDepth 100000 in
set_option maxHeartbeats 1000000 in
theorem endOf_any (b off c n k : Nat) (N : Nat → Nd) (w : World) (hk : k < n) (hn : n ≤ 2 ^ 20) (hat : NodesAt w b off n N) :
    Calls Tryz.prog 175 #[.slice (some ⟨b, off, none⟩) n c, .int .i64 (k : Int)] w fun e w' => ∃ en : Nat, e = .returned (.int .i64 (en : Int)) ∧ IsEnd N n k en ∧ w' = w := by
  have HAT : Hid (NodesAt w b off n N) := hat
  clear hat
  go_enter Tryz.func175, Tryz.ntmps175
  go_wp2_with fail
  go_loopw [5] (fun v wr => ∃ e : Nat, v = .int .i64 (e : Int) ∧ k < e ∧ e ≤ n ∧ Hid (∀ i, k < i → i < e → (k : Int) ≤ (N i).up) ∧ wr = w) (fun v _ => n - (intOf v).toNat)
  case atStart => exact ⟨k + 1, by go_num, by omega, by omega, fun i h1 h2 => by omega, rfl⟩
  case round =>
    obtain ⟨e, rfl, he1, he2, HU, rfl⟩ := hrel
    by_cases hlt : e < n
    · have a4 := (HAT.out e hlt).2.2.2.2
      have i0 : (0 : Int) ≤ (e : Int) := by omega
      have i1 : (e : Int) < (n : Int) := by omega
      by_cases hu : (k : Int) ≤ (N e).up
      · have HU2 : Hid (∀ i, k < i → i < e + 1 → (k : Int) ≤ (N i).up) := fun i h1 h2 => by
          by_cases h : i = e
          · subst h; exact hu
          · exact HU.out i h1 (by omega)
        go_wp2
        go_roundw
        case rel => exact ⟨e + 1, by go_num, by omega, by omega, HU2, trivial⟩
        case measure => simp [intOf]; omega
      · have HE : Hid (IsEnd N n k e) := ⟨he1, he2, HU.out, fun _ => by omega⟩
        go_wp2
        go_ret
        exact ⟨e, rfl, HE.out, rfl⟩
    · obtain rfl : e = n := by omega
      have HE : Hid (IsEnd N e k e) := ⟨he1, he2, HU.out, fun h => by omega⟩
      go_wp2
      go_ret
      exact ⟨e, rfl, HE.out, rfl⟩

end Go.Proofs.YtjohocnfcnjciaaGreatDoor
namespace Go.Proofs.YtjohocnfcnjciaaGreatDoor
open Go.RowKit
set_option linter.unusedVariables false

theorem nd_cons (y : Nd) (l : List Nd) : ndCells (y :: l) = [.int .i64 y.kind, .int .i64 y.num, .string y.text, .string y.name, .int .i64 y.up] ++ ndCells l := by simp [ndCells]
theorem nd_append (l m : List Nd) : ndCells (l ++ m) = ndCells l ++ ndCells m := by simp [ndCells]
theorem nd_len (l : List Nd) : (ndCells l).length = l.length * 5 := by
  induction l with
  | nil => rfl
  | cons y l ih => rw [nd_cons, List.length_append, ih]; simp; omega
theorem nd_ones (l : List Nd) : ∀ u ∈ ndCells l, u.oneCell' = true := by
  induction l with
  | nil => intro u hu; simp [ndCells] at hu
  | cons y l ih =>
    intro u hu
    rw [nd_cons] at hu
    rcases List.mem_append.1 hu with h | h
    · simp at h
      rcases h with rfl | rfl | rfl | rfl | rfl <;> rfl
    · exact ih u h
theorem nd_get5 : ∀ (l : List Nd) (i : Nat) (hi : i < l.length), (ndCells l)[i * 5]? = some (.int .i64 l[i].kind) ∧ (ndCells l)[i * 5 + 1]? = some (.int .i64 l[i].num) ∧ (ndCells l)[i * 5 + 2]? = some (.string l[i].text) ∧ (ndCells l)[i * 5 + 3]? = some (.string l[i].name) ∧ (ndCells l)[i * 5 + 4]? = some (.int .i64 l[i].up) := by
  intro l
  induction l with
  | nil => intro i hi; simp at hi
  | cons y l ih =>
    intro i hi
    rw [nd_cons]
    cases i with
    | zero => simp
    | succ i =>
      have := ih i (by simpa using hi)
      have e : ∀ j, ([Value.int .i64 y.kind, .int .i64 y.num, .string y.text, .string y.name, .int .i64 y.up] ++ ndCells l)[(i + 1) * 5 + j]? = (ndCells l)[i * 5 + j]? := fun j => by
        rw [List.getElem?_append_right (by simp; omega)]
        congr 1
        simp
        omega
      exact ⟨(e 0).trans this.1, (e 1).trans this.2.1, (e 2).trans this.2.2.1, (e 3).trans this.2.2.2.1, (e 4).trans this.2.2.2.2⟩
theorem nd_set_up (u : Int) : ∀ (l : List Nd) (i : Nat) (hi : i < l.length), (ndCells l).set (i * 5 + 4) (.int .i64 u) = ndCells (l.set i { l[i] with up := u }) := by
  intro l
  induction l with
  | nil => intro i hi; simp at hi
  | cons y l ih =>
    intro i hi
    cases i with
    | zero => rw [nd_cons]; simp [ndCells]
    | succ i =>
      have := ih i (by simpa using hi)
      rw [nd_cons, List.set_cons_succ, nd_cons, List.set_append_right _ _ (by simp; omega)]
      congr 1
      refine Eq.trans ?_ this
      congr 1
      simp
      omega

/-- Nodes that lie in a row, as cells. -/
theorem nodes_cells {w : World} {b off n : Nat} {N : Nat → Nd} (h : NodesAt w b off n N) (s m : Nat) (hm : s + m ≤ n) : ∀ (j : Nat) (u : Value), (ndCells ((List.range m).map fun i => N (s + i)))[j]? = some u → w.cell? ⟨b, off + s * 5 + j, none⟩ = some u := by
  intro j u hu
  have hj := (List.getElem?_eq_some_iff.1 hu).1
  rw [nd_len, List.length_map, List.length_range] at hj
  obtain ⟨q, r, rfl, hr⟩ : ∃ q r, j = q * 5 + r ∧ r < 5 := ⟨j / 5, j % 5, by omega, by omega⟩
  have hq : q < m := by omega
  obtain ⟨g0, g1, g2, g3, g4⟩ := nd_get5 ((List.range m).map fun i => N (s + i)) q (by simpa using hq)
  simp only [List.getElem_map, List.getElem_range] at g0 g1 g2 g3 g4
  obtain ⟨c0, c1, c2, c3, c4⟩ := h (s + q) (by omega)
  have e : ∀ d, off + s * 5 + (q * 5 + d) = off + (s + q) * 5 + d := fun d => by omega
  rw [e]
  rcases (by omega : r = 0 ∨ r = 1 ∨ r = 2 ∨ r = 3 ∨ r = 4) with rfl | rfl | rfl | rfl | rfl
  · rw [Nat.add_zero] at hu ⊢; rw [g0] at hu; rw [c0]; exact hu
  · rw [g1] at hu; rw [c1]; exact hu
  · rw [g2] at hu; rw [c2]; exact hu
  · rw [g3] at hu; rw [c3]; exact hu
  · rw [g4] at hu; rw [c4]; exact hu

end Go.Proofs.YtjohocnfcnjciaaGreatDoor
namespace Go.Proofs.YtjohocnfcnjciaaGreatDoor
open Go.RowKit
set_option linter.unusedVariables false

theorem row_put {w : World} {B g cap j : Nat} {L : List Nd} {u : Int} (h : OwnsN w B (.slice (some ⟨g, 0, none⟩) L.length cap) L) (hj : j < L.length) : OwnsN (w.setCell ⟨g, j * 5 + 4, none⟩ (.int .i64 u)) B (.slice (some ⟨g, 0, none⟩) L.length cap) (L.set j { L[j] with up := u }) := by
  have := (World.ownsRow.stored h (j * 5 + 4) (.int .i64 u)).1
  rw [nd_set_up u L j hj] at this
  unfold OwnsN
  rw [List.length_set]
  exact this
theorem row_up {w : World} {B g cap j : Nat} {L : List Nd} (h : OwnsN w B (.slice (some ⟨g, 0, none⟩) L.length cap) L) (hj : j < L.length) : w.cell? ⟨g, j * 5 + 4, none⟩ = some (.int .i64 L[j].up) := by
  rw [World.ownsRow.cellAt h (j * 5 + 4) (by omega)]
  exact (nd_get5 L j hj).2.2.2.2

end Go.Proofs.YtjohocnfcnjciaaGreatDoor
namespace Go.Proofs.YtjohocnfcnjciaaGreatDoor
open Go.RowKit
set_option linter.unusedVariables false

theorem own_empty (W : World) (e : TypeId) (size B : Nat) (hB : B ≤ W.heap.size) : (W.alloc (.cells #[] e)).ownsRow B e size (.slice (some ⟨W.heap.size, 0, none⟩) 0 0) 0 [] :=
  ⟨by simp, .inr ⟨W.heap.size, 0, #[], rfl, hB, World.alloc_heap_new W _, Nat.le_refl _, Nat.zero_le _, by simp, by simp⟩⟩
theorem own_pos {w : World} {B : Nat} {e : TypeId} {size n : Nat} {v : Value} {xs : List Value} (h : w.ownsRow B e size v n xs) (hn : 0 < n) : ∃ g cap, v = .slice (some ⟨g, 0, none⟩) n cap := by
  rcases h.2 with ⟨_, h0⟩ | ⟨g, cap, cur, rfl, _⟩
  · omega
  · exact ⟨g, cap, rfl⟩

end Go.Proofs.YtjohocnfcnjciaaGreatDoor
namespace Go.Proofs.YtjohocnfcnjciaaGreatDoor
open Go.RowKit
set_option linter.unusedVariables false

set_option maxRecDepth 100000 in
set_option maxHeartbeats 2000000 in
theorem cloneN_any (b off c m : Nat) (X : Nat → Nd) (w : World) (hb : b < w.heap.size) (hm : m ≤ 2 ^ 18) (h0 : 0 < m) (hat : NodesAt w b off m X) :
    Calls Tryz.prog 184 #[.slice (some ⟨b, off, none⟩) m c] w fun e w' => ∃ g cap, e = .returned (.slice (some ⟨g, 0, none⟩) m cap) ∧ OwnsN w' w.heap.size (.slice (some ⟨g, 0, none⟩) m cap) ((List.range m).map X) ∧ Below w.heap.size w w' := by
  obtain ⟨i0, hi, hz0, hz1, hz2⟩ := info_parts infoNode5
  have HOE : Hid ((w.alloc (.cells #[] 94)).ownsRow w.heap.size 94 5 (.slice (some ⟨w.heap.size, 0, none⟩) 0 0) 0 []) := own_empty w 94 5 w.heap.size (Nat.le_refl _)
  have HNC : Hid (∀ j u, (ndCells ((List.range m).map X))[j]? = some u → (w.alloc (.cells #[] 94)).cell? ((⟨b, off, none⟩ : Addr).add j) = some u) := fun j u hu => by
    have := nodes_cells hat 0 m (by omega) j u (by simpa using hu)
    rw [Nat.zero_mul, Nat.add_zero] at this
    rw [show ((⟨b, off, none⟩ : Addr).add j) = ⟨b, off + j, none⟩ by unfold Addr.add; split <;> simp_all, World.cell?_of_block (heap_alloc_old _ _ hb)]
    exact this
  have HLN : Hid ((ndCells ((List.range m).map X)).length = m * 5) := by show _ = _; rw [nd_len]; simp
  have hnil : ∀ w : World, (binOp .eql 36 (.slice (some ⟨b, off, none⟩) m c) (.slice none 0 0)).run Tryz.prog w = .ok (.bool false) w := fun w => by kernel_rfl
  go_enter Tryz.func184, Tryz.ntmps184
  go_wp2_with (first | (at_builtin; refine wpList_append_own _ rfl _ _ 36 rfl w.heap.size 94 i0 _ 5 56 Tryz.underlying36 hi hz0 hz1 hz2 rfl (by decide) (.slice (some ⟨w.heap.size, 0, none⟩) 0 0) 0 [] rfl HOE.out ⟨b, off, none⟩ m c (ndCells ((List.range m).map X)) rfl HLN.out HNC.out (nd_ones _) (by unfold maxLen; omega) (by omega) (by simp) ?_))
  intro v2 w2 hown2 hg2 _
  obtain ⟨g2, cap2, rfl⟩ := own_pos hown2 (by omega)
  have HO2 : Hid (OwnsN w2 w.heap.size (.slice (some ⟨g2, 0, none⟩) m cap2) ((List.range m).map X)) := by
    show OwnsN _ _ _ _
    unfold OwnsN
    simpa using hown2
  have HB2 : Hid (Below w.heap.size w w2) := ⟨hg2.os, hg2.tape, hg2.output, by have := hg2.size; simp at this; omega, fun q hq => (hg2.block q (by simp; omega) (fun e => by simp [Value.ownBlock] at e; omega)).trans (heap_alloc_old _ _ hq)⟩
  clear hown2 hg2 HNC HOE
  go_wp2
  go_ret
  exact ⟨g2, cap2, rfl, HO2.out, HB2.out⟩

theorem nd_set_name (u : ByteArray) : ∀ (l : List Nd) (i : Nat) (hi : i < l.length), (ndCells l).set (i * 5 + 3) (.string u) = ndCells (l.set i { l[i] with name := u }) := by
  intro l
  induction l with
  | nil => intro i hi; simp at hi
  | cons y l ih =>
    intro i hi
    cases i with
    | zero => rw [nd_cons]; simp [ndCells]
    | succ i =>
      have := ih i (by simpa using hi)
      rw [nd_cons, List.set_cons_succ, nd_cons, List.set_append_right _ _ (by simp; omega)]
      congr 1
      refine Eq.trans ?_ this
      congr 1
      simp
      omega
theorem row_put3 {w : World} {B g cap j : Nat} {L : List Nd} {u : ByteArray} (h : OwnsN w B (.slice (some ⟨g, 0, none⟩) L.length cap) L) (hj : j < L.length) : OwnsN (w.setCell ⟨g, j * 5 + 3, none⟩ (.string u)) B (.slice (some ⟨g, 0, none⟩) L.length cap) (L.set j { L[j] with name := u }) := by
  have := (World.ownsRow.stored h (j * 5 + 3) (.string u)).1
  rw [nd_set_name u L j hj] at this
  unfold OwnsN
  rw [List.length_set]
  exact this
theorem row_name {w : World} {B g cap j : Nat} {L : List Nd} (h : OwnsN w B (.slice (some ⟨g, 0, none⟩) L.length cap) L) (hj : j < L.length) : w.cell? ⟨g, j * 5 + 3, none⟩ = some (.string L[j].name) := by
  rw [World.ownsRow.cellAt h (j * 5 + 3) (by omega)]
  exact (nd_get5 L j hj).2.2.2.1

/-- The row while p is added: it is to those ahead of j. -/
def AddTo (L0 : List Nd) (d : Int) (j : Nat) (L : List Nd) : Prop := L.length = L0.length ∧ ∀ (i : Nat) (x : Nd), L0[i]? = some x → L[i]? = some (if i < j then { x with up := x.up + d } else x)
theorem AddTo.at {L0 L : List Nd} {j : Nat} {d : Int} (h : AddTo L0 d j L) (hj : j < L.length) (hj0 : j < L0.length) : L[j] = L0[j] := by
  have := h.2 j L0[j] (List.getElem?_eq_getElem hj0)
  rw [if_neg (by omega), List.getElem?_eq_getElem hj] at this
  exact Option.some.inj this
theorem AddTo.next {L0 L : List Nd} {j : Nat} {d : Int} (h : AddTo L0 d j L) (hj : j < L.length) : AddTo L0 d (j + 1) (L.set j { L[j] with up := L[j].up + d }) := by
  refine ⟨by rw [List.length_set]; exact h.1, fun i x hx => ?_⟩
  by_cases hi : i = j
  · subst hi
    have h2 := h.2 i x hx
    rw [if_neg (by omega), List.getElem?_eq_getElem hj] at h2
    have h3 := Option.some.inj h2
    rw [List.getElem?_set_self hj, if_pos (by omega), ← h3]
  · rw [List.getElem?_set_ne (fun h => hi h.symm), h.2 i x hx]
    by_cases hc : i < j
    · rw [if_pos hc, if_pos (by omega)]
    · rw [if_neg hc, if_neg (by omega)]
theorem AddTo.done {X : Nat → Nd} {m p ar : Nat} {y : ByteArray} {L : List Nd} (h : AddTo ((List.range m).map X) (p : Int) m L) (h0 : 0 < m) (hL : 0 < L.length) (hL2 : 0 < (L.set 0 { L[0] with up := (ar : Int) }).length) : (L.set 0 { L[0] with up := (ar : Int) }).set 0 { (L.set 0 { L[0] with up := (ar : Int) })[0] with name := y } = partL X m p ar y := by
  have hl : L.length = m := by rw [h.1]; simp
  have hx0 : L[0] = { X 0 with up := (X 0).up + p } := by
    have := h.2 0 (X 0) (by rw [List.getElem?_map, List.getElem?_range h0]; rfl)
    rw [if_pos h0, List.getElem?_eq_getElem hL] at this
    exact Option.some.inj this
  apply List.ext_getElem?
  intro i
  unfold partL
  rw [List.getElem?_map]
  by_cases hi : i < m
  · rw [List.getElem?_range hi]
    by_cases hi0 : i = 0
    · subst hi0
      rw [List.getElem?_set_self hL2, List.getElem_set_self]
      simp only [Option.map_some, partN, if_true]
      rw [hx0]
    · rw [List.getElem?_set_ne (fun h => hi0 h.symm), List.getElem?_set_ne (fun h => hi0 h.symm), h.2 i (X i) (by rw [List.getElem?_map, List.getElem?_range hi]; rfl), if_pos hi]
      simp only [Option.map_some, partN]
      rw [if_neg hi0]
  · rw [List.getElem?_eq_none (by simp; omega), List.getElem?_eq_none (by simpa using hi)]
    rfl

set_option maxRecDepth 100000 in
set_option maxHeartbeats 2000000 in
theorem partAt_any (b off c m p ar : Nat) (X : Nat → Nd) (y : ByteArray) (w : World) (hb : b < w.heap.size) (hm : m ≤ 2 ^ 18) (h0 : 0 < m) (hp : p ≤ 2 ^ 18) (har : ar ≤ 2 ^ 18) (hat : NodesAt w b off m X) (hup : ∀ i, i < m → -1 ≤ (X i).up ∧ (X i).up ≤ 2 ^ 20) :
    Calls Tryz.prog 176 #[.slice (some ⟨b, off, none⟩) m c, .int .i64 (p : Int), .int .i64 (ar : Int), .string y] w fun e w' => ∃ g cap, e = .returned (.slice (some ⟨g, 0, none⟩) m cap) ∧ OwnsN w' w.heap.size (.slice (some ⟨g, 0, none⟩) m cap) (partL X m p ar y) ∧ Below w.heap.size w w' := by
  have HAT : Hid (NodesAt w b off m X) := hat
  have HUP : Hid (∀ i, i < m → -1 ≤ (X i).up ∧ (X i).up ≤ 2 ^ 20) := hup
  clear hat hup
  go_enter Tryz.func176, Tryz.ntmps176
  go_wp2_with fail
  refine (cloneN_any b off c m X _ hb hm h0 HAT.out).mono ?_
  rintro e w1 ⟨g, cap, rfl, ho1, hb1⟩
  have HO1 : Hid (OwnsN w1 w.heap.size (.slice (some ⟨g, 0, none⟩) m cap) ((List.range m).map X)) := ho1
  have HB1 : Hid (Below w.heap.size w w1) := hb1
  clear ho1 hb1
  obtain ⟨L0, hL0⟩ : ∃ L0, L0 = (List.range m).map X := ⟨_, rfl⟩
  have hL0l : L0.length = m := by rw [hL0]; simp
  rw [← hL0] at HO1
  have HL0 : Hid (∀ j (hj : j < L0.length), -1 ≤ L0[j].up ∧ L0[j].up ≤ 2 ^ 20) := fun j hj => by
    subst hL0
    simp only [List.getElem_map, List.getElem_range]
    exact HUP.out _ (by simpa using hj)
  have HLX : Hid (L0 = (List.range m).map X) := hL0
  clear hL0 HUP
  go_wp2_with fail
  go_loopw [15] (fun v wr => ∃ (j : Nat) (L : List Nd), j ≤ m ∧ v = .int .i64 (j : Int) ∧ L.length = m ∧ Hid (AddTo L0 (p : Int) j L) ∧ Hid (OwnsN wr w.heap.size (.slice (some ⟨g, 0, none⟩) m cap) L) ∧ Hid (Below w.heap.size w wr)) (fun v _ => m - (intOf v).toNat)
  case atStart => exact ⟨0, L0, Nat.zero_le _, rfl, hL0l, ⟨rfl, fun i x hx => by rw [if_neg (by omega)]; exact hx⟩, HO1, HB1⟩
  case round =>
    obtain ⟨j, L, hj2, rfl, hL, HMV, HO, HB⟩ := hrel
    have ho : OwnsN wr w.heap.size (.slice (some ⟨g, 0, none⟩) L.length cap) L := by rw [hL]; exact HO.out
    have hgB : w.heap.size ≤ g := (World.ownsRow.lt ho g rfl).1
    by_cases hlt : j < m
    · have hjL : j < L.length := by omega
      have hj0 : j < L0.length := by omega
      obtain ⟨u, hu⟩ : ∃ u, u = L[j].up := ⟨_, rfl⟩
      have a4 : wr.cell? ⟨g, j * 5 + 4, none⟩ = some (.int .i64 u) := by rw [hu]; exact row_up ho hjL
      have f4 : wr.frozen? ⟨g, j * 5 + 4, none⟩ = false := World.ownsRow.frozenAt ho _
      have hub : -1 ≤ u ∧ u ≤ 2 ^ 20 := by rw [hu, HMV.out.at hjL hj0]; exact HL0.out j hj0
      have i0' : (0 : Int) ≤ (j : Int) := by omega
      have i1' : (j : Int) < (m : Int) := by omega
      have hd3 : IntKind.i64.wrap (u + (p : Int)) = u + (p : Int) := by rw [IntKind.wrap_i64]; omega
      have HM2 : Hid (AddTo L0 (p : Int) (j + 1) (L.set j { L[j] with up := u + (p : Int) })) := by
        have := HMV.out.next hjL
        rw [← hu] at this
        exact this
      have HO2 : Hid (OwnsN (wr.setCell ⟨g, j * 5 + 4, none⟩ (.int .i64 (u + (p : Int)))) w.heap.size (.slice (some ⟨g, 0, none⟩) m cap) (L.set j { L[j] with up := u + (p : Int) })) := by
        have := row_put (u := u + (p : Int)) ho hjL
        rw [hL] at this
        exact this
      have HB2 : Hid (Below w.heap.size w (wr.setCell ⟨g, j * 5 + 4, none⟩ (.int .i64 (u + (p : Int))))) := HB.out.setCell (p := ⟨g, j * 5 + 4, none⟩) hgB _
      clear ho hu
      go_wp2
      go_roundw
      case rel => exact ⟨j + 1, _, by omega, by go_num, by rw [List.length_set]; exact hL, HM2, HO2, HB2⟩
      case measure => simp [intOf]; omega
    · obtain rfl : j = m := by omega
      have hL0' : 0 < L.length := by omega
      have a4 : wr.cell? ⟨g, 4, none⟩ = some (.int .i64 L[0].up) := by have := row_up ho hL0'; rwa [Nat.zero_mul, Nat.zero_add] at this
      have f4 : wr.frozen? ⟨g, 4, none⟩ = false := World.ownsRow.frozenAt ho _
      have ho2 : OwnsN (wr.setCell ⟨g, 4, none⟩ (.int .i64 (ar : Int))) w.heap.size (.slice (some ⟨g, 0, none⟩) L.length cap) (L.set 0 { L[0] with up := (ar : Int) }) := by
        have := row_put (u := (ar : Int)) ho hL0'
        rwa [Nat.zero_mul, Nat.zero_add] at this
      have hl2 : (L.set 0 { L[0] with up := (ar : Int) }).length = L.length := List.length_set
      have hL2' : 0 < (L.set 0 { L[0] with up := (ar : Int) }).length := by omega
      have ho2' : OwnsN (wr.setCell ⟨g, 4, none⟩ (.int .i64 (ar : Int))) w.heap.size (.slice (some ⟨g, 0, none⟩) (L.set 0 { L[0] with up := (ar : Int) }).length cap) (L.set 0 { L[0] with up := (ar : Int) }) := by rw [hl2]; exact ho2
      have b3 : (wr.setCell ⟨g, 4, none⟩ (.int .i64 (ar : Int))).cell? ⟨g, 3, none⟩ = some (.string (L.set 0 { L[0] with up := (ar : Int) })[0].name) := by have := row_name ho2' hL2'; rwa [Nat.zero_mul, Nat.zero_add] at this
      have g3 : (wr.setCell ⟨g, 4, none⟩ (.int .i64 (ar : Int))).frozen? ⟨g, 3, none⟩ = false := World.ownsRow.frozenAt ho2' _
      obtain ⟨nn, hnn⟩ : ∃ nn, nn = (L.set 0 { L[0] with up := (ar : Int) })[0].name := ⟨_, rfl⟩
      have HF : Hid (OwnsN ((wr.setCell ⟨g, 4, none⟩ (.int .i64 (ar : Int))).setCell ⟨g, 3, none⟩ (.string y)) w.heap.size (.slice (some ⟨g, 0, none⟩) j cap) (partL X j p ar y)) := by
        have h3 := row_put3 (u := y) ho2' hL2'
        rw [Nat.zero_mul, Nat.zero_add, hl2, hL] at h3
        have hd := AddTo.done (ar := ar) (y := y) (by rw [← HLX.out]; exact HMV.out) h0 hL0' hL2'
        rw [hd] at h3
        exact h3
      have HB2 : Hid (Below w.heap.size w ((wr.setCell ⟨g, 4, none⟩ (.int .i64 (ar : Int))).setCell ⟨g, 3, none⟩ (.string y))) := (HB.out.setCell (p := ⟨g, 4, none⟩) hgB _).setCell (p := ⟨g, 3, none⟩) hgB _
      obtain ⟨u0, hu0⟩ : ∃ u, u = L[0].up := ⟨_, rfl⟩
      rw [← hnn] at b3
      rw [← hu0] at a4
      have i0' : (0 : Int) < (j : Int) := by omega
      clear ho ho2 ho2' hnn hl2 hL2' hu0 HLX
      go_wp2
      go_ret
      exact ⟨g, cap, rfl, HF.out, HB2.out⟩

end Go.Proofs.YtjohocnfcnjciaaGreatDoor
namespace Go.Proofs.YtjohocnfcnjciaaGreatDoor
open Go.RowKit
set_option linter.unusedVariables false

/-- No operation defers. -/
def noDefer (ops : Array Oper) : Bool := ops.toList.all fun o => match o.op with | .defer _ => false | _ => true
theorem noDefer_at {ops : Array Oper} (h : noDefer ops = true) {j : Nat} {o : Oper} (hj : ops[j]? = some o) : ∀ c, o.op ≠ .defer c := by
  intro c e
  unfold noDefer at h
  rw [List.all_eq_true] at h
  have hm : o ∈ ops.toList := by
    have : ops.toList[j]? = some o := by simpa using hj
    exact List.mem_of_getElem? this
  have := h o hm
  rw [e] at this
  simp at this
section
variable {F : Fence} {n : Nat} {P : Program} {ops : Array Oper} {Q : Exit → Act → World → Prop}
theorem upon_round (l : Nat) (o : Oper) (a : Act) (K : Act → World → Prop) (r : Result Next) (h : o.uponIn F n P a K Q r) : o.uponIn (F.inRound l) n P a K Q r := by
  cases r with
  | ok x w => cases x <;> exact h
  | halt x w => cases x <;> exact h
theorem wpOp_round (l : Nat) (hd : noDefer ops = true) (hro : F.round = none) {i : Nat} {K : Act → World → Prop} {a : Act} {w : World} (h : wpOpIn F n P ops Q i K a w) : wpOpIn (F.inRound l) n P ops Q i K a w := by
  unfold wpOpIn at h ⊢
  cases ho : ops[i]? with
  | none => rw [ho] at h; exact h
  | some o =>
    rw [ho] at h
    simp only [] at h ⊢
    by_cases hw : Region.wanted o (yielded ops a.tmps) = true
    · rw [if_pos hw] at h ⊢
      obtain ⟨h1, h2⟩ := h
      refine ⟨h1, upon_round l o a K _ ?_⟩
      rw [Oper.semAt_eq _ _ _ (noDefer_at hd ho)] at h2 ⊢
      exact h2
    · rw [if_neg hw] at h ⊢
      exact h
theorem wpAny_round (l : Nat) (hd : noDefer ops = true) (hro : F.round = none) {md : Region.Mode} : ∀ (fuel : Nat) (listed : Array Bool) (a : Act) (w : World), wpAnyIn F n P md ops Q fuel listed a w → wpAnyIn (F.inRound l) n P md ops Q fuel listed a w := by
  intro fuel
  induction fuel with
  | zero => intro listed a w h; exact h
  | succ fuel ih =>
    intro listed a w h
    exact ⟨h.1, fun i hi => wpOp_round l hd hro (wpOpIn_mono (fun a w => ih _ a w) (h.2 i hi))⟩
end

end Go.Proofs.YtjohocnfcnjciaaGreatDoor
