/- Whether a number lies between two, by the specification. Whether a value has a node. A node with all its own, by itself: the program's walk. What a path leads to: the program. -/
import Derived.Test.YtnmbnebofbdmfaaGreatDoorGoodOwn
import Derived.Test.YtnmbnebofbdmfaaGreatDoorQSubL
import Derived.Test.YtnmbnebofbdmfaaGreatDoorQHasA
namespace Go.Proofs.YtnmbnebofbdmfaaGreatDoor
open Go.RowKit
set_option linter.unusedVariables false

set_option maxRecDepth 100000 in
set_option maxHeartbeats 1000000 in
theorem l1In_any (x lo hi : Int) (w : World) : Calls Tryz.prog 36 #[.int .i64 x, .int .i64 lo, .int .i64 hi] w fun e w' => e = .returned (.bool (decide (lo ≤ x) && decide (x ≤ hi))) ∧ Below w.heap.size w w' := by
  by_cases h0 : lo ≤ x
  · go_enter Tryz.func36, Tryz.ntmps36
    go_wp2
    go_ret
    exact ⟨by simp [h0], by go_grown⟩
  · go_enter Tryz.func36, Tryz.ntmps36
    go_wp2
    go_ret
    have h1 : decide (lo ≤ x) = false := decide_eq_false (by omega)
    exact ⟨by rw [h1]; rfl, by go_grown⟩

end Go.Proofs.YtnmbnebofbdmfaaGreatDoor
namespace Go.Proofs.YtnmbnebofbdmfaaGreatDoor
open Go.RowKit
set_option linter.unusedVariables false


set_option maxRecDepth 100000 in
set_option maxHeartbeats 1000000 in
theorem hasNode_own (b n : Nat) (a : Option Addr) (c : Nat) (N : Nat → Nd) (z : Int) (w : World) (h : OwnAt w b (.slice a n c) n N) (hsm : SmallN n N) (htab : Tab w.heap.size w) :
    Calls Tryz.prog 49 #[.agg #[.slice a n c], .int .i64 z] w (BoolIs (HasN N n z) w) := by
  have HO : Hid (OwnAt w b (.slice a n c) n N) := h
  have HSM : Hid (SmallN n N) := hsm
  have HTB : Hid (Tab w.heap.size w) := htab
  have hbl : ∀ o, Below w.heap.size w (w.alloc o) := fun o => (Below.refl _ _).alloc (Nat.le_refl _) o
  have n20 : n ≤ 2 ^ 20 := hsm.1
  clear h hsm htab
  by_cases h0 : 0 ≤ z
  · by_cases h1 : z < n
    · go_enter Tryz.func49, Tryz.ntmps49
      go_wp2_with fail
      refine (implGood_own b n a c N _ (HO.out.below (hbl _)) HSM.out (HTB.out.up (hbl _))).mono ?_
      rintro e w1 ⟨q, rfl, hq, hb1⟩
      have HB1 : Hid (Below w.heap.size w w1) := (hbl _).trans (hb1.mono (by simp))
      have HQ : Hid (q = true ↔ HasN N n z) := ⟨fun h => ⟨h0, h1, hq.1 h⟩, fun h => hq.2 h.2.2⟩
      clear hb1 hbl hq
      go_wp2
      go_ret
      exact BoolIs.of HQ.out HB1.out
    · have HN : Hid (¬ HasN N n z) := fun h => h1 h.2.1
      go_enter Tryz.func49, Tryz.ntmps49
      go_wp2_with fail
      go_ret
      exact BoolIs.no HN.out (by go_grown)
  · have HN : Hid (¬ HasN N n z) := fun h => h0 h.1
    go_enter Tryz.func49, Tryz.ntmps49
    go_wp2_with fail
    go_ret
    exact BoolIs.no HN.out (by go_grown)

end Go.Proofs.YtnmbnebofbdmfaaGreatDoor
namespace Go.Proofs.YtnmbnebofbdmfaaGreatDoor
open Go.RowKit
set_option linter.unusedVariables false

set_option maxRecDepth 100000 in
set_option maxHeartbeats 1000000 in
theorem implSub_own (b n : Nat) (a : Option Addr) (c : Nat) (N : Nat → Nd) (z : Int) (w : World) (h : OwnAt w b (.slice a n c) n N) (hsm : SmallN n N) (htab : Tab w.heap.size w) (hcap : n ≤ c) :
    Calls Tryz.prog 33 #[.agg #[.slice a n c], .int .i64 z] w (SubIs N n z w) := by
  have HO : Hid (OwnAt w b (.slice a n c) n N) := h
  have HSM : Hid (SmallN n N) := hsm
  have HTB : Hid (Tab w.heap.size w) := htab
  have n20 : n ≤ 2 ^ 20 := hsm.1
  have hbl : ∀ o o', Below w.heap.size w ((w.alloc o).alloc o') := fun o o' => ((Below.refl _ _).alloc (Nat.le_refl _) o).alloc (by simp) o'
  clear h hsm htab
  obtain ⟨iN, hi, hz0, hz1, hz2⟩ := info_parts infoNode5
  have HI : Hid (Tryz.prog.info? 49 = some iN ∧ iN.zero = some (.agg #[.int .i64 0, .int .i64 0, .string ⟨#[]⟩, .string ⟨#[]⟩, .int .i64 0]) ∧ iN.size = 5 ∧ iN.bytes = 56) := ⟨hi, hz0, hz1, hz2⟩
  clear hi hz0 hz1 hz2
  go_enter Tryz.func33, Tryz.ntmps33
  go_wp2_with fail
  refine (hasNode_own b n a c N z _ (HO.out.below (hbl _ _)) HSM.out (HTB.out.up (hbl _ _))).mono ?_
  rintro e w1 ⟨q, rfl, hq, hb1⟩
  have hx : w1.cell? ⟨w.heap.size, 0, none⟩ = some (.slice a n c) := by rw [hb1.cell (by simp; omega)]; simp [go_sem]
  have hr1 : w1.cell? ⟨w.heap.size + 1, 0, none⟩ = some (.slice none 0 0) := by rw [hb1.cell (by simp)]; simp [go_sem]
  have hr2 : w1.frozen? ⟨w.heap.size + 1, 0, none⟩ = false := by rw [hb1.frozen (by simp)]; simp [go_sem]
  have HB1 : Hid (Below w.heap.size w w1) := (hbl _ _).trans (hb1.mono (by simp; omega))
  have z1 : w.heap.size < w1.heap.size := by have := hb1.size; simp at this; omega
  have zR : w.heap.size + 1 < w1.heap.size := by have := hb1.size; simp at this; omega
  clear hb1 hbl
  cases q with
  | false =>
    have HN : Hid (¬ HasN N n z) := fun h => by have := hq.2 h; simp at this
    clear hq
    go_wp2_with fail
    exact bodyPost_ret (v := .tuple #[.agg #[.slice none 0 0], .bool false]) (by simp [results, Tryz.results33, go_sem, hr1]) rfl (SubIs.no HN.out (Below.setR HB1.out (by omega)))
  | true =>
    have hh : HasN N n z := hq.1 rfl
    obtain ⟨k, rfl⟩ := Int.eq_ofNat_of_zero_le hh.1
    have hk : k < n := by have := hh.2.1; omega
    have HH : Hid (HasN N n k) := hh
    have hs := hh.2.2.1
    have HP : Hid (Pre N n) := pre_of_place fun i hi => (hs.2.2 i hi).2.1
    obtain ⟨b', off, rfl, hb', hat⟩ : ∃ b off, a = some ⟨b, off, none⟩ ∧ b < w.heap.size ∧ NodesAt w b off n N := by
      rcases own_arg HO.out with h0 | h0
      · omega
      · exact h0
    have HAT : Hid (NodesAt w1 b' off n N) := hat.below HB1.out hb'
    clear hq hh hs hat
    have hb1' : b' < w1.heap.size := by omega
    obtain ⟨a0, a1, a2, a3, a4⟩ := HAT.out k hk
    have i0 : (0 : Int) ≤ (k : Int) := by omega
    have i1 : (k : Int) < (n : Int) := by omega
    have i2 : (k : Int) + 1 ≤ (n : Int) := by omega
    have HSG : Hid (∀ j, subTo N k (k + 1 + (j + 1)) = subTo N k (k + 1 + j) ++ [{ N (k + 1 + j) with up := (N (k + 1 + j)).up - k }]) := fun j => by have := subTo_snoc (N := N) (k := k) (q := k + 1 + j) (by omega); exact this
    have HST : Hid (∀ W : World, W.heap.size = w1.heap.size → OwnsN ((W.alloc (.cells #[.int .i64 (N k).kind, .int .i64 (N k).num, .string (N k).text, .string ⟨#[]⟩, .int .i64 (-1)] 49)).alloc (.cells #[.int .i64 (N k).kind, .int .i64 (N k).num, .string (N k).text, .string ⟨#[]⟩, .int .i64 (-1)] 49)) w1.heap.size (.slice (some ⟨w1.heap.size + 1, 0, none⟩) 1 1) (subTo N k (k + 1))) := by
      intro W hW
      rw [← hW]
      refine ⟨by rw [subTo_len]; simp [subTo, seg_nil, ndCells], .inr ⟨W.heap.size + 1, 1, #[.int .i64 (N k).kind, .int .i64 (N k).num, .string (N k).text, .string ⟨#[]⟩, .int .i64 (-1)], by rw [subTo_len]; simp, by omega, ?_, by rw [subTo_len]; simp, by unfold maxLen; omega, rfl, ?_⟩⟩
      · have := heap_alloc_new (W.alloc (.cells #[.int .i64 (N k).kind, .int .i64 (N k).num, .string (N k).text, .string ⟨#[]⟩, .int .i64 (-1)] 49)) (.cells #[.int .i64 (N k).kind, .int .i64 (N k).num, .string (N k).text, .string ⟨#[]⟩, .int .i64 (-1)] 49)
        rw [World.size_alloc] at this
        exact this
      · rw [subTo_len]
        simp [subTo, seg_nil, ndCells]
    have hal2 : ∀ o o', Below w1.heap.size w1 ((w1.alloc o).alloc o') := fun o o' => ((Below.refl _ _).alloc (Nat.le_refl _) o).alloc (by simp) o'
    have HS2 : Hid (HasN N n k ∧ n ≤ 2 ^ 20) := ⟨HH.out, n20⟩
    have HPN : Hid (∀ i, 0 < i → i < n → 0 ≤ (N i).up ∧ (N i).up < i) := fun i h1 h2 => ⟨(HP.out.2 i h1 h2).1, (HP.out.2 i h1 h2).2.1⟩
    by_cases hlast : c = k + 1
    · have hnk : n = k + 1 := by omega
      subst hnk
      subst hlast
      have HE : Hid (IsEnd N (k + 1) k (k + 1)) := ⟨by omega, Nat.le_refl _, fun i h1 h2 => by omega, fun h => by omega⟩
      have s0 : k + 1 - (k + 1) = 0 := by omega
      go_wp2_with fail
      go_rounds 1
      have q3 := fun o o' => ((hal2 o o').cell (p := ⟨w.heap.size + 1, 0, none⟩) zR).trans hr1
      have q4 := fun o o' => ((hal2 o o').frozen (p := ⟨w.heap.size + 1, 0, none⟩) zR).trans hr2
      have q5 : ∀ v o o', (((w1.setCell ⟨w.heap.size + 1, 0, none⟩ v).alloc o).alloc o').cell? ⟨w.heap.size + 1, 0, none⟩ = some v := fun v o o' => by
        rw [cell_past _ _ (by simp; omega), cell_past _ _ (by simp; omega), cell_set (by rw [hr1]; rfl), if_pos rfl]
      go_wp2_with fail
      exact bodyPost_ret (v := .tuple #[.agg #[.slice (some ⟨w1.heap.size + 1, 0, none⟩) 1 1], .bool true]) (by simp [results, Tryz.results33, go_sem, q5]) rfl (SubIs.yes HS2.out.1 HE.out HB1.out.size HS2.out.2 (HST.out _ (by simp)) (((Below.setR HB1.out (by omega)).alloc (by simp; omega) _).alloc (by simp; omega) _))
    · go_wp2_with fail
      go_loopw [7, 30] (fun v i wr => ∃ (j : Nat) (am : Option Addr) (dm : Nat), j ≤ n - (k + 1) ∧ i = .int .i64 j ∧ v = .slice am (j + 1) dm ∧ Hid (OwnsN wr w1.heap.size (.slice am (j + 1) dm) (subTo N k (k + 1 + j))) ∧ Hid (∀ i, k < i → i < k + 1 + j → (k : Int) ≤ (N i).up) ∧ Below w1.heap.size w1 wr) (fun _ i _ => n - (k + 1) - (intOf i).toNat)
      case atStart => exact ⟨0, _, _, Nat.zero_le _, rfl, rfl, HST.out w1 rfl, fun i h1 h2 => by omega, hal2 _ _⟩
      case round =>
        obtain ⟨j, am, dm, hj, rfl, rfl, HOJ, HUP, hnx⟩ := hrel
        have hzw := hnx.size
        have q1 : wr.cell? ⟨w.heap.size + 1, 0, none⟩ = some (.slice none 0 0) := (hnx.cell zR).trans hr1
        have q2 : wr.frozen? ⟨w.heap.size + 1, 0, none⟩ = false := (hnx.frozen zR).trans hr2
        have hRw : w.heap.size + 1 < wr.heap.size := by omega
        have q3 := fun o => (cell_past wr o (x := 0) hRw).trans q1
        have q4 := fun o => (frozen_past wr o (x := 0) hRw).trans q2
        have q5 : ∀ v o, ((wr.setCell ⟨w.heap.size + 1, 0, none⟩ v).alloc o).cell? ⟨w.heap.size + 1, 0, none⟩ = some v := fun v o => by
          rw [cell_past _ _ (by simp; omega), cell_set (by rw [q1]; rfl), if_pos rfl]
        by_cases hlt : j < n - (k + 1)
        · obtain ⟨e0, e1, e2, e3, e4⟩ := HAT.out.below hnx hb1' (k + 1 + j) (by omega)
          have eo : off + (k + 1 + j) * 5 = off + (k + 1) * 5 + j * 5 := by omega
          rw [eo] at e0 e1 e2 e3 e4
          have j0 : (0 : Int) ≤ (j : Int) := by omega
          have j1 : (j : Int) < ((n - (k + 1) : Nat) : Int) := by omega
          have hbw : b' < wr.heap.size := by omega
          obtain ⟨y, hy⟩ : ∃ y, y = N (k + 1 + j) := ⟨_, rfl⟩
          rw [← hy] at e0 e1 e2 e3 e4
          have HY : Hid (y = N (k + 1 + j)) := hy
          clear eo hy
          by_cases hu : y.up < (k : Int)
          · have HE : Hid (IsEnd N n k (k + 1 + j)) := ⟨by omega, by omega, HUP.out, fun _ => by rw [← HY.out]; exact hu⟩
            have hsl : (subTo N k (k + 1 + j)).length = j + 1 := by rw [subTo_len]; omega
            go_wp2_with fail
            exact bodyPost_ret (v := .tuple #[.agg #[.slice am (j + 1) dm], .bool true]) (by simp [results, Tryz.results33, go_sem, q5]) rfl (SubIs.yes HS2.out.1 HE.out HB1.out.size HS2.out.2 (World.ownsRow.alloc (own_set' HOJ.out zR) _) ((Below.setR (HB1.out.trans (hnx.mono HB1.out.size)) (by omega)).alloc (by simp; omega) _))
          · have hu' : ¬ y.up < (k : Int) := hu
            have hupb : (k : Int) ≤ y.up ∧ y.up < n := by
              have h1 := HPN.out (k + 1 + j) (by omega) (by omega)
              rw [← HY.out] at h1
              omega
            go_wp2_with (first | (at_builtin; refine wpList_append_own _ rfl _ _ 26 rfl w1.heap.size 49 iN _ 5 56 Tryz.underlying26 HI.out.1 HI.out.2.1 HI.out.2.2.1 HI.out.2.2.2 rfl (by decide) _ (j + 1) _ rfl (World.ownsRow.alloc (World.ownsRow.alloc (own_len HOJ.out (by rw [subTo_len]; omega)) _) _) ⟨wr.heap.size + 1, 0, none⟩ 1 1 [.int .i64 y.kind, .int .i64 y.num, .string y.text, .string y.name, .int .i64 (y.up - k)] rfl rfl ?c1 ?c2 ?c3 ?c4 ?c5 ?_))
            case c2 => first | exact ⟨rfl, rfl, rfl, rfl, rfl⟩ | exact nd_one _ _ _ _ _
            case c3 => unfold maxLen; omega
            case c4 => omega
            case c5 => first | omega | (simp; omega)
            intro v2 w2 hown2 hgrow _
            have HB2 : Hid (Below w1.heap.size w1 w2) := grow_below (World.ownsRow.alloc HOJ.out _) _ (hnx.alloc hzw _) (by simp; omega) hgrow
            have ho2 : OwnsN w2 w1.heap.size v2 (subTo N k (k + 1 + (j + 1))) := by
              unfold OwnsN
              rw [HSG.out j, nd_snoc, List.length_append, subTo_len, ← HY.out]
              have e1 : k + 1 + j - (k + 1) + 1 + [({ y with up := y.up - k } : Nd)].length = j + 1 + 1 := by simp
              rw [e1]
              exact hown2
            obtain ⟨a2, d2, rfl⟩ := ho2.form
            have hsl2 : (subTo N k (k + 1 + (j + 1))).length = j + 1 + 1 := by rw [subTo_len]; omega
            rw [hsl2] at ho2 ⊢
            have HO2 : Hid (OwnsN w2 w1.heap.size (.slice a2 (j + 1 + 1) d2) (subTo N k (k + 1 + (j + 1)))) := ho2
            have HU2 : Hid (∀ i, k < i → i < k + 1 + (j + 1) → (k : Int) ≤ (N i).up) := fun i h1 h2 => by
              by_cases e : i = k + 1 + j
              · rw [e, ← HY.out]; exact hupb.1
              · exact HUP.out i h1 (by omega)
            clear hown2 hgrow ho2 hsl2
            go_wp2_with fail
            go_roundw
            case rel => exact ⟨j + 1, a2, d2, by omega, by go_num, rfl, HO2, HU2, HB2.out⟩
            case measure => simp [intOf]; omega
        · have hjn : k + 1 + j = n := by omega
          have HE : Hid (IsEnd N n k (k + 1 + j)) := ⟨by omega, by omega, HUP.out, fun h => by omega⟩
          go_wp2_with fail
          exact bodyPost_ret (v := .tuple #[.agg #[.slice am (j + 1) dm], .bool true]) (by simp [results, Tryz.results33, go_sem, q1]) rfl (SubIs.yes HS2.out.1 HE.out HB1.out.size HS2.out.2 (own_set' HOJ.out zR) (Below.setR (HB1.out.trans (hnx.mono HB1.out.size)) (by omega)))

end Go.Proofs.YtnmbnebofbdmfaaGreatDoor
namespace Go.Proofs.YtnmbnebofbdmfaaGreatDoor
open Go.RowKit
set_option linter.unusedVariables false

/-- WHAT GetAt ANSWERS. -/
def GTold (N : Nat → Nd) (n : Nat) (s : ByteArray) (q : Bool) (L : List Nd) : Prop := (q = true ∧ AskedOf N n s ∧ ∃ k e, goN N n 0 (nmsL s) = some k ∧ IsEnd N n k e ∧ L = subTo N k e) ∨ (q = false ∧ ¬ (AskedOf N n s ∧ (goN N n 0 (nmsL s)).isSome = true) ∧ L = [])
theorem GTold.same {N : Nat → Nd} {n : Nat} {s : ByteArray} {q r : Bool} {L M : List Nd} (h : GTold N n s q L) (k : GTold N n s r M) : q = r ∧ L = M := by
  rcases h with ⟨rfl, g, x, e, hx, he, rfl⟩ | ⟨rfl, g, rfl⟩ <;> rcases k with ⟨rfl, g', x', e', hx', he', rfl⟩ | ⟨rfl, g', rfl⟩
  · obtain rfl : x = x' := Option.some.inj (hx.symm.trans hx')
    obtain rfl := end_unique he he'
    exact ⟨rfl, rfl⟩
  · exact absurd ⟨g, by rw [hx]; rfl⟩ g'
  · exact absurd ⟨g', by rw [hx']; rfl⟩ g
  · exact ⟨rfl, rfl⟩
def GetIs (N : Nat → Nd) (n : Nat) (s : ByteArray) (w : World) (e : Ending) (w' : World) : Prop :=
  ∃ v q b L, e = .returned (.tuple #[.agg #[v], .bool q]) ∧ GTold N n s q L ∧ (L ≠ [] → w.heap.size ≤ b ∧ b < w'.heap.size) ∧ OwnAt w' b v L.length (fun i => L.getD i ⟨0, 0, ⟨#[]⟩, ⟨#[]⟩, 0⟩) ∧ Below w.heap.size w w'
theorem GetIs.no {N : Nat → Nd} {n : Nat} {s : ByteArray} {w w' : World} (h : ¬ (AskedOf N n s ∧ (goN N n 0 (nmsL s)).isSome = true)) (hb : Below w.heap.size w w') : GetIs N n s w (.returned (.tuple #[.agg #[.slice none 0 0], .bool false])) w' :=
  ⟨_, _, 0, [], rfl, .inr ⟨rfl, h, rfl⟩, fun h => absurd rfl h, ⟨none, 0, 0, rfl, by decide, .inl rfl⟩, hb⟩
theorem GetIs.yes {N : Nat → Nd} {n k e B : Nat} {s : ByteArray} {w w' : World} {v : Value} (h : AskedOf N n s) (hk : goN N n 0 (nmsL s) = some k) (he : IsEnd N n k e) (hB : w.heap.size ≤ B) (hn : n ≤ 2 ^ 20) (ho : OwnsN w' B v (subTo N k e)) (hb : Below w.heap.size w w') : GetIs N n s w (.returned (.tuple #[.agg #[v], .bool true])) w' := by
  obtain ⟨b, h1, h2⟩ := ho.own (by rw [subTo_len]; have := he.2.1; omega)
  exact ⟨v, true, b, subTo N k e, rfl, .inl ⟨rfl, h, k, e, hk, he, rfl⟩, fun hn => ⟨Nat.le_trans hB (h1 hn).1, (h1 hn).2⟩, h2, hb⟩

theorem goN_lt {N : Nat → Nd} {n : Nat} : ∀ (l : List ByteArray) (k p : Nat), k < n → goN N n k l = some p → p < n := by
  intro l
  induction l with
  | nil => intro k p hk h; simp [goN] at h; omega
  | cons nm r ih =>
    intro k p hk h
    rw [goN] at h
    obtain ⟨q, hq, h'⟩ := Option.bind_eq_some_iff.1 h
    exact ih q p (kidsTo_mem (findP_kid hq)).2.1 h'

set_option maxRecDepth 100000 in
set_option maxHeartbeats 2000000 in
theorem implGet_own (b n : Nat) (a : Option Addr) (c : Nat) (N : Nat → Nd) (s : ByteArray) (w : World) (h : OwnAt w b (.slice a n c) n N) (hsm : SmallN n N) (htab : Tab w.heap.size w) (hcap : n ≤ c) (hml : ML w) :
    Calls Tryz.prog 17 #[.agg #[.slice a n c], .string s] w (GetIs N n s w) := by
  have HO : Hid (OwnAt w b (.slice a n c) n N) := h
  have HSM : Hid (SmallN n N) := hsm
  have HTB : Hid (Tab w.heap.size w) := htab
  have HML : Hid (ML w) := hml
  have n20 : n ≤ 2 ^ 20 := hsm.1
  have hbl : ∀ o o', Below w.heap.size w ((w.alloc o).alloc o') := fun o o' => ((Below.refl _ _).alloc (Nat.le_refl _) o).alloc (by simp) o'
  have h61 := names60 s.data.toList
  clear h hsm htab hml
  go_enter Tryz.func17, Tryz.ntmps17
  go_wp2_with fail
  refine (implPathOf_any s _ (HML.out.below (hbl _ _))).mono ?_
  rintro e w1 ⟨v1, g1, rfl, hg1, ho1, hb1⟩
  obtain ⟨a1, c1, rfl⟩ : ∃ a c, v1 = .slice a (namesN s.data.toList) c := by obtain ⟨a, c, rfl, _⟩ := ho1; exact ⟨a, c, rfl⟩
  have x1 : w1.cell? ⟨w.heap.size, 0, none⟩ = some (.slice a n c) := by rw [hb1.cell (by simp; omega)]; simp [go_sem]
  have r1 : w1.cell? ⟨w.heap.size + 1, 0, none⟩ = some (.slice none 0 0) := by rw [hb1.cell (by simp)]; simp [go_sem]
  have f1 : w1.frozen? ⟨w.heap.size + 1, 0, none⟩ = false := by rw [hb1.frozen (by simp)]; simp [go_sem]
  have HB1 : Hid (Below w.heap.size w w1) := (hbl _ _).trans (hb1.mono (by simp; omega))
  have z1 : w.heap.size < w1.heap.size := by have := hb1.size; simp at this; omega
  have zR : w.heap.size + 1 < w1.heap.size := by have := hb1.size; simp at this; omega
  have HNM : Hid (ArgS w1 a1 (namesN s.data.toList) (namesF s.data.toList)) := ho1.arg
  clear hb1 hbl ho1 hg1
  cases hp : (namesL s.data.toList).isSome with
  | false =>
    have HN : Hid (¬ (AskedOf N n s ∧ (goN N n 0 (nmsL s)).isSome = true)) := fun h => by have := h.1.2; rw [hp] at this; simp at this
    go_wp2_with fail
    exact bodyPost_ret (v := .tuple #[.agg #[.slice none 0 0], .bool false]) (by simp [results, Tryz.results17, go_sem, r1]) rfl (GetIs.no HN.out (Below.setR HB1.out (by omega)))
  | true =>
    go_wp2_with fail
    refine (implGood_own b n a c N _ (HO.out.below HB1.out) HSM.out (HTB.out.up HB1.out)).mono ?_
    rintro e w2 ⟨q, rfl, hq, hb2⟩
    have x2 : w2.cell? ⟨w.heap.size, 0, none⟩ = some (.slice a n c) := (hb2.cell z1).trans x1
    have r2 : w2.cell? ⟨w.heap.size + 1, 0, none⟩ = some (.slice none 0 0) := (hb2.cell zR).trans r1
    have f2 : w2.frozen? ⟨w.heap.size + 1, 0, none⟩ = false := (hb2.frozen zR).trans f1
    have HB2 : Hid (Below w.heap.size w w2) := HB1.out.trans (hb2.mono HB1.out.size)
    have HNM2 : Hid (ArgS w2 a1 (namesN s.data.toList) (namesF s.data.toList)) := HNM.out.below hb2
    have z2 : w.heap.size < w2.heap.size := Nat.lt_of_lt_of_le z1 hb2.size
    have zR2 : w.heap.size + 1 < w2.heap.size := Nat.lt_of_lt_of_le zR hb2.size
    clear hb2
    cases q with
    | false =>
      have HN : Hid (¬ (AskedOf N n s ∧ (goN N n 0 (nmsL s)).isSome = true)) := fun h => by have := hq.2 h.1.1; simp at this
      clear hq
      go_wp2_with fail
      exact bodyPost_ret (v := .tuple #[.agg #[.slice none 0 0], .bool false]) (by simp [results, Tryz.results17, go_sem, r2]) rfl (GetIs.no HN.out (Below.setR HB2.out (by omega)))
    | true =>
      have HG : Hid (GoodV N n) := hq.1 rfl
      have HAS : Hid (AskedOf N n s) := ⟨HG.out, hp⟩
      clear hq
      obtain ⟨b1, o1, rfl, hb1, hat1⟩ := own_some HO.out HG.out.1.1
      have HT1 : Hid (NodesAt w2 b1 o1 n N) := hat1.below HB2.out hb1
      have hbz : b1 < w2.heap.size := Nat.lt_of_lt_of_le hb1 HB2.out.size
      clear hat1
      go_wp2_with fail
      refine (nodeAt_any b1 o1 c n N a1 c1 (namesN s.data.toList) (namesF s.data.toList) _ HG.out.1.2.1 HG.out.1.1 (good_up HG.out) hbz HT1.out (by omega) HNM2.out).mono ?_
      rintro e w3 ⟨rfl, hb3⟩
      have x3 : w3.cell? ⟨w.heap.size, 0, none⟩ = some (.slice (some ⟨b1, o1, none⟩) n c) := (hb3.cell z2).trans x2
      have r3 : w3.cell? ⟨w.heap.size + 1, 0, none⟩ = some (.slice none 0 0) := (hb3.cell zR2).trans r2
      have f3 : w3.frozen? ⟨w.heap.size + 1, 0, none⟩ = false := (hb3.frozen zR2).trans f2
      have zR3 : w.heap.size + 1 < w3.heap.size := Nat.lt_of_lt_of_le zR2 hb3.size
      have HB3 : Hid (Below w.heap.size w w3) := HB2.out.trans (hb3.mono HB2.out.size)
      clear hb3
      rw [show lst (namesF s.data.toList) (namesN s.data.toList) = nmsL s from rfl]
      cases hgo : goN N n 0 (nmsL s) with
      | none =>
        have HN : Hid (¬ (AskedOf N n s ∧ (goN N n 0 (nmsL s)).isSome = true)) := fun h => by have := h.2; rw [hgo] at this; simp at this
        dsimp only [Option.isSome, Option.getD]
        go_wp2_with fail
        exact bodyPost_ret (v := .tuple #[.agg #[.slice none 0 0], .bool false]) (by simp [results, Tryz.results17, go_sem, r3]) rfl (GetIs.no HN.out (Below.setR HB3.out (by omega)))
      | some k =>
        have hk : k < n := goN_lt _ 0 k HG.out.1.1 hgo
        have HGO : Hid (goN N n 0 (nmsL s) = some k) := hgo
        have HH : Hid (HasN N n (k : Int)) := ⟨by omega, by omega, HG.out⟩
        dsimp only [Option.isSome, Option.getD]
        clear hgo
        go_wp2_with fail
        refine (implSub_own b n (some ⟨b1, o1, none⟩) c N (k : Int) _ (HO.out.below HB3.out) HSM.out (HTB.out.up HB3.out) hcap).mono ?_
        rintro e w4 ⟨v4, q4, b4, L4, rfl, hq4, hb4, ho4, hw4⟩
        obtain ⟨a4, c4, rfl⟩ := ho4.form
        have r4 : w4.cell? ⟨w.heap.size + 1, 0, none⟩ = some (.slice none 0 0) := (hw4.cell zR3).trans r3
        have f4 : w4.frozen? ⟨w.heap.size + 1, 0, none⟩ = false := (hw4.frozen zR3).trans f3
        obtain ⟨rfl, en, hen, rfl⟩ : q4 = true ∧ ∃ en, IsEnd N n k en ∧ L4 = subTo N k en := by
          rcases hq4 with ⟨rfl, _, en, he, rfl⟩ | ⟨_, hn, _⟩
          · exact ⟨rfl, en, by simpa using he, by simp⟩
          · exact absurd HH.out hn
        have HB4 : Hid (Below w.heap.size w w4) := HB3.out.trans (hw4.mono HB3.out.size)
        have HO4 : Hid (OwnAt w4 b4 (.slice a4 (subTo N k en).length c4) (subTo N k en).length (fun i => (subTo N k en).getD i ⟨0, 0, ⟨#[]⟩, ⟨#[]⟩, 0⟩)) := ho4
        have HL4 : Hid (subTo N k en ≠ [] → w3.heap.size ≤ b4 ∧ b4 < w4.heap.size) := hb4
        have HE : Hid (IsEnd N n k en) := hen
        have hne : subTo N k en ≠ [] := by unfold subTo; simp
        have hb4' := hb4 hne
        have hz3 := HB3.out.size
        clear hq4 hb4 ho4 hw4 hen
        go_wp2_with fail
        exact bodyPost_ret (v := .tuple #[.agg #[.slice a4 (subTo N k en).length c4], .bool true]) (by simp [results, Tryz.results17, go_sem, r4]) rfl ⟨_, _, b4, _, rfl, .inl ⟨rfl, HAS.out, k, en, HGO.out, HE.out, rfl⟩, fun _ => ⟨by omega, by simpa [World.setCell] using hb4'.2⟩, HO4.out.but (BelowBut.setCell (B := w4.heap.size) (b := w.heap.size + 1) _ _ _) (by omega), Below.setR HB4.out (by omega)⟩

end Go.Proofs.YtnmbnebofbdmfaaGreatDoor
