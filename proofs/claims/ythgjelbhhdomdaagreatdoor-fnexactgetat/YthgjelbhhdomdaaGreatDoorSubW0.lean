/- A node with all its own, by itself: the walks of both sides. -/
import Derived.Test.YthgjelbhhdomdaaGreatDoorSubI
import Derived.Test.YthgjelbhhdomdaaGreatDoorHasOwn
namespace Go.Proofs.YthgjelbhhdomdaaGreatDoor
open Go.RowKit
set_option linter.unusedVariables false

theorem own_set {w : World} {B R x : Nat} {v u : Value} {L : List Nd} (h : OwnsN w B v L) (hR : R < B) : OwnsN (w.setCell ⟨R, x, none⟩ u) B v L := row_block h fun b hb _ _ => Below.heap_setCell _ _ _ _ (by show b ≠ R; omega)
theorem own_len {w : World} {B m : Nat} {v : Value} {L : List Nd} (h : OwnsN w B v L) (hm : L.length = m) : w.ownsRow B 66 5 v m (ndCells L) := by rw [← hm]; exact h
theorem own_set' {w : World} {B R x : Nat} {v u : Value} {L : List Nd} (h : OwnsN w B v L) (hR : R < B) : OwnsN (w.setCell ⟨R, x, none⟩ u) B v L := own_set h hR
theorem OwnsN.low {w : World} {B B' : Nat} {v : Value} {L : List Nd} (h : OwnsN w B v L) (hB : B' ≤ B) : OwnsN w B' v L := by
  refine ⟨h.1, ?_⟩
  rcases h.2 with hn | ⟨g, cap, cur, rfl, hb, rest⟩
  · exact .inl hn
  · exact .inr ⟨g, cap, cur, rfl, by omega, rest⟩
theorem Below.setR {B R x : Nat} {w w' : World} {u : Value} (h : Below B w w') (hR : B ≤ R) : Below B w (w'.setCell ⟨R, x, none⟩ u) := h.trans ⟨rfl, rfl, rfl, by simp, fun b hb => Below.heap_setCell _ _ _ _ (by show b ≠ R; omega)⟩

theorem grown_none {w w' : World} (h : w.grownBy w' none) : Below w.heap.size w w' := ⟨h.os, h.tape, h.output, h.size, fun b hb => h.block b hb (by simp)⟩

set_option maxRecDepth 100000 in
set_option maxHeartbeats 1000000 in
theorem l1Of_any (t : Tr) (v : Value) (w : World) (h : Tree w t v) (hn : t.named) (hc : t.cnt ≤ 2 ^ 20) :
    Calls Tryz.prog 22 #[v] w fun e w' => ∃ lv, e = .returned (.agg #[lv]) ∧ OwnsN w' w.heap.size lv (t.flat ⟨#[]⟩ (-1) 0) ∧ Below w.heap.size w w' := by
  obtain ⟨k, n, tx, nm, ks⟩ := t
  obtain ⟨an, cn, ak, ck, rfl, _, _⟩ := h.open
  have HT : Hid (Tree w (.mk k n tx nm ks) _) := h
  have HN : Hid ((Tr.mk k n tx nm ks).named) := hn
  have HC : Hid ((Tr.mk k n tx nm ks).cnt ≤ 2 ^ 20) := hc
  clear h hn hc
  go_enter Tryz.func22, Tryz.ntmps22
  go_wp2_with fail
  have hb2 : ∀ o o', Below w.heap.size w ((w.alloc o).alloc o') := fun o o' => ((Below.refl _ _).alloc (Nat.le_refl _) o).alloc (by simp) o'
  refine (l1Flat_any (.mk k n tx nm ks) _ (.slice none 0 0) ⟨#[]⟩ (-1) [] (w.heap.size + 2) _ (TreeIs.keep (fun b _ hlt => (hb2 _ _).block b hlt) (fun b _ _ => by simp [Value.ownBlock]) (hb2 _ _).size _ _ HT.out) HN.out (World.ownsRow_nil _ _ _ _) (by simp) (by have := HC.out; simp; omega) (by decide) (by decide)).mono ?_
  rintro e w1 ⟨lv, rfl, ho1, hg1, _⟩
  rw [List.nil_append] at ho1
  have hb1 := grown_none hg1
  have r0 : w1.cell? ⟨w.heap.size + 1, 0, none⟩ = some (.slice none 0 0) ∧ w1.frozen? ⟨w.heap.size + 1, 0, none⟩ = false := by rw [hb1.cell (by simp), hb1.frozen (by simp)]; simp [go_sem]
  obtain ⟨r1, r2⟩ := r0
  obtain ⟨la, lc, rfl⟩ := ho1.form
  have HB : Hid (Below w.heap.size w w1) := (hb2 _ _).trans (hb1.mono (by simp; omega))
  have HO : Hid (OwnsN w1 (w.heap.size + 2) (.slice la ((Tr.mk k n tx nm ks).flat ⟨#[]⟩ (-1) 0).length lc) ((Tr.mk k n tx nm ks).flat ⟨#[]⟩ (-1) 0)) := ho1
  clear ho1 hg1 hb1 hb2
  go_wp2
  exact bodyPost_ret (v := .agg #[.slice la ((Tr.mk k n tx nm ks).flat ⟨#[]⟩ (-1) 0).length lc]) (by simp [results, Tryz.results22, go_sem, r1]) rfl ⟨_, rfl, (own_set HO.out (by omega)).low (by omega), Below.setR HB.out (by omega)⟩

set_option maxRecDepth 100000 in
set_option maxHeartbeats 1000000 in
theorem implSub_own (b n : Nat) (a : Option Addr) (c : Nat) (N : Nat → Nd) (z : Int) (w : World) (h : OwnAt w b (.slice a n c) n N) (hsm : SmallN n N) (htab : Tab w.heap.size w) (hcap : n ≤ c) :
    Calls Tryz.prog 27 #[.agg #[.slice a n c], .int .i64 z] w (SubIs N n z w) := by
  have HO : Hid (OwnAt w b (.slice a n c) n N) := h
  have HSM : Hid (SmallN n N) := hsm
  have HTB : Hid (Tab w.heap.size w) := htab
  have n20 : n ≤ 2 ^ 20 := hsm.1
  have hbl : ∀ o o', Below w.heap.size w ((w.alloc o).alloc o') := fun o o' => ((Below.refl _ _).alloc (Nat.le_refl _) o).alloc (by simp) o'
  clear h hsm htab
  obtain ⟨iN, hi, hz0, hz1, hz2⟩ := info_parts infoNode5
  have HI : Hid (Tryz.prog.info? 66 = some iN ∧ iN.zero = some (.agg #[.int .i64 0, .int .i64 0, .string ⟨#[]⟩, .string ⟨#[]⟩, .int .i64 0]) ∧ iN.size = 5 ∧ iN.bytes = 56) := ⟨hi, hz0, hz1, hz2⟩
  clear hi hz0 hz1 hz2
  go_enter Tryz.func27, Tryz.ntmps27
  go_wp2_with fail
  refine (hasNode_own b n a c N z _ (HO.out.below (hbl _ _)) HSM.out (HTB.out.up (hbl _ _))).mono ?_
  rintro e w1 ⟨q, rfl, hq, hb1⟩
  have hx : w1.cell? ⟨w.heap.size, 0, none⟩ = some (.slice a n c) := by rw [hb1.cell (by simp; omega)]; simp [go_sem]
  have hr1 : w1.cell? ⟨w.heap.size + 1, 0, none⟩ = some (.slice none 0 0) := by rw [hb1.cell (by simp)]; simp [go_sem]
  have hr2 : w1.frozen? ⟨w.heap.size + 1, 0, none⟩ = false := by rw [hb1.frozen (by simp)]; simp [go_sem]
  have HB1 : Hid (Below w.heap.size w w1) := (hbl _ _).trans (hb1.mono (by simp; omega))
  have z1 : w.heap.size < w1.heap.size := by have := hb1.size; simp at this; omega
  have zR : w.heap.size + 1 < w1.heap.size := by have := hb1.size; simp at this; omega
  clear hb1 hbl
  cases q with
  | false =>
    have HN : Hid (¬ HasN N n z) := fun h => by have := hq.2 h; simp at this
    clear hq
    go_wp2_with fail
    exact bodyPost_ret (v := .tuple #[.agg #[.slice none 0 0], .bool false]) (by simp [results, Tryz.results27, go_sem, hr1]) rfl (SubIs.no HN.out (Below.setR HB1.out (by omega)))
  | true =>
    have hh : HasN N n z := hq.1 rfl
    obtain ⟨k, rfl⟩ := Int.eq_ofNat_of_zero_le hh.1
    have hk : k < n := by have := hh.2.1; omega
    have HH : Hid (HasN N n k) := hh
    have hs := hh.2.2.1
    have HP : Hid (Pre N n) := pre_of_place fun i hi => (hs.2.2 i hi).2.1
    obtain ⟨b', off, rfl, hb', hat⟩ : ∃ b off, a = some ⟨b, off, none⟩ ∧ b < w.heap.size ∧ NodesAt w b off n N := by
      rcases own_arg HO.out with h0 | h0
      · omega
      · exact h0
    have HAT : Hid (NodesAt w1 b' off n N) := hat.below HB1.out hb'
    clear hq hh hs hat
    have hb1' : b' < w1.heap.size := by omega
    obtain ⟨a0, a1, a2, a3, a4⟩ := HAT.out k hk
    have i0 : (0 : Int) ≤ (k : Int) := by omega
    have i1 : (k : Int) < (n : Int) := by omega
    have i2 : (k : Int) + 1 ≤ (n : Int) := by omega
    have HSG : Hid (∀ j, subTo N k (k + 1 + (j + 1)) = subTo N k (k + 1 + j) ++ [{ N (k + 1 + j) with up := (N (k + 1 + j)).up - k }]) := fun j => by have := subTo_snoc (N := N) (k := k) (q := k + 1 + j) (by omega); exact this
    have HST : Hid (∀ W : World, W.heap.size = w1.heap.size → OwnsN ((W.alloc (.cells #[.int .i64 (N k).kind, .int .i64 (N k).num, .string (N k).text, .string ⟨#[]⟩, .int .i64 (-1)] 66)).alloc (.cells #[.int .i64 (N k).kind, .int .i64 (N k).num, .string (N k).text, .string ⟨#[]⟩, .int .i64 (-1)] 66)) w1.heap.size (.slice (some ⟨w1.heap.size + 1, 0, none⟩) 1 1) (subTo N k (k + 1))) := by
      intro W hW
      rw [← hW]
      refine ⟨by rw [subTo_len]; simp [subTo, seg_nil, ndCells], .inr ⟨W.heap.size + 1, 1, #[.int .i64 (N k).kind, .int .i64 (N k).num, .string (N k).text, .string ⟨#[]⟩, .int .i64 (-1)], by rw [subTo_len]; simp, by omega, ?_, by rw [subTo_len]; simp, by unfold maxLen; omega, rfl, ?_⟩⟩
      · have := heap_alloc_new (W.alloc (.cells #[.int .i64 (N k).kind, .int .i64 (N k).num, .string (N k).text, .string ⟨#[]⟩, .int .i64 (-1)] 66)) (.cells #[.int .i64 (N k).kind, .int .i64 (N k).num, .string (N k).text, .string ⟨#[]⟩, .int .i64 (-1)] 66)
        rw [World.size_alloc] at this
        exact this
      · rw [subTo_len]
        simp [subTo, seg_nil, ndCells]
    have hal2 : ∀ o o', Below w1.heap.size w1 ((w1.alloc o).alloc o') := fun o o' => ((Below.refl _ _).alloc (Nat.le_refl _) o).alloc (by simp) o'
    have HS2 : Hid (HasN N n k ∧ n ≤ 2 ^ 20) := ⟨HH.out, n20⟩
    have HPN : Hid (∀ i, 0 < i → i < n → 0 ≤ (N i).up ∧ (N i).up < i) := fun i h1 h2 => ⟨(HP.out.2 i h1 h2).1, (HP.out.2 i h1 h2).2.1⟩
    by_cases hlast : c = k + 1
    · have hnk : n = k + 1 := by omega
      subst hnk
      subst hlast
      have HE : Hid (IsEnd N (k + 1) k (k + 1)) := ⟨by omega, Nat.le_refl _, fun i h1 h2 => by omega, fun h => by omega⟩
      have s0 : k + 1 - (k + 1) = 0 := by omega
      go_wp2_with fail
      go_rounds 1
      have q3 := fun o o' => ((hal2 o o').cell (p := ⟨w.heap.size + 1, 0, none⟩) zR).trans hr1
      have q4 := fun o o' => ((hal2 o o').frozen (p := ⟨w.heap.size + 1, 0, none⟩) zR).trans hr2
      have q5 : ∀ v o o', (((w1.setCell ⟨w.heap.size + 1, 0, none⟩ v).alloc o).alloc o').cell? ⟨w.heap.size + 1, 0, none⟩ = some v := fun v o o' => by
        rw [cell_past _ _ (by simp; omega), cell_past _ _ (by simp; omega), cell_set (by rw [hr1]; rfl), if_pos rfl]
      go_wp2_with fail
      exact bodyPost_ret (v := .tuple #[.agg #[.slice (some ⟨w1.heap.size + 1, 0, none⟩) 1 1], .bool true]) (by simp [results, Tryz.results27, go_sem, q5]) rfl (SubIs.yes HS2.out.1 HE.out HB1.out.size HS2.out.2 (HST.out _ (by simp)) (((Below.setR HB1.out (by omega)).alloc (by simp; omega) _).alloc (by simp; omega) _))
    · go_wp2_with fail
      go_loopw [7, 30] (fun v i wr => ∃ (j : Nat) (am : Option Addr) (dm : Nat), j ≤ n - (k + 1) ∧ i = .int .i64 j ∧ v = .slice am (j + 1) dm ∧ Hid (OwnsN wr w1.heap.size (.slice am (j + 1) dm) (subTo N k (k + 1 + j))) ∧ Hid (∀ i, k < i → i < k + 1 + j → (k : Int) ≤ (N i).up) ∧ Below w1.heap.size w1 wr) (fun _ i _ => n - (k + 1) - (intOf i).toNat)
      case atStart => exact ⟨0, _, _, Nat.zero_le _, rfl, rfl, HST.out w1 rfl, fun i h1 h2 => by omega, hal2 _ _⟩
      case round =>
        obtain ⟨j, am, dm, hj, rfl, rfl, HOJ, HUP, hnx⟩ := hrel
        have hzw := hnx.size
        have q1 : wr.cell? ⟨w.heap.size + 1, 0, none⟩ = some (.slice none 0 0) := (hnx.cell zR).trans hr1
        have q2 : wr.frozen? ⟨w.heap.size + 1, 0, none⟩ = false := (hnx.frozen zR).trans hr2
        have hRw : w.heap.size + 1 < wr.heap.size := by omega
        have q3 := fun o => (cell_past wr o (x := 0) hRw).trans q1
        have q4 := fun o => (frozen_past wr o (x := 0) hRw).trans q2
        have q5 : ∀ v o, ((wr.setCell ⟨w.heap.size + 1, 0, none⟩ v).alloc o).cell? ⟨w.heap.size + 1, 0, none⟩ = some v := fun v o => by
          rw [cell_past _ _ (by simp; omega), cell_set (by rw [q1]; rfl), if_pos rfl]
        by_cases hlt : j < n - (k + 1)
        · obtain ⟨e0, e1, e2, e3, e4⟩ := HAT.out.below hnx hb1' (k + 1 + j) (by omega)
          have eo : off + (k + 1 + j) * 5 = off + (k + 1) * 5 + j * 5 := by omega
          rw [eo] at e0 e1 e2 e3 e4
          have j0 : (0 : Int) ≤ (j : Int) := by omega
          have j1 : (j : Int) < ((n - (k + 1) : Nat) : Int) := by omega
          have hbw : b' < wr.heap.size := by omega
          obtain ⟨y, hy⟩ : ∃ y, y = N (k + 1 + j) := ⟨_, rfl⟩
          rw [← hy] at e0 e1 e2 e3 e4
          have HY : Hid (y = N (k + 1 + j)) := hy
          clear eo hy
          by_cases hu : y.up < (k : Int)
          · have HE : Hid (IsEnd N n k (k + 1 + j)) := ⟨by omega, by omega, HUP.out, fun _ => by rw [← HY.out]; exact hu⟩
            have hsl : (subTo N k (k + 1 + j)).length = j + 1 := by rw [subTo_len]; omega
            go_wp2_with fail
            exact bodyPost_ret (v := .tuple #[.agg #[.slice am (j + 1) dm], .bool true]) (by simp [results, Tryz.results27, go_sem, q5]) rfl (SubIs.yes HS2.out.1 HE.out HB1.out.size HS2.out.2 (World.ownsRow.alloc (own_set' HOJ.out zR) _) ((Below.setR (HB1.out.trans (hnx.mono HB1.out.size)) (by omega)).alloc (by simp; omega) _))
          · have hu' : ¬ y.up < (k : Int) := hu
            have hupb : (k : Int) ≤ y.up ∧ y.up < n := by
              have h1 := HPN.out (k + 1 + j) (by omega) (by omega)
              rw [← HY.out] at h1
              omega
            go_wp2_with (first | (at_builtin; refine wpList_append_own _ rfl _ _ 26 rfl w1.heap.size 66 iN _ 5 56 Tryz.underlying26 HI.out.1 HI.out.2.1 HI.out.2.2.1 HI.out.2.2.2 rfl (by decide) _ (j + 1) _ rfl (World.ownsRow.alloc (World.ownsRow.alloc (own_len HOJ.out (by rw [subTo_len]; omega)) _) _) ⟨wr.heap.size + 1, 0, none⟩ 1 1 [.int .i64 y.kind, .int .i64 y.num, .string y.text, .string y.name, .int .i64 (y.up - k)] rfl rfl ?c1 ?c2 ?c3 ?c4 ?c5 ?_))
            case c2 => first | exact ⟨rfl, rfl, rfl, rfl, rfl⟩ | exact nd_one _ _ _ _ _
            case c3 => unfold maxLen; omega
            case c4 => omega
            case c5 => first | omega | (simp; omega)
            intro v2 w2 hown2 hgrow _
            have HB2 : Hid (Below w1.heap.size w1 w2) := grow_below (World.ownsRow.alloc HOJ.out _) _ (hnx.alloc hzw _) (by simp; omega) hgrow
            have ho2 : OwnsN w2 w1.heap.size v2 (subTo N k (k + 1 + (j + 1))) := by
              unfold OwnsN
              rw [HSG.out j, nd_snoc, List.length_append, subTo_len, ← HY.out]
              have e1 : k + 1 + j - (k + 1) + 1 + [({ y with up := y.up - k } : Nd)].length = j + 1 + 1 := by simp
              rw [e1]
              exact hown2
            obtain ⟨a2, d2, rfl⟩ := ho2.form
            have hsl2 : (subTo N k (k + 1 + (j + 1))).length = j + 1 + 1 := by rw [subTo_len]; omega
            rw [hsl2] at ho2 ⊢
            have HO2 : Hid (OwnsN w2 w1.heap.size (.slice a2 (j + 1 + 1) d2) (subTo N k (k + 1 + (j + 1)))) := ho2
            have HU2 : Hid (∀ i, k < i → i < k + 1 + (j + 1) → (k : Int) ≤ (N i).up) := fun i h1 h2 => by
              by_cases e : i = k + 1 + j
              · rw [e, ← HY.out]; exact hupb.1
              · exact HUP.out i h1 (by omega)
            clear hown2 hgrow ho2 hsl2
            go_wp2_with fail
            go_roundw
            case rel => exact ⟨j + 1, a2, d2, by omega, by go_num, rfl, HO2, HU2, HB2.out⟩
            case measure => simp [intOf]; omega
        · have hjn : k + 1 + j = n := by omega
          have HE : Hid (IsEnd N n k (k + 1 + j)) := ⟨by omega, by omega, HUP.out, fun h => by omega⟩
          go_wp2_with fail
          exact bodyPost_ret (v := .tuple #[.agg #[.slice am (j + 1) dm], .bool true]) (by simp [results, Tryz.results27, go_sem, q1]) rfl (SubIs.yes HS2.out.1 HE.out HB1.out.size HS2.out.2 (own_set' HOJ.out zR) (Below.setR (HB1.out.trans (hnx.mono HB1.out.size)) (by omega)))

end Go.Proofs.YthgjelbhhdomdaaGreatDoor
