/- The program's text of a list and of a map; and so of every value. -/
import Derived.Test.YtjbjgkkkkghcgaaGreatDoorAppN
namespace Go.Proofs.YtjbjgkkkkghcgaaGreatDoor
open Go.RowKit
set_option linter.unusedVariables false

theorem kids_first {N : Nat → Nd} {n k q : Nat} (h : Pre N n) (hb : Bnd N n k q) : (kidsTo N k q).length = 0 ↔ q = k + 1 := by
  have h1 := hb.1
  constructor
  · intro e
    by_cases hq : q = k + 1
    · exact hq
    · exfalso
      have hu := hb.2.2.1 (k + 1) (by omega) (by omega)
      have hp := h.2 (k + 1) (by omega) (by have := hb.2.1; omega)
      obtain ⟨t, ht⟩ := kidsTo_prefix N k (k + 1 + 1) (q - (k + 1 + 1))
      rw [show k + 1 + 1 + (q - (k + 1 + 1)) = q by omega, kidsTo, if_pos ⟨by omega, by omega⟩] at ht
      rw [ht] at e
      simp at e
  · rintro rfl
    have := kidsTo_skip (N := N) (k := k) (a := 0) (k + 1) (fun i h1 h2 ⟨h3, _⟩ => by omega)
    rw [Nat.zero_add] at this
    rw [this]
    rfl

/-- What has been told behind the parts ahead of q. -/
def innAt (N : Nat → Nd) (n k q : Nat) : List UInt8 := innerTo (fun p => headL N k p ++ T N n p) (kidsTo N k n) (kidsTo N k q).length
theorem innAt_start {N : Nat → Nd} {n k : Nat} (h : Pre N n) (hk : k < n) : innAt N n k (k + 1) = [] := by
  unfold innAt
  rw [(kids_first h (bnd_start h hk)).2 rfl]
  rfl
theorem innAt_next {N : Nat → Nd} {n k q e : Nat} (h : Pre N n) (hb : Bnd N n k q) (hq : q < n) (hu : (N q).up = k) (he : IsEnd N n q e) : innAt N n k e = innAt N n k q ++ ((if q = k + 1 then [] else [44]) ++ (headL N k q ++ T N n q)) := by
  obtain ⟨_, hk2⟩ := bnd_next h hb hq hu he
  obtain ⟨ha, _⟩ := kids_at he.2.1 hk2
  unfold innAt
  rw [hk2, List.length_append, List.length_singleton, innerTo, ha]
  have hf := kids_first h hb
  by_cases e1 : q = k + 1
  · rw [if_pos e1, if_pos (hf.2 e1)]
  · rw [if_neg e1, if_neg (fun h => e1 (hf.1 h))]
theorem innAt_end {N : Nat → Nd} {n k q : Nat} (h : Pre N n) (hk : k < n) (h67 : (N k).kind = 6 ∨ (N k).kind = 7) (hb : Bnd N n k q) (hs : q < n → (N q).up ≠ k) : T N n k = openL N k :: (innAt N n k q ++ [closeL N k]) := by
  rw [T_parts hk h67]
  unfold innAt
  rw [(bnd_stop h hb hs).2]
theorem innAt_len {N : Nat → Nd} {n k q : Nat} (h : TB N n) (hn : n ≤ 80) (hk : k < n) (h67 : (N k).kind = 6 ∨ (N k).kind = 7) (hq : q ≤ n) : (innAt N n k q).length ≤ 16000 := by
  obtain ⟨t, ht⟩ := kidsTo_prefix N k q (n - q)
  rw [show q + (n - q) = n by omega] at ht
  have := inner_le h hk h67 (kidsTo N k q).length (by rw [ht, List.length_append]; omega)
  unfold innAt
  omega

theorem NodesAt.down {w w' : World} {B b off n : Nat} {N : Nat → Nd} (h : NodesAt w b off n N) (hb : Below B w w') (hB : b < B) : NodesAt w' b off n N := h.below hb hB

set_option maxRecDepth 100000 in
set_option maxHeartbeats 4000000 in
theorem appendParts_list (N : Nat → Nd) (n k : Nat) (hn : n ≤ 80) (hk : k < n) (ht : TOK N n) (h6 : (N k).kind = 6) (ih : ∀ p, k < p → p < n → NodeSaid N n p) : PartsSaid N n k := by
  intro B b off c v l w hown hB hb hat htab hlen
  obtain ⟨a0, a1, a2, a3, a4⟩ := hat k hk
  rw [h6] at a0
  have i0 : (0 : Int) ≤ (k : Int) := by omega
  have i1 : (k : Int) < (n : Int) := by omega
  obtain ⟨i0, hi, hz0, hz1, hz2⟩ := info_parts infoU8
  have HI0 : Hid (Tryz.prog.info? 5 = some i0 ∧ i0.zero = some (.int .u8 0) ∧ i0.size = 1 ∧ i0.bytes = 1) := ⟨hi, hz0, hz1, hz2⟩
  have H67 : Hid ((N k).kind = 6 ∨ (N k).kind = 7) := by show _ ∨ _; omega
  have HK : Hid ((N k).kind = 6) := h6
  have HO : Hid (OwnsB w B v l) := hown
  have HTB : Hid (Tab B w) := htab
  have HAT : Hid (NodesAt w b off n N) := hat
  have HT : Hid (TOK N n) := ht
  have HIH : Hid (∀ p, k < p → p < n → NodeSaid N n p) := ih
  clear hi hz0 hz1 hz2 h6 hown htab hat ht ih a1 a2 a3 a4
  go_enter Tryz.func91, Tryz.ntmps91
  go_wp2_with (first | (at_builtin; refine wpList_append_own _ rfl _ _ 73 rfl B 5 i0 (.int .u8 0) 1 1 Tryz.underlying73 HI0.out.1 HI0.out.2.1 HI0.out.2.2.1 HI0.out.2.2.2 rfl (by decide) _ _ _ rfl (World.ownsRow.alloc HO.out _) ⟨w.heap.size, 0, none⟩ 1 1 [.int .u8 91] rfl rfl ?c1 ?c2 ?c3 ?c4 ?c5 ?_) | go_in)
  case c1 => exact one_news _ _ _
  case c2 => exact one_cell_int _ _
  case c3 => unfold maxLen; omega
  case c4 => omega
  case c5 => simp; omega
  intro v1 w1 hown' hgrow _
  have HB1 : Hid (Below B w w1) := grow_below HO.out _ (Below.refl _ _) (by omega) hgrow
  have HO1' : OwnsB w1 B v1 (l ++ [91]) := OwnsB.snoc 91 _ rfl hown'
  have zzw1 := HB1.out.size
  obtain ⟨L1, hL1⟩ : ∃ L1, L1 = l ++ [91] := ⟨_, rfl⟩
  have llL1 : L1.length ≤ l.length + 1 := by rw [hL1, List.length_append, List.length_singleton]; exact Nat.le_refl _
  rw [← hL1] at HO1'
  have HO1 : Hid (OwnsB w1 B v1 L1) := HO1'
  have HL1 : Hid (L1 = l ++ [91]) := hL1
  clear hown' hgrow hL1 HO1'
  go_wp2_with fail
  go_loopw [0, 10] (fun v i wr => ∃ (q : Nat) (L : List UInt8), i = .int .i64 q ∧ q ≤ n ∧ L.length ≤ l.length + 16001 ∧ Hid (Bnd N n k q) ∧ Hid (L = l ++ (91 :: innAt N n k q)) ∧ Hid (OwnsB wr B v L) ∧ Below B w wr) (fun _ i _ => n - (intOf i).toNat)
  case atStart =>
    refine ⟨k + 1, L1, by go_num, by omega, by omega, bnd_start HT.out.tb.pre hk, ?_, HO1, HB1.out⟩
    show _ = _
    rw [HL1.out, innAt_start HT.out.tb.pre hk]
  case round =>
    obtain ⟨q, L, rfl, hqn, hll, HBN, HL, HR, hnx⟩ := hrel
    have hz := hnx.size
    have hkq : k < q := HBN.out.1
    have d0 := (HAT.out.down hnx hb k hk).1
    rw [HK.out] at d0
    have j0 : (0 : Int) ≤ (q : Int) := by omega
    by_cases hlt : q < n
    · obtain ⟨g0, g1, g2, g3, g4⟩ := HAT.out.down hnx hb q hlt
      have j1 : (q : Int) < (n : Int) := by omega
      by_cases hu : (N q).up = k
      · have hub : ((N q).up == (k : Int)) = true := by simpa using hu
        have HU : Hid ((N q).up = k) := hu
        have hns := HT.out.tb.name q hlt
        clear hu g0 g1 g2
        by_cases hf : q = k + 1
        · have hf' : ¬ (k : Int) + 1 < (q : Int) := by omega
          have HF : Hid (q = k + 1) := hf
          clear hf
          go_wp2_with fail
          refine (HIH.out q hkq hlt B b off c _ L _ HR.out (by omega) hb (HAT.out.down hnx hb) (HTB.out.on hnx) (by omega)).mono ?_
          rintro e w9 ⟨v9, en, rfl, ho9, he9, hb9⟩
          have HO9 : Hid (OwnsB w9 B v9 (L ++ T N n q)) := ho9
          have HB9 : Hid (Below B w w9) := hnx.trans hb9
          have HIN : Hid (innAt N n k en = innAt N n k q ++ ((if q = k + 1 then [] else [44]) ++ (headL N k q ++ T N n q))) := innAt_next HT.out.tb.pre HBN.out hlt HU.out he9
          have HBN9 : Hid (Bnd N n k en) := (bnd_next HT.out.tb.pre HBN.out hlt HU.out he9).1
          have hen : q < en ∧ en ≤ n := ⟨he9.1, he9.2.1⟩
          clear ho9 hb9 he9
          go_wp2_with fail
          go_roundw
          case rel =>
            have e9 : L ++ T N n q = l ++ (91 :: innAt N n k en) := by
              rw [HL.out, HIN.out, if_pos HF.out, headL_list HK.out]
              simp
            refine ⟨en, l ++ (91 :: innAt N n k en), rfl, hen.2, ?_, HBN9, rfl, by show OwnsB _ _ _ _; rw [← e9]; exact HO9.out, HB9.out⟩
            have := innAt_len HT.out.tb hn hk H67.out hen.2
            rw [List.length_append, List.length_cons]
            omega
          case measure => simp [intOf]; omega
        · have hf' : (k : Int) + 1 < (q : Int) := by omega
          have HF : Hid (¬ q = k + 1) := hf
          clear hf
          go_wp2_with (first | (at_builtin; refine wpList_append_own _ rfl _ _ 73 rfl B 5 i0 (.int .u8 0) 1 1 Tryz.underlying73 HI0.out.1 HI0.out.2.1 HI0.out.2.2.1 HI0.out.2.2.2 rfl (by decide) _ _ _ rfl (World.ownsRow.alloc HR.out _) ⟨wr.heap.size, 0, none⟩ 1 1 [.int .u8 44] rfl rfl ?c1 ?c2 ?c3 ?c4 ?c5 ?_))
          case c1 => exact one_news _ _ _
          case c2 => exact one_cell_int _ _
          case c3 => unfold maxLen; omega
          case c4 => omega
          case c5 => simp; omega
          intro v2 w2 hown' hgrow _
          have HB2 : Hid (Below B w w2) := grow_below HR.out _ hnx (by omega) hgrow
          have HO2' : OwnsB w2 B v2 (L ++ [44]) := OwnsB.snoc 44 _ rfl hown'
          have zzw2 := HB2.out.size
          obtain ⟨L2, hL2⟩ : ∃ L2, L2 = L ++ [44] := ⟨_, rfl⟩
          have llL2 : L2.length ≤ L.length + 1 := by rw [hL2, List.length_append, List.length_singleton]; exact Nat.le_refl _
          rw [← hL2] at HO2'
          have HO2 : Hid (OwnsB w2 B v2 L2) := HO2'
          have HL2 : Hid (L2 = L ++ [44]) := hL2
          clear hown' hgrow hL2 HO2'
          have d0' := (HAT.out.down HB2.out hb k hk).1
          rw [HK.out] at d0'
          go_wp2_with fail
          refine (HIH.out q hkq hlt B b off c _ L2 _ HO2.out (by omega) hb (HAT.out.down HB2.out hb) (HTB.out.on HB2.out) (by omega)).mono ?_
          rintro e w9 ⟨v9, en, rfl, ho9, he9, hb9⟩
          have HO9 : Hid (OwnsB w9 B v9 (L2 ++ T N n q)) := ho9
          have HB9 : Hid (Below B w w9) := HB2.out.trans hb9
          have HIN : Hid (innAt N n k en = innAt N n k q ++ ((if q = k + 1 then [] else [44]) ++ (headL N k q ++ T N n q))) := innAt_next HT.out.tb.pre HBN.out hlt HU.out he9
          have HBN9 : Hid (Bnd N n k en) := (bnd_next HT.out.tb.pre HBN.out hlt HU.out he9).1
          have hen : q < en ∧ en ≤ n := ⟨he9.1, he9.2.1⟩
          clear ho9 hb9 he9
          go_wp2_with fail
          go_roundw
          case rel =>
            have e9 : L2 ++ T N n q = l ++ (91 :: innAt N n k en) := by
              rw [HL2.out, HL.out, HIN.out, if_neg HF.out, headL_list HK.out]
              simp
            refine ⟨en, l ++ (91 :: innAt N n k en), rfl, hen.2, ?_, HBN9, rfl, by show OwnsB _ _ _ _; rw [← e9]; exact HO9.out, HB9.out⟩
            have := innAt_len HT.out.tb hn hk H67.out hen.2
            rw [List.length_append, List.length_cons]
            omega
          case measure => simp [intOf]; omega
      · have hub : ((N q).up == (k : Int)) = false := by simpa using hu
        have HEND : Hid (IsEnd N n k q ∧ T N n k = openL N k :: (innAt N n k q ++ [closeL N k])) := ⟨(bnd_stop HT.out.tb.pre HBN.out (fun _ => hu)).1, innAt_end HT.out.tb.pre hk H67.out HBN.out (fun _ => hu)⟩
        clear hu g0 g1 g2 g3
        go_wp2_with (first | (at_builtin; refine wpList_append_own _ rfl _ _ 73 rfl B 5 i0 (.int .u8 0) 1 1 Tryz.underlying73 HI0.out.1 HI0.out.2.1 HI0.out.2.2.1 HI0.out.2.2.2 rfl (by decide) _ _ _ rfl (World.ownsRow.alloc HR.out _) ⟨wr.heap.size, 0, none⟩ 1 1 [.int .u8 93] rfl rfl ?c1 ?c2 ?c3 ?c4 ?c5 ?_))
        case c1 => exact one_news _ _ _
        case c2 => exact one_cell_int _ _
        case c3 => unfold maxLen; omega
        case c4 => omega
        case c5 => simp; omega
        intro v2 w2 hown' hgrow _
        have HB2 : Hid (Below B w w2) := grow_below HR.out _ hnx (by omega) hgrow
        have HO2' : OwnsB w2 B v2 (L ++ [93]) := OwnsB.snoc 93 _ rfl hown'
        have zzw2 := HB2.out.size
        obtain ⟨L2, hL2⟩ : ∃ L2, L2 = L ++ [93] := ⟨_, rfl⟩
        have llL2 : L2.length ≤ L.length + 1 := by rw [hL2, List.length_append, List.length_singleton]; exact Nat.le_refl _
        rw [← hL2] at HO2'
        have HO2 : Hid (OwnsB w2 B v2 L2) := HO2'
        have HL2 : Hid (L2 = L ++ [93]) := hL2
        clear hown' hgrow hL2 HO2'
        go_wp2
        go_ret2
        refine ⟨v2, q, rfl, ?_, HEND.out.1, HB2.out⟩
        rw [HEND.out.2, openL, closeL, if_neg (by rw [HK.out]; omega), if_neg (by rw [HK.out]; omega), show l ++ 91 :: (innAt N n k q ++ [93]) = L2 by rw [HL2.out, HL.out]; simp]
        exact HO2.out
    · have HEND : Hid (IsEnd N n k q ∧ T N n k = openL N k :: (innAt N n k q ++ [closeL N k])) := ⟨(bnd_stop HT.out.tb.pre HBN.out (fun h => absurd h hlt)).1, innAt_end HT.out.tb.pre hk H67.out HBN.out (fun h => absurd h hlt)⟩
      have hlt' : ¬ (q : Int) < (n : Int) := by omega
      go_wp2_with (first | (at_builtin; refine wpList_append_own _ rfl _ _ 73 rfl B 5 i0 (.int .u8 0) 1 1 Tryz.underlying73 HI0.out.1 HI0.out.2.1 HI0.out.2.2.1 HI0.out.2.2.2 rfl (by decide) _ _ _ rfl (World.ownsRow.alloc HR.out _) ⟨wr.heap.size, 0, none⟩ 1 1 [.int .u8 93] rfl rfl ?c1 ?c2 ?c3 ?c4 ?c5 ?_))
      any_goals first | exact one_news _ _ _ | exact one_cell_int _ _ | (unfold maxLen; omega) | omega | (rw [World.size_alloc]; omega) | rfl
      intro v2 w2 hown' hgrow _
      have HB2 : Hid (Below B w w2) := grow_below HR.out _ hnx (by omega) hgrow
      have HO2' : OwnsB w2 B v2 (L ++ [93]) := OwnsB.snoc 93 _ rfl hown'
      have zzw2 := HB2.out.size
      obtain ⟨L2, hL2⟩ : ∃ L2, L2 = L ++ [93] := ⟨_, rfl⟩
      have llL2 : L2.length ≤ L.length + 1 := by rw [hL2, List.length_append, List.length_singleton]; exact Nat.le_refl _
      rw [← hL2] at HO2'
      have HO2 : Hid (OwnsB w2 B v2 L2) := HO2'
      have HL2 : Hid (L2 = L ++ [93]) := hL2
      clear hown' hgrow hL2 HO2'
      go_wp2
      go_ret2
      refine ⟨v2, q, rfl, ?_, HEND.out.1, HB2.out⟩
      rw [HEND.out.2, openL, closeL, if_neg (by rw [HK.out]; omega), if_neg (by rw [HK.out]; omega), show l ++ 91 :: (innAt N n k q ++ [93]) = L2 by rw [HL2.out, HL.out]; simp]
      exact HO2.out

set_option maxRecDepth 100000 in
set_option maxHeartbeats 4000000 in
theorem appendParts_map (N : Nat → Nd) (n k : Nat) (hn : n ≤ 80) (hk : k < n) (ht : TOK N n) (h6 : (N k).kind = 7) (ih : ∀ p, k < p → p < n → NodeSaid N n p) : PartsSaid N n k := by
  intro B b off c v l w hown hB hb hat htab hlen
  obtain ⟨a0, a1, a2, a3, a4⟩ := hat k hk
  rw [h6] at a0
  have i0 : (0 : Int) ≤ (k : Int) := by omega
  have i1 : (k : Int) < (n : Int) := by omega
  obtain ⟨i0, hi, hz0, hz1, hz2⟩ := info_parts infoU8
  have HI0 : Hid (Tryz.prog.info? 5 = some i0 ∧ i0.zero = some (.int .u8 0) ∧ i0.size = 1 ∧ i0.bytes = 1) := ⟨hi, hz0, hz1, hz2⟩
  have H67 : Hid ((N k).kind = 6 ∨ (N k).kind = 7) := by show _ ∨ _; omega
  have HK : Hid ((N k).kind = 7) := h6
  have HO : Hid (OwnsB w B v l) := hown
  have HTB : Hid (Tab B w) := htab
  have HAT : Hid (NodesAt w b off n N) := hat
  have HT : Hid (TOK N n) := ht
  have HIH : Hid (∀ p, k < p → p < n → NodeSaid N n p) := ih
  clear hi hz0 hz1 hz2 h6 hown htab hat ht ih a1 a2 a3 a4
  go_enter Tryz.func91, Tryz.ntmps91
  go_wp2_with (first | (at_builtin; refine wpList_append_own _ rfl _ _ 73 rfl B 5 i0 (.int .u8 0) 1 1 Tryz.underlying73 HI0.out.1 HI0.out.2.1 HI0.out.2.2.1 HI0.out.2.2.2 rfl (by decide) _ _ _ rfl (World.ownsRow.alloc HO.out _) ⟨w.heap.size, 0, none⟩ 1 1 [.int .u8 123] rfl rfl ?c1 ?c2 ?c3 ?c4 ?c5 ?_) | go_in)
  case c1 => exact one_news _ _ _
  case c2 => exact one_cell_int _ _
  case c3 => unfold maxLen; omega
  case c4 => omega
  case c5 => simp; omega
  intro v1 w1 hown' hgrow _
  have HB1 : Hid (Below B w w1) := grow_below HO.out _ (Below.refl _ _) (by omega) hgrow
  have HO1' : OwnsB w1 B v1 (l ++ [123]) := OwnsB.snoc 123 _ rfl hown'
  have zzw1 := HB1.out.size
  obtain ⟨L1, hL1⟩ : ∃ L1, L1 = l ++ [123] := ⟨_, rfl⟩
  have llL1 : L1.length ≤ l.length + 1 := by rw [hL1, List.length_append, List.length_singleton]; exact Nat.le_refl _
  rw [← hL1] at HO1'
  have HO1 : Hid (OwnsB w1 B v1 L1) := HO1'
  have HL1 : Hid (L1 = l ++ [123]) := hL1
  clear hown' hgrow hL1 HO1'
  go_wp2_with fail
  go_loopw [0, 10] (fun v i wr => ∃ (q : Nat) (L : List UInt8), i = .int .i64 q ∧ q ≤ n ∧ L.length ≤ l.length + 16001 ∧ Hid (Bnd N n k q) ∧ Hid (L = l ++ (123 :: innAt N n k q)) ∧ Hid (OwnsB wr B v L) ∧ Below B w wr) (fun _ i _ => n - (intOf i).toNat)
  case atStart =>
    refine ⟨k + 1, L1, by go_num, by omega, by omega, bnd_start HT.out.tb.pre hk, ?_, HO1, HB1.out⟩
    show _ = _
    rw [HL1.out, innAt_start HT.out.tb.pre hk]
  case round =>
    obtain ⟨q, L, rfl, hqn, hll, HBN, HL, HR, hnx⟩ := hrel
    have hz := hnx.size
    have hkq : k < q := HBN.out.1
    have d0 := (HAT.out.down hnx hb k hk).1
    rw [HK.out] at d0
    have j0 : (0 : Int) ≤ (q : Int) := by omega
    by_cases hlt : q < n
    · obtain ⟨g0, g1, g2, g3, g4⟩ := HAT.out.down hnx hb q hlt
      have j1 : (q : Int) < (n : Int) := by omega
      by_cases hu : (N q).up = k
      · have hub : ((N q).up == (k : Int)) = true := by simpa using hu
        have HU : Hid ((N q).up = k) := hu
        have hns := HT.out.tb.name q hlt
        clear hu g0 g1 g2
        by_cases hf : q = k + 1
        · have hf' : ¬ (k : Int) + 1 < (q : Int) := by omega
          have HF : Hid (q = k + 1) := hf
          clear hf
          go_wp2_with fail
          refine (appendQuoted_any B _ L _ _ HR.out (by omega) hns (by omega)).mono ?_
          rintro e w2 ⟨v2, rfl, ho2, hb2⟩
          obtain ⟨L2, hL2⟩ : ∃ L2, L2 = L ++ quoteL (N q).name := ⟨_, rfl⟩
          have hq2 := quoteL_len (N q).name
          have llL2 : L2.length ≤ L.length + 50 := by rw [hL2, List.length_append]; omega
          rw [← hL2] at ho2
          have HO2 : Hid (OwnsB w2 B v2 L2) := ho2
          have HB2 : Hid (Below B w w2) := hnx.trans hb2
          have zzw2 := HB2.out.size
          have HL2 : Hid (L2 = L ++ quoteL (N q).name) := hL2
          clear ho2 hb2 hL2 hq2
          go_wp2_with (first | (at_builtin; refine wpList_append_own _ rfl _ _ 73 rfl B 5 i0 (.int .u8 0) 1 1 Tryz.underlying73 HI0.out.1 HI0.out.2.1 HI0.out.2.2.1 HI0.out.2.2.2 rfl (by decide) _ _ _ rfl (World.ownsRow.alloc HO2.out _) ⟨w2.heap.size, 0, none⟩ 1 1 [.int .u8 58] rfl rfl ?c1 ?c2 ?c3 ?c4 ?c5 ?_))
          case c1 => exact one_news _ _ _
          case c2 => exact one_cell_int _ _
          case c3 => unfold maxLen; omega
          case c4 => omega
          case c5 => simp; omega
          intro v3 w3 hown' hgrow _
          have HB3 : Hid (Below B w w3) := grow_below HO2.out _ HB2.out (by omega) hgrow
          have HO3' : OwnsB w3 B v3 (L2 ++ [58]) := OwnsB.snoc 58 _ rfl hown'
          have zzw3 := HB3.out.size
          obtain ⟨L3, hL3⟩ : ∃ L3, L3 = L2 ++ [58] := ⟨_, rfl⟩
          have llL3 : L3.length ≤ L2.length + 1 := by rw [hL3, List.length_append, List.length_singleton]; exact Nat.le_refl _
          rw [← hL3] at HO3'
          have HO3 : Hid (OwnsB w3 B v3 L3) := HO3'
          have HL3 : Hid (L3 = L2 ++ [58]) := hL3
          clear hown' hgrow hL3 HO3'
          go_wp2_with fail
          refine (HIH.out q hkq hlt B b off c _ L3 _ HO3.out (by omega) hb (HAT.out.down HB3.out hb) (HTB.out.on HB3.out) (by omega)).mono ?_
          rintro e w9 ⟨v9, en, rfl, ho9, he9, hb9⟩
          have HO9 : Hid (OwnsB w9 B v9 (L3 ++ T N n q)) := ho9
          have HB9 : Hid (Below B w w9) := HB3.out.trans hb9
          have HIN : Hid (innAt N n k en = innAt N n k q ++ ((if q = k + 1 then [] else [44]) ++ (headL N k q ++ T N n q))) := innAt_next HT.out.tb.pre HBN.out hlt HU.out he9
          have HBN9 : Hid (Bnd N n k en) := (bnd_next HT.out.tb.pre HBN.out hlt HU.out he9).1
          have hen : q < en ∧ en ≤ n := ⟨he9.1, he9.2.1⟩
          clear ho9 hb9 he9
          go_wp2_with fail
          go_roundw
          case rel =>
            have e9 : L3 ++ T N n q = l ++ (123 :: innAt N n k en) := by
              rw [HL3.out, HL2.out, HL.out, HIN.out, if_pos HF.out, headL_map HK.out]
              simp
            refine ⟨en, l ++ (123 :: innAt N n k en), rfl, hen.2, ?_, HBN9, rfl, by show OwnsB _ _ _ _; rw [← e9]; exact HO9.out, HB9.out⟩
            have := innAt_len HT.out.tb hn hk H67.out hen.2
            rw [List.length_append, List.length_cons]
            omega
          case measure => simp [intOf]; omega
        · have hf' : (k : Int) + 1 < (q : Int) := by omega
          have HF : Hid (¬ q = k + 1) := hf
          clear hf
          go_wp2_with (first | (at_builtin; refine wpList_append_own _ rfl _ _ 73 rfl B 5 i0 (.int .u8 0) 1 1 Tryz.underlying73 HI0.out.1 HI0.out.2.1 HI0.out.2.2.1 HI0.out.2.2.2 rfl (by decide) _ _ _ rfl (World.ownsRow.alloc HR.out _) ⟨wr.heap.size, 0, none⟩ 1 1 [.int .u8 44] rfl rfl ?c1 ?c2 ?c3 ?c4 ?c5 ?_))
          case c1 => exact one_news _ _ _
          case c2 => exact one_cell_int _ _
          case c3 => unfold maxLen; omega
          case c4 => omega
          case c5 => simp; omega
          intro v2 w2 hown' hgrow _
          have HB2 : Hid (Below B w w2) := grow_below HR.out _ hnx (by omega) hgrow
          have HO2' : OwnsB w2 B v2 (L ++ [44]) := OwnsB.snoc 44 _ rfl hown'
          have zzw2 := HB2.out.size
          obtain ⟨L2, hL2⟩ : ∃ L2, L2 = L ++ [44] := ⟨_, rfl⟩
          have llL2 : L2.length ≤ L.length + 1 := by rw [hL2, List.length_append, List.length_singleton]; exact Nat.le_refl _
          rw [← hL2] at HO2'
          have HO2 : Hid (OwnsB w2 B v2 L2) := HO2'
          have HL2 : Hid (L2 = L ++ [44]) := hL2
          clear hown' hgrow hL2 HO2'
          have d0' := (HAT.out.down HB2.out hb k hk).1
          rw [HK.out] at d0'
          have g3' := (HAT.out.down HB2.out hb q hlt).2.2.2.1
          go_wp2_with fail
          refine (appendQuoted_any B _ L2 _ _ HO2.out (by omega) hns (by omega)).mono ?_
          rintro e w3 ⟨v3, rfl, ho3, hb3⟩
          obtain ⟨L3, hL3⟩ : ∃ L3, L3 = L2 ++ quoteL (N q).name := ⟨_, rfl⟩
          have hq3 := quoteL_len (N q).name
          have llL3 : L3.length ≤ L2.length + 50 := by rw [hL3, List.length_append]; omega
          rw [← hL3] at ho3
          have HO3 : Hid (OwnsB w3 B v3 L3) := ho3
          have HB3 : Hid (Below B w w3) := HB2.out.trans hb3
          have zzw3 := HB3.out.size
          have HL3 : Hid (L3 = L2 ++ quoteL (N q).name) := hL3
          clear ho3 hb3 hL3 hq3
          go_wp2_with (first | (at_builtin; refine wpList_append_own _ rfl _ _ 73 rfl B 5 i0 (.int .u8 0) 1 1 Tryz.underlying73 HI0.out.1 HI0.out.2.1 HI0.out.2.2.1 HI0.out.2.2.2 rfl (by decide) _ _ _ rfl (World.ownsRow.alloc HO3.out _) ⟨w3.heap.size, 0, none⟩ 1 1 [.int .u8 58] rfl rfl ?c1 ?c2 ?c3 ?c4 ?c5 ?_))
          case c1 => exact one_news _ _ _
          case c2 => exact one_cell_int _ _
          case c3 => unfold maxLen; omega
          case c4 => omega
          case c5 => simp; omega
          intro v4 w4 hown' hgrow _
          have HB4 : Hid (Below B w w4) := grow_below HO3.out _ HB3.out (by omega) hgrow
          have HO4' : OwnsB w4 B v4 (L3 ++ [58]) := OwnsB.snoc 58 _ rfl hown'
          have zzw4 := HB4.out.size
          obtain ⟨L4, hL4⟩ : ∃ L4, L4 = L3 ++ [58] := ⟨_, rfl⟩
          have llL4 : L4.length ≤ L3.length + 1 := by rw [hL4, List.length_append, List.length_singleton]; exact Nat.le_refl _
          rw [← hL4] at HO4'
          have HO4 : Hid (OwnsB w4 B v4 L4) := HO4'
          have HL4 : Hid (L4 = L3 ++ [58]) := hL4
          clear hown' hgrow hL4 HO4'
          go_wp2_with fail
          refine (HIH.out q hkq hlt B b off c _ L4 _ HO4.out (by omega) hb (HAT.out.down HB4.out hb) (HTB.out.on HB4.out) (by omega)).mono ?_
          rintro e w9 ⟨v9, en, rfl, ho9, he9, hb9⟩
          have HO9 : Hid (OwnsB w9 B v9 (L4 ++ T N n q)) := ho9
          have HB9 : Hid (Below B w w9) := HB4.out.trans hb9
          have HIN : Hid (innAt N n k en = innAt N n k q ++ ((if q = k + 1 then [] else [44]) ++ (headL N k q ++ T N n q))) := innAt_next HT.out.tb.pre HBN.out hlt HU.out he9
          have HBN9 : Hid (Bnd N n k en) := (bnd_next HT.out.tb.pre HBN.out hlt HU.out he9).1
          have hen : q < en ∧ en ≤ n := ⟨he9.1, he9.2.1⟩
          clear ho9 hb9 he9
          go_wp2_with fail
          go_roundw
          case rel =>
            have e9 : L4 ++ T N n q = l ++ (123 :: innAt N n k en) := by
              rw [HL4.out, HL3.out, HL2.out, HL.out, HIN.out, if_neg HF.out, headL_map HK.out]
              simp
            refine ⟨en, l ++ (123 :: innAt N n k en), rfl, hen.2, ?_, HBN9, rfl, by show OwnsB _ _ _ _; rw [← e9]; exact HO9.out, HB9.out⟩
            have := innAt_len HT.out.tb hn hk H67.out hen.2
            rw [List.length_append, List.length_cons]
            omega
          case measure => simp [intOf]; omega
      · have hub : ((N q).up == (k : Int)) = false := by simpa using hu
        have HEND : Hid (IsEnd N n k q ∧ T N n k = openL N k :: (innAt N n k q ++ [closeL N k])) := ⟨(bnd_stop HT.out.tb.pre HBN.out (fun _ => hu)).1, innAt_end HT.out.tb.pre hk H67.out HBN.out (fun _ => hu)⟩
        clear hu g0 g1 g2 g3
        go_wp2_with (first | (at_builtin; refine wpList_append_own _ rfl _ _ 73 rfl B 5 i0 (.int .u8 0) 1 1 Tryz.underlying73 HI0.out.1 HI0.out.2.1 HI0.out.2.2.1 HI0.out.2.2.2 rfl (by decide) _ _ _ rfl (World.ownsRow.alloc HR.out _) ⟨wr.heap.size, 0, none⟩ 1 1 [.int .u8 125] rfl rfl ?c1 ?c2 ?c3 ?c4 ?c5 ?_))
        case c1 => exact one_news _ _ _
        case c2 => exact one_cell_int _ _
        case c3 => unfold maxLen; omega
        case c4 => omega
        case c5 => simp; omega
        intro v2 w2 hown' hgrow _
        have HB2 : Hid (Below B w w2) := grow_below HR.out _ hnx (by omega) hgrow
        have HO2' : OwnsB w2 B v2 (L ++ [125]) := OwnsB.snoc 125 _ rfl hown'
        have zzw2 := HB2.out.size
        obtain ⟨L2, hL2⟩ : ∃ L2, L2 = L ++ [125] := ⟨_, rfl⟩
        have llL2 : L2.length ≤ L.length + 1 := by rw [hL2, List.length_append, List.length_singleton]; exact Nat.le_refl _
        rw [← hL2] at HO2'
        have HO2 : Hid (OwnsB w2 B v2 L2) := HO2'
        have HL2 : Hid (L2 = L ++ [125]) := hL2
        clear hown' hgrow hL2 HO2'
        go_wp2
        go_ret2
        refine ⟨v2, q, rfl, ?_, HEND.out.1, HB2.out⟩
        rw [HEND.out.2, openL, closeL, if_pos HK.out, if_pos HK.out, show l ++ 123 :: (innAt N n k q ++ [125]) = L2 by rw [HL2.out, HL.out]; simp]
        exact HO2.out
    · have HEND : Hid (IsEnd N n k q ∧ T N n k = openL N k :: (innAt N n k q ++ [closeL N k])) := ⟨(bnd_stop HT.out.tb.pre HBN.out (fun h => absurd h hlt)).1, innAt_end HT.out.tb.pre hk H67.out HBN.out (fun h => absurd h hlt)⟩
      have hlt' : ¬ (q : Int) < (n : Int) := by omega
      go_wp2_with (first | (at_builtin; refine wpList_append_own _ rfl _ _ 73 rfl B 5 i0 (.int .u8 0) 1 1 Tryz.underlying73 HI0.out.1 HI0.out.2.1 HI0.out.2.2.1 HI0.out.2.2.2 rfl (by decide) _ _ _ rfl (World.ownsRow.alloc HR.out _) ⟨wr.heap.size, 0, none⟩ 1 1 [.int .u8 125] rfl rfl ?c1 ?c2 ?c3 ?c4 ?c5 ?_))
      any_goals first | exact one_news _ _ _ | exact one_cell_int _ _ | (unfold maxLen; omega) | omega | (rw [World.size_alloc]; omega) | rfl
      intro v2 w2 hown' hgrow _
      have HB2 : Hid (Below B w w2) := grow_below HR.out _ hnx (by omega) hgrow
      have HO2' : OwnsB w2 B v2 (L ++ [125]) := OwnsB.snoc 125 _ rfl hown'
      have zzw2 := HB2.out.size
      obtain ⟨L2, hL2⟩ : ∃ L2, L2 = L ++ [125] := ⟨_, rfl⟩
      have llL2 : L2.length ≤ L.length + 1 := by rw [hL2, List.length_append, List.length_singleton]; exact Nat.le_refl _
      rw [← hL2] at HO2'
      have HO2 : Hid (OwnsB w2 B v2 L2) := HO2'
      have HL2 : Hid (L2 = L ++ [125]) := hL2
      clear hown' hgrow hL2 HO2'
      go_wp2
      go_ret2
      refine ⟨v2, q, rfl, ?_, HEND.out.1, HB2.out⟩
      rw [HEND.out.2, openL, closeL, if_pos HK.out, if_pos HK.out, show l ++ 123 :: (innAt N n k q ++ [125]) = L2 by rw [HL2.out, HL.out]; simp]
      exact HO2.out

set_option maxRecDepth 100000 in
set_option maxHeartbeats 2000000 in
theorem appendNode_parts (N : Nat → Nd) (n k : Nat) (hn : n ≤ 80) (hk : k < n) (h67 : (N k).kind = 6 ∨ (N k).kind = 7) (hp : PartsSaid N n k) : NodeSaid N n k := by
  intro B b off c v l w hown hB hb hat htab hlen
  obtain ⟨a0, a1, a2, a3, a4⟩ := hat k hk
  have i0 : (0 : Int) ≤ (k : Int) := by omega
  have i1 : (k : Int) < (n : Int) := by omega
  have HO : Hid (OwnsB w B v l) := hown
  have HTB : Hid (Tab B w) := htab
  have HAT : Hid (NodesAt w b off n N) := hat
  have HP : Hid (PartsSaid N n k) := hp
  clear hown htab hat hp
  rcases h67 with h6 | h6
  all_goals
    rw [h6] at a0
    clear h6
    go_enter Tryz.func78, Tryz.ntmps78
    go_wp2_with fail
    have hbl : ∀ o, Below B w (w.alloc o) := fun o => (Below.refl _ _).alloc hB o
    refine (HP.out B b off c v l _ (HO.out.alloc _) (by simp; omega) hb (HAT.out.below (hbl _) hb) (HTB.out.on (hbl _)) hlen).mono ?_
    rintro e w1 ⟨v1, en, rfl, ho1, he1, hb1⟩
    have HO1 : Hid (OwnsB w1 B v1 (l ++ T N n k)) := ho1
    have HE1 : Hid (IsEnd N n k en) := he1
    have HB1 : Hid (Below B w w1) := (hbl _).trans hb1
    clear ho1 he1 hb1 hbl
    go_wp2
    go_ret2
    exact ⟨v1, en, rfl, HO1.out, HE1.out, HB1.out⟩

theorem appendNode_any (N : Nat → Nd) (n : Nat) (hn : n ≤ 80) (ht : TOK N n) : ∀ d k, n - k = d → k < n → NodeSaid N n k := by
  intro d
  induction d using Nat.strongRecOn with
  | _ d ih =>
    intro k hd hk
    by_cases h6 : (N k).kind = 6
    · exact appendNode_parts N n k hn hk (.inl h6) (appendParts_list N n k hn hk ht h6 (fun p h1 h2 => ih (n - p) (by omega) p rfl h2))
    · by_cases h7 : (N k).kind = 7
      · exact appendNode_parts N n k hn hk (.inr h7) (appendParts_map N n k hn hk ht h7 (fun p h1 h2 => ih (n - p) (by omega) p rfl h2))
      · exact appendNode_leaf N n k hn hk ht (by rintro (h | h); exact h6 h; exact h7 h)

end Go.Proofs.YtjbjgkkkkghcgaaGreatDoor
