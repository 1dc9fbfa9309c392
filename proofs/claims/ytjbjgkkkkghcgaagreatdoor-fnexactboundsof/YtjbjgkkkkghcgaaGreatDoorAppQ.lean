/- The program's quoting of a text onto bytes of its own. -/
import Derived.Test.YtjbjgkkkkghcgaaGreatDoorQuote
import Derived.Lib.AppendStr
namespace Go.Proofs.YtjbjgkkkkghcgaaGreatDoor
open Go.RowKit
set_option linter.unusedVariables false

theorem infoU8 : (Tryz.prog.info? 5).map (fun i => (i.zero, i.size, i.bytes)) = some (some (.int .u8 0), 1, 1) := by kernel_rfl

/-- The slice value v owns the bytes l, in blocks from B on. -/
def OwnsB (w : World) (B : Nat) (v : Value) (l : List UInt8) : Prop := w.ownsRow B 5 1 v l.length (Lib.byteCells l)

theorem byteCells_snoc (l : List UInt8) (c : UInt8) : Lib.byteCells (l ++ [c]) = Lib.byteCells l ++ [.int .u8 (c.toNat : Int)] := by simp [Lib.byteCells]
theorem OwnsB.snoc {w : World} {B : Nat} {v : Value} {l : List UInt8} (c : UInt8) (x : Int) (hx : x = c.toNat) (h : w.ownsRow B 5 1 v (l.length + 1) (Lib.byteCells l ++ [.int .u8 x])) : OwnsB w B v (l ++ [c]) := by
  unfold OwnsB
  rw [byteCells_snoc, List.length_append, List.length_singleton, ← hx]
  exact h

set_option maxRecDepth 100000 in
set_option maxHeartbeats 2000000 in
theorem appendQuoted_any (B : Nat) (v : Value) (l : List UInt8) (s : ByteArray) (w : World) (hown : OwnsB w B v l) (hB : B ≤ w.heap.size) (hs : s.size ≤ 24) (hl : l.length ≤ 2 ^ 30) :
    Calls Tryz.prog 90 #[v, .string s] w fun e w' => ∃ v', e = .returned v' ∧ OwnsB w' B v' (l ++ quoteL s) ∧ Below B w w' := by
  obtain ⟨i0, hi, hz0, hz1, hz2⟩ := info_parts infoU8
  have HI0 : Hid (Tryz.prog.info? 5 = some i0 ∧ i0.zero = some (.int .u8 0) ∧ i0.size = 1 ∧ i0.bytes = 1) := ⟨hi, hz0, hz1, hz2⟩
  clear hi hz0 hz1 hz2
  have HO : Hid (OwnsB w B v l) := hown
  clear hown
  go_enter Tryz.func90, Tryz.ntmps90
  go_wp2_with (first | (at_builtin; refine wpList_append_own _ rfl _ _ 73 rfl B 5 i0 (.int .u8 0) 1 1 Tryz.underlying73 HI0.out.1 HI0.out.2.1 HI0.out.2.2.1 HI0.out.2.2.2 rfl (by decide) _ _ _ rfl (World.ownsRow.alloc HO.out _) ⟨w.heap.size, 0, none⟩ 1 1 [.int .u8 34] rfl rfl ?c1 ?c2 ?c3 ?c4 ?c5 ?_))
  case c1 => exact one_news _ _ _
  case c2 => exact one_cell_int _ _
  case c3 => unfold maxLen; omega
  case c4 => omega
  case c5 => simp; omega
  intro v1 w1 hown' hgrow _
  have HB1 : Hid (Below B w w1) := grow_below HO.out _ (Below.refl _ _) (by omega) hgrow
  have HO1' : OwnsB w1 B v1 (l ++ [34]) := OwnsB.snoc 34 _ rfl hown'
  have zzw1 := HB1.out.size
  obtain ⟨L1, hL1⟩ : ∃ L1, L1 = l ++ [34] := ⟨_, rfl⟩
  have llL1 : L1.length ≤ l.length + 1 := by rw [hL1, List.length_append, List.length_singleton]; exact Nat.le_refl _
  rw [← hL1] at HO1'
  have HO1 : Hid (OwnsB w1 B v1 L1) := HO1'
  have HL1 : Hid (L1 = l ++ [34]) := hL1
  clear hown' hgrow hL1 HO1'
  go_wp2_with fail
  go_loopw [0, 11] (fun v i wr => ∃ (k : Nat) (L : List UInt8), k ≤ s.size ∧ i = .int .i64 k ∧ L.length ≤ 2 ^ 30 + 2 * k + 1 ∧ Hid (L = l ++ 34 :: escL (s.data.toList.take k)) ∧ Hid (OwnsB wr B v L) ∧ Below B w wr) (fun _ i _ => s.size - (intOf i).toNat)
  case atStart => exact ⟨0, L1, Nat.zero_le _, rfl, by omega, HL1, HO1, HB1.out⟩
  case round =>
    obtain ⟨k, L, hk, rfl, hll, HL, HR, hnx⟩ := hrel
    have hz := hnx.size
    by_cases hlt : k < s.size
    · have hes := escTo_succ s k hlt
      have h1 := byte_is s[k] 34 (by omega)
      have h2 := byte_is s[k] 92 (by omega)
      by_cases c34 : ((s[k].toNat : Int) == 34) = true
      · have HE : Hid (escL (s.data.toList.take (k + 1)) = escL (s.data.toList.take k) ++ [92, s[k]]) := by show _ = _; rw [hes, esc, if_pos (.inl (h1.1 c34))]
        clear h1 h2 hes
        go_wp2_with (first | (at_builtin; refine wpList_append_own _ rfl _ _ 73 rfl B 5 i0 (.int .u8 0) 1 1 Tryz.underlying73 HI0.out.1 HI0.out.2.1 HI0.out.2.2.1 HI0.out.2.2.2 rfl (by decide) _ _ _ rfl (World.ownsRow.alloc HR.out _) ⟨wr.heap.size, 0, none⟩ 1 1 [.int .u8 92] rfl rfl ?c1 ?c2 ?c3 ?c4 ?c5 ?_))
        case c1 => exact one_news _ _ _
        case c2 => exact one_cell_int _ _
        case c3 => unfold maxLen; omega
        case c4 => omega
        case c5 => simp; omega
        intro v2 w2 hown' hgrow _
        have HB2 : Hid (Below B w w2) := grow_below HR.out _ hnx (by omega) hgrow
        have HO2' : OwnsB w2 B v2 (L ++ [92]) := OwnsB.snoc 92 _ rfl hown'
        have zzw2 := HB2.out.size
        obtain ⟨L2, hL2⟩ : ∃ L2, L2 = L ++ [92] := ⟨_, rfl⟩
        have llL2 : L2.length ≤ L.length + 1 := by rw [hL2, List.length_append, List.length_singleton]; exact Nat.le_refl _
        rw [← hL2] at HO2'
        have HO2 : Hid (OwnsB w2 B v2 L2) := HO2'
        have HL2 : Hid (L2 = L ++ [92]) := hL2
        clear hown' hgrow hL2 HO2'
        go_wp2_with (first | (at_builtin; refine wpList_append_own _ rfl _ _ 73 rfl B 5 i0 (.int .u8 0) 1 1 Tryz.underlying73 HI0.out.1 HI0.out.2.1 HI0.out.2.2.1 HI0.out.2.2.2 rfl (by decide) _ _ _ rfl (World.ownsRow.alloc HO2.out _) ⟨w2.heap.size, 0, none⟩ 1 1 [.int .u8 (s[k].toNat : Int)] rfl rfl ?c1 ?c2 ?c3 ?c4 ?c5 ?_))
        case c1 => exact one_news _ _ _
        case c2 => exact one_cell_int _ _
        case c3 => unfold maxLen; omega
        case c4 => omega
        case c5 => simp; omega
        intro v3 w3 hown' hgrow _
        have HB3 : Hid (Below B w w3) := grow_below HO2.out _ HB2.out (by omega) hgrow
        have HO3' : OwnsB w3 B v3 (L2 ++ [s[k]]) := OwnsB.snoc s[k] _ rfl hown'
        have zzw3 := HB3.out.size
        obtain ⟨L3, hL3⟩ : ∃ L3, L3 = L2 ++ [s[k]] := ⟨_, rfl⟩
        have llL3 : L3.length ≤ L2.length + 1 := by rw [hL3, List.length_append, List.length_singleton]; exact Nat.le_refl _
        rw [← hL3] at HO3'
        have HO3 : Hid (OwnsB w3 B v3 L3) := HO3'
        have HL3 : Hid (L3 = L2 ++ [s[k]]) := hL3
        clear hown' hgrow hL3 HO3'
        go_wp2
        go_roundw
        case rel => exact ⟨k + 1, L3, by omega, by go_num, by omega, by show _ = _; rw [HL3.out, HL2.out, HL.out, HE.out]; simp, HO3, HB3.out⟩
        case measure => simp [intOf]; omega
      · have c34b : ((s[k].toNat : Int) == 34) = false := by simpa using c34
        by_cases c92 : ((s[k].toNat : Int) == 92) = true
        · have HE : Hid (escL (s.data.toList.take (k + 1)) = escL (s.data.toList.take k) ++ [92, s[k]]) := by show _ = _; rw [hes, esc, if_pos (.inr (h2.1 c92))]
          clear h1 h2 hes c34
          go_wp2_with (first | (at_builtin; refine wpList_append_own _ rfl _ _ 73 rfl B 5 i0 (.int .u8 0) 1 1 Tryz.underlying73 HI0.out.1 HI0.out.2.1 HI0.out.2.2.1 HI0.out.2.2.2 rfl (by decide) _ _ _ rfl (World.ownsRow.alloc HR.out _) ⟨wr.heap.size, 0, none⟩ 1 1 [.int .u8 92] rfl rfl ?c1 ?c2 ?c3 ?c4 ?c5 ?_))
          case c1 => exact one_news _ _ _
          case c2 => exact one_cell_int _ _
          case c3 => unfold maxLen; omega
          case c4 => omega
          case c5 => simp; omega
          intro v2 w2 hown' hgrow _
          have HB2 : Hid (Below B w w2) := grow_below HR.out _ hnx (by omega) hgrow
          have HO2' : OwnsB w2 B v2 (L ++ [92]) := OwnsB.snoc 92 _ rfl hown'
          have zzw2 := HB2.out.size
          obtain ⟨L2, hL2⟩ : ∃ L2, L2 = L ++ [92] := ⟨_, rfl⟩
          have llL2 : L2.length ≤ L.length + 1 := by rw [hL2, List.length_append, List.length_singleton]; exact Nat.le_refl _
          rw [← hL2] at HO2'
          have HO2 : Hid (OwnsB w2 B v2 L2) := HO2'
          have HL2 : Hid (L2 = L ++ [92]) := hL2
          clear hown' hgrow hL2 HO2'
          go_wp2_with (first | (at_builtin; refine wpList_append_own _ rfl _ _ 73 rfl B 5 i0 (.int .u8 0) 1 1 Tryz.underlying73 HI0.out.1 HI0.out.2.1 HI0.out.2.2.1 HI0.out.2.2.2 rfl (by decide) _ _ _ rfl (World.ownsRow.alloc HO2.out _) ⟨w2.heap.size, 0, none⟩ 1 1 [.int .u8 (s[k].toNat : Int)] rfl rfl ?c1 ?c2 ?c3 ?c4 ?c5 ?_))
          case c1 => exact one_news _ _ _
          case c2 => exact one_cell_int _ _
          case c3 => unfold maxLen; omega
          case c4 => omega
          case c5 => simp; omega
          intro v3 w3 hown' hgrow _
          have HB3 : Hid (Below B w w3) := grow_below HO2.out _ HB2.out (by omega) hgrow
          have HO3' : OwnsB w3 B v3 (L2 ++ [s[k]]) := OwnsB.snoc s[k] _ rfl hown'
          have zzw3 := HB3.out.size
          obtain ⟨L3, hL3⟩ : ∃ L3, L3 = L2 ++ [s[k]] := ⟨_, rfl⟩
          have llL3 : L3.length ≤ L2.length + 1 := by rw [hL3, List.length_append, List.length_singleton]; exact Nat.le_refl _
          rw [← hL3] at HO3'
          have HO3 : Hid (OwnsB w3 B v3 L3) := HO3'
          have HL3 : Hid (L3 = L2 ++ [s[k]]) := hL3
          clear hown' hgrow hL3 HO3'
          go_wp2
          go_roundw
          case rel => exact ⟨k + 1, L3, by omega, by go_num, by omega, by show _ = _; rw [HL3.out, HL2.out, HL.out, HE.out]; simp, HO3, HB3.out⟩
          case measure => simp [intOf]; omega
        · have c92b : ((s[k].toNat : Int) == 92) = false := by simpa using c92
          have HE : Hid (escL (s.data.toList.take (k + 1)) = escL (s.data.toList.take k) ++ [s[k]]) := by show _ = _; rw [hes, esc, if_neg (by rintro (h | h); exact c34 (h1.2 h); exact c92 (h2.2 h))]
          clear h1 h2 hes c34 c92
          go_wp2_with (first | (at_builtin; refine wpList_append_own _ rfl _ _ 73 rfl B 5 i0 (.int .u8 0) 1 1 Tryz.underlying73 HI0.out.1 HI0.out.2.1 HI0.out.2.2.1 HI0.out.2.2.2 rfl (by decide) _ _ _ rfl (World.ownsRow.alloc HR.out _) ⟨wr.heap.size, 0, none⟩ 1 1 [.int .u8 (s[k].toNat : Int)] rfl rfl ?c1 ?c2 ?c3 ?c4 ?c5 ?_))
          case c1 => exact one_news _ _ _
          case c2 => exact one_cell_int _ _
          case c3 => unfold maxLen; omega
          case c4 => omega
          case c5 => simp; omega
          intro v2 w2 hown' hgrow _
          have HB2 : Hid (Below B w w2) := grow_below HR.out _ hnx (by omega) hgrow
          have HO2' : OwnsB w2 B v2 (L ++ [s[k]]) := OwnsB.snoc s[k] _ rfl hown'
          have zzw2 := HB2.out.size
          obtain ⟨L2, hL2⟩ : ∃ L2, L2 = L ++ [s[k]] := ⟨_, rfl⟩
          have llL2 : L2.length ≤ L.length + 1 := by rw [hL2, List.length_append, List.length_singleton]; exact Nat.le_refl _
          rw [← hL2] at HO2'
          have HO2 : Hid (OwnsB w2 B v2 L2) := HO2'
          have HL2 : Hid (L2 = L ++ [s[k]]) := hL2
          clear hown' hgrow hL2 HO2'
          go_wp2
          go_roundw
          case rel => exact ⟨k + 1, L2, by omega, by go_num, by omega, by show _ = _; rw [HL2.out, HL.out, HE.out]; simp, HO2, HB2.out⟩
          case measure => simp [intOf]; omega
    · obtain rfl : k = s.size := by omega
      go_wp2_with (first | (at_builtin; refine wpList_append_own _ rfl _ _ 73 rfl B 5 i0 (.int .u8 0) 1 1 Tryz.underlying73 HI0.out.1 HI0.out.2.1 HI0.out.2.2.1 HI0.out.2.2.2 rfl (by decide) _ _ _ rfl (World.ownsRow.alloc HR.out _) ⟨wr.heap.size, 0, none⟩ 1 1 [.int .u8 34] rfl rfl ?c1 ?c2 ?c3 ?c4 ?c5 ?_))
      case c1 => exact one_news _ _ _
      case c2 => exact one_cell_int _ _
      case c3 => unfold maxLen; omega
      case c4 => omega
      case c5 => simp; omega
      intro v2 w2 hown' hgrow _
      have HB2 : Hid (Below B w w2) := grow_below HR.out _ hnx (by omega) hgrow
      have HO2' : OwnsB w2 B v2 (L ++ [34]) := OwnsB.snoc 34 _ rfl hown'
      have zzw2 := HB2.out.size
      obtain ⟨L2, hL2⟩ : ∃ L2, L2 = L ++ [34] := ⟨_, rfl⟩
      have llL2 : L2.length ≤ L.length + 1 := by rw [hL2, List.length_append, List.length_singleton]; exact Nat.le_refl _
      rw [← hL2] at HO2'
      have HO2 : Hid (OwnsB w2 B v2 L2) := HO2'
      have HL2 : Hid (L2 = L ++ [34]) := hL2
      clear hown' hgrow hL2 HO2'
      go_wp2
      go_ret
      refine ⟨v2, rfl, ?_, HB2.out⟩
      have e : l ++ quoteL s = L2 := by
        rw [HL2.out, HL.out]
        unfold quoteL
        rw [show s.size = s.data.toList.length from Array.length_toList.symm, List.take_length]
        simp
      rw [e]
      exact HO2.out

end Go.Proofs.YtjbjgkkkkghcgaaGreatDoor
