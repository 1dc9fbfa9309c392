/- A name read from what is written in a path: the program's readName. -/
import Derived.Test.YtjohocnfcnjciaaGreatDoorPathT0
import Derived.Test.YtjohocnfcnjciaaGreatDoorSeg
namespace Go.Proofs.YtjohocnfcnjciaaGreatDoor
open Go.RowKit
set_option linter.unusedVariables false

set_option maxHeartbeats 1000000 in
theorem clone_any (s : ByteArray) (w : World) (h : s.size ≤ 2 ^ 40) : Calls Tryz.prog 113 #[.string s] w fun e w' => e = .returned (.string s) ∧ Below w.heap.size w w' := by
  go_enter Tryz.func113, Tryz.ntmps113
  go_wp2_with fail
  refine (Tryz.stringslite_Clone s _ (by omega)).mono ?_
  rintro e w1 ⟨rfl, hb1⟩
  have HB : Hid (Below w.heap.size w w1) := hb1
  clear hb1
  go_wp2
  go_ret
  exact ⟨rfl, HB.out⟩

theorem plain_okL (n : List UInt8) : plainB (strL n) = okL n := by
  unfold plainB okL plainTo
  rw [strL_size]
  congr 1
  show ((List.toArray n).toList.take n.length).all okByte = _
  rw [List.toList_toArray, List.take_length]
  rfl

theorem rep_len {old new : List UInt8} (h0 : old ≠ []) (hne : old ≠ new) (hl : new.length ≤ old.length) : ∀ (k : Nat) (s : List UInt8), s.length ≤ k → (Lib.replaceAll s old new).length ≤ s.length := by
  intro k
  induction k with
  | zero =>
    intro s hs
    obtain rfl : s = [] := List.eq_nil_of_length_eq_zero (by omega)
    rw [rep_nil h0 hne]
    exact Nat.le_refl _
  | succ k ih =>
    intro s hs
    cases hp : old.isPrefixOf s with
    | true =>
      obtain ⟨r, rfl⟩ := List.isPrefixOf_iff_prefix.1 hp
      have hpos : 0 < old.length := by cases old with | nil => exact absurd rfl h0 | cons a t => simp
      rw [rep_hit h0 hne, List.length_append, List.length_append]
      rw [List.length_append] at hs
      have := ih r (by omega)
      omega
    | false =>
      cases s with
      | nil => rw [rep_nil h0 hne]; exact Nat.le_refl _
      | cons b l =>
        rw [rep_miss h0 hne b l hp, List.length_cons, List.length_cons]
        simp at hs
        have := ih l hs
        omega
theorem mid_len (s : List UInt8) : (Lib.replaceAll s [126, 49] [47]).length ≤ s.length := rep_len (by decide) (by decide) (by decide) _ s (Nat.le_refl _)
theorem readN_len (s : List UInt8) : (readN s).length ≤ s.length :=
  Nat.le_trans (rep_len (by decide) (by decide) (by decide) _ _ (Nat.le_refl _)) (mid_len s)

theorem eq_lists (a b : ByteArray) : (a.toList == b.toList) = decide (a.data.toList = b.data.toList) := by
  rw [Lib.toList_data, Lib.toList_data]
  rw [Bool.eq_iff_iff]
  simp

set_option maxRecDepth 100000 in
set_option maxHeartbeats 1000000 in
theorem readName_any (g : ByteArray) (w : World) (hs : g.size ≤ 2 ^ 20) (hm : ML w) :
    Calls Tryz.prog 108 #[.string g] w fun e w' => e = .returned (.tuple #[.string (strL (readN g.data.toList)), .bool (okP g.data.toList)]) ∧ Below w.heap.size w w' := by
  have HML : Hid (ML w) := hm
  have hl : g.data.toList.length = g.size := Array.length_toList
  have H1 : Hid ((strL (Lib.replaceAll g.data.toList [126, 49] [47])).size ≤ 2 ^ 20) := by
    show _ ≤ _
    rw [strL_size]
    have := mid_len g.data.toList
    omega
  have H2 : Hid ((strL (readN g.data.toList)).size ≤ 2 ^ 20) := by
    show _ ≤ _
    rw [strL_size]
    have := readN_len g.data.toList
    omega
  clear hm hl
  go_enter Tryz.func108, Tryz.ntmps108
  go_wp2_with fail
  obtain ⟨m, hm⟩ := HML.out
  refine (Tryz.strings_ReplaceAll g ⟨#[126, 49]⟩ ⟨#[47]⟩ m _ (by omega) hm (by decide) (room _ _ _ (by decide) (by decide) (by omega))).mono ?_
  rintro e w1 ⟨rfl, hb1⟩
  have HB1 : Hid (Below w.heap.size w w1) := hb1
  have HM1 : Hid (ML w1) := HML.out.below hb1
  clear hb1 hm
  go_wp2_with fail
  obtain ⟨m1, hm1⟩ := HM1.out
  refine (Tryz.strings_ReplaceAll (strL (Lib.replaceAll g.data.toList [126, 49] [47])) ⟨#[126, 48]⟩ ⟨#[126]⟩ m1 _ (by have := H1.out; omega) hm1 (by decide) (room _ _ _ (by decide) (by decide) (by have := H1.out; omega))).mono ?_
  rintro e w2 ⟨rfl, hb2⟩
  have HB2 : Hid (Below w.heap.size w w2) := HB1.out.trans (hb2.mono HB1.out.size)
  have HM2 : Hid (ML w2) := HM1.out.below hb2
  clear hb2 hm1
  rw [show (⟨(Lib.replaceAll (strL (Lib.replaceAll g.data.toList [126, 49] [47])).data.toList (⟨#[126, 48]⟩ : ByteArray).data.toList (⟨#[126]⟩ : ByteArray).data.toList).toArray⟩ : ByteArray) = strL (readN g.data.toList) from rfl]
  go_wp2_with fail
  refine (clone_any _ _ (by have := H2.out; omega)).mono ?_
  rintro e w3 ⟨rfl, hb3⟩
  have HB3 : Hid (Below w.heap.size w w3) := HB2.out.trans (hb3.mono HB2.out.size)
  have HM3 : Hid (ML w3) := HM2.out.below hb3
  clear hb3
  go_wp2_with fail
  refine (isPlain_any _ _ (by have := H2.out; omega)).mono ?_
  rintro e w0 ⟨rfl, hw0⟩
  have hw := hw0.symm
  subst hw
  clear hw0
  cases hpl : plainB (strL (readN g.data.toList)) with
  | false =>
    have HO : Hid (okP g.data.toList = false) := by show _ = _; unfold okP; rw [← plain_okL, hpl]; rfl
    go_wp2
    exact bodyPost_ret (v := .tuple #[.string (strL (readN g.data.toList)), .bool false]) (by simp [results, Tryz.results108, go_sem]) rfl ⟨by rw [HO.out], HB3.out⟩
  | true =>
    have HO : Hid (okP g.data.toList = decide (pesc (readN g.data.toList) = g.data.toList)) := by show _ = _; unfold okP; rw [← plain_okL, hpl, Bool.true_and]
    go_wp2_with fail
    refine (writeName_any _ _ (by have := H2.out; omega) HM3.out).mono ?_
    rintro e w4 ⟨rfl, hb4⟩
    have HB4 : Hid (Below w.heap.size w w4) := HB3.out.trans (hb4.mono HB3.out.size)
    clear hb4
    go_wp2
    exact bodyPost_ret (v := .tuple #[.string (strL (readN g.data.toList)), .bool ((strL (pesc (strL (readN g.data.toList)).data.toList)).toList == g.toList)]) (by simp [results, Tryz.results108, go_sem]) rfl ⟨by rw [HO.out, eq_lists]; rfl, HB4.out⟩

end Go.Proofs.YtjohocnfcnjciaaGreatDoor
