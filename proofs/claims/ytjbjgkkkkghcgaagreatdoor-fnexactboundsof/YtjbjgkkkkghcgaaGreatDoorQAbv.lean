/- The least text above all that begin with a text: the program and the specification. -/
import Derived.Test.YtjbjgkkkkghcgaaGreatDoorQKeyP
import Derived.RegionTactic
import Derived.Deep.RegionWith
import Derived.Deep.DeepFit
namespace Go.Proofs.YtjbjgkkkkghcgaaGreatDoor
open Go.RowKit
set_option linter.unusedVariables false

/-- 'string([]byte{x})'. -/
theorem conv_oneB (W : World) (x : Int) : (convert 73 9 (.slice (some ⟨W.heap.size, 0, none⟩) 1 1)).run Tryz.prog (W.alloc (.cells #[.int .u8 x] 5)) = .ok (.string (strOfNums [x])) (W.alloc (.cells #[.int .u8 x] 5)) :=
  run_convert_bytes_arg _ 73 5 Tryz.underlying73 Tryz.underlying5 _ 0 1 1 [x] rfl (fun i hi => by
    obtain rfl : i = 0 := by omega
    simp [World.cell?_alloc_new]) 9 Tryz.underlying9
theorem conv_onedB (W : World) (x : Int) : (convert 73 9 (.slice (some ⟨W.heap.size, 0, none⟩) 1 1)).run Tryz.prog (W.alloc (.cells #[.int .u8 x] 5)).drew = .ok (.string (strOfNums [x])) (W.alloc (.cells #[.int .u8 x] 5)).drew :=
  run_convert_bytes_arg _ 73 5 Tryz.underlying73 Tryz.underlying5 _ 0 1 1 [x] rfl (fun i hi => by
    obtain rfl : i = 0 := by omega
    simp [World.cell?_alloc_new]) 9 Tryz.underlying9
theorem digB_sizeB (k : Int) : (strOfNums [k]).size = 1 := rfl

/-- The text above the first k bytes. -/
def abv (s : ByteArray) : Nat → ByteArray
  | 0 => ⟨#[]⟩
  | k + 1 => if (s.get! k).toNat = 255 then abv s k else s.extract 0 k ++ strOfNums [((s.get! k).toNat : Int) + 1]

theorem get_is (s : ByteArray) (k : Nat) (h : k < s.size) : s.get! k = s[k] := by
  unfold ByteArray.get!
  simp only [getElem!_def]
  rw [Array.getElem?_eq_getElem h]
  rfl
theorem abv_full {s : ByteArray} {k : Nat} (h : k < s.size) (e : s[k].toNat = 255) : abv s (k + 1) = abv s k := by rw [abv, get_is s k h, if_pos e]
theorem abv_stop {s : ByteArray} {k : Nat} (h : k < s.size) (e : s[k].toNat ≠ 255) : abv s (k + 1) = s.extract 0 k ++ strOfNums [(s[k].toNat : Int) + 1] := by rw [abv, get_is s k h, if_neg e]

set_option maxRecDepth 100000 in
set_option maxHeartbeats 1000000 in
theorem l2Above_any (s : ByteArray) (w : World) (hs : s.size ≤ 1000) :
    Calls Tryz.prog 28 #[.string s] w fun e w' => e = .returned (.string (abv s s.size)) ∧ Below w.heap.size w w' := by
  go_enter Tryz.func28, Tryz.ntmps28
  go_wp2
  go_loopw [3] (fun i wr => ∃ k : Nat, k ≤ s.size ∧ i = .int .i64 ((k : Int) - 1) ∧ Hid (abv s k = abv s s.size) ∧ Below w.heap.size w wr) (fun i _ => (intOf i + 1).toNat)
  case atStart => exact ⟨s.size, Nat.le_refl _, by go_num, rfl, Below.refl _ _⟩
  case round =>
    obtain ⟨k, hk, rfl, HA, hnx⟩ := hrel
    cases k with
    | zero =>
      have i0 : ¬ (0 : Int) ≤ ((0 : Nat) : Int) - 1 := by omega
      go_wp2
      go_ret
      exact ⟨by rw [← HA.out]; rfl, hnx⟩
    | succ k =>
      have e1 : ((k + 1 : Nat) : Int) - 1 = (k : Int) := by omega
      rw [e1]
      have i0 : (0 : Int) ≤ (k : Int) := by omega
      have i1 : (k : Int) < (s.size : Int) := by omega
      have hlt : k < s.size := by omega
      have hbyte : s[k].toNat < 256 := UInt8.toNat_lt _
      have hcv := conv_oneB
      have hs1 := digB_sizeB
      by_cases h255 : s[k].toNat = 255
      · have HA2 : Hid (abv s k = abv s s.size) := by
          show _ = _
          rw [← HA.out, abv_full hlt h255]
        have hne : ((s[k].toNat : Int) == 255) = true := by simpa using congrArg Int.ofNat h255
        go_wp2
        go_roundw
        case rel => exact ⟨k, by omega, by go_num, HA2, hnx⟩
        case measure => simp [intOf]
      · have HA2 : Hid (abv s s.size = s.extract 0 k ++ strOfNums [(s[k].toNat : Int) + 1]) := by
          show _ = _
          rw [← HA.out, abv_stop hlt h255]
        have hne : ((s[k].toNat : Int) == 255) = false := by
          rw [beq_eq_false_iff_ne]
          omega
        have hle : (s[k].toNat : Int) + 1 < 256 := by omega
        have hcd := conv_onedB
        go_wp2_with fail
        go_region
        all_goals go_wp2
        all_goals go_ret
        all_goals exact ⟨by rw [HA2.out]; rfl, (hnx.alloc hnx.size _).drew⟩

theorem u8_next (x : Nat) (h : x < 255) : IntKind.u8.wrap ((x : Int) + 1) = (x : Int) + 1 := by
  have e : (((x + 1 : Nat) : Int)) = (x : Int) + 1 := by omega
  rw [← e]
  have : ∀ y : Fin 256, IntKind.u8.wrap ((y.val : Nat) : Int) = ((y.val : Nat) : Int) := by decide +kernel
  exact this ⟨x + 1, by omega⟩

theorem cat_two (a b : ByteArray) : (⟨(catL [a, b]).toArray⟩ : ByteArray) = a ++ b := by
  apply ByteArray.ext
  rw [ByteArray.data_append]
  simp [catL]
theorem two_cells (W : World) (a b : ByteArray) (T : TypeId) (H : Nat) (hH : W.heap.size = H) : ∀ (j : Nat) (x : ByteArray), [a, b][j]? = some x → (W.alloc (.cells #[.string a, .string b] T)).drew.cell? ⟨H, 0 + j, none⟩ = some (.string x) := by
  intro j x h
  subst hH
  show (W.alloc (.cells #[.string a, .string b] T)).cell? _ = _
  rw [Nat.zero_add, World.cell?_alloc_new]
  match j, h with
  | 0, h => simp at h; subst h; rfl
  | 1, h => simp at h; subst h; rfl

theorem joinKey_two (W : World) (a b : ByteArray) (H : Nat) (hH : W.heap.size = H) (hl : a.size + b.size ≤ 2 ^ 40) :
    Calls Tryz.prog 84 #[.slice (some ⟨H, 0, none⟩) 2 2] (W.alloc (.cells #[.string a, .string b] 9)).drew fun e w' => e = .returned (.string (a ++ b)) ∧ Below W.heap.size W w' := by
  have h2 : (catL [a, b]).length ≤ 2 ^ 40 := by
    have h1 := congrArg ByteArray.size (cat_two a b)
    rw [ByteArray.size_append] at h1
    have h3 : (⟨(catL [a, b]).toArray⟩ : ByteArray).size = (catL [a, b]).length := rfl
    omega
  refine (joinKey_any H 0 2 [a, b] _ (two_cells W a b _ H hH) (by rw [← hH]; show _ < (W.alloc _).heap.size; simp) (by simp) (by simp) h2).mono ?_
  rintro e w' ⟨rfl, hb⟩
  exact ⟨by rw [cat_two], ((Below.refl _ _).alloc (Nat.le_refl _) _).drew.trans (hb.mono (by show _ ≤ (W.alloc _).heap.size; simp))⟩

/-- WHAT AboveKey ANSWERS. -/
def AboveIs (s : ByteArray) (w : World) (e : Ending) (w' : World) : Prop := e = .returned (.tuple #[.string (if s.size ≤ 1000 then abv s s.size else ⟨#[]⟩), .bool (decide (s.size ≤ 1000) && !(abv s s.size).toList.isEmpty)]) ∧ Below w.heap.size w w'

theorem above_long {s : ByteArray} {w w' : World} (h : ¬ s.size ≤ 1000) (hb : Below w.heap.size w w') : AboveIs s w (.returned (.tuple #[.string ⟨#[]⟩, .bool false])) w' := by
  unfold AboveIs
  rw [if_neg h, decide_eq_false h]
  exact ⟨rfl, hb⟩
theorem above_none {s : ByteArray} {w w' : World} (h : s.size ≤ 1000) (he : abv s s.size = ⟨#[]⟩) (hb : Below w.heap.size w w') : AboveIs s w (.returned (.tuple #[.string ⟨#[]⟩, .bool false])) w' := by
  unfold AboveIs
  rw [if_pos h, decide_eq_true h, he]
  have : (⟨#[]⟩ : ByteArray).toList.isEmpty = true := by rw [ByteArray.toList_eq]; rfl
  rw [this]
  exact ⟨rfl, hb⟩
theorem above_some {s t : ByteArray} {x : Int} {w w' : World} (h : s.size ≤ 1000) (he : abv s s.size = t ++ strOfNums [x]) (hb : Below w.heap.size w w') : AboveIs s w (.returned (.tuple #[.string (t ++ strOfNums [x]), .bool true])) w' := by
  unfold AboveIs
  rw [if_pos h, decide_eq_true h, he]
  have : (t ++ strOfNums [x]).toList.isEmpty = false := by
    rw [ByteArray.toList_eq, ByteArray.data_append]
    simp [strOfNums]
  rw [this]
  exact ⟨rfl, hb⟩

set_option maxRecDepth 100000 in
set_option maxHeartbeats 2000000 in
theorem implAbove_any (s : ByteArray) (w : World) (hm : s.size ≤ maxLen) : Calls Tryz.prog 70 #[.string s] w (AboveIs s w) := by
  by_cases hs : s.size ≤ 1000
  · have hs' : ¬ (1000 : Int) < (s.size : Int) := by omega
    go_enter Tryz.func70, Tryz.ntmps70
    go_wp2
    go_loopw [4] (fun i wr => ∃ k : Nat, k ≤ s.size ∧ i = .int .i64 ((k : Int) - 1) ∧ Hid (abv s k = abv s s.size) ∧ Below w.heap.size w wr) (fun i _ => (intOf i + 1).toNat)
    case atStart => exact ⟨s.size, Nat.le_refl _, by go_num, rfl, Below.refl _ _⟩
    case round =>
      obtain ⟨k, hk, rfl, HA, hnx⟩ := hrel
      cases k with
      | zero =>
        have i0 : ¬ (0 : Int) ≤ ((0 : Nat) : Int) - 1 := by omega
        go_wp2
        exact bodyPost_ret (v := .tuple #[.string ⟨#[]⟩, .bool false]) (by simp [results, Tryz.results70, go_sem]) rfl (above_none hs HA.out.symm hnx)
      | succ k =>
        have e1 : ((k + 1 : Nat) : Int) - 1 = (k : Int) := by omega
        rw [e1]
        have i0 : (0 : Int) ≤ (k : Int) := by omega
        have i1 : (k : Int) < (s.size : Int) := by omega
        have hlt : k < s.size := by omega
        have hbyte : s[k].toNat < 256 := UInt8.toNat_lt _
        have hs1 := digB_sizeB
        by_cases h255 : s[k].toNat = 255
        · have HA2 : Hid (abv s k = abv s s.size) := by
            show _ = _
            rw [← HA.out, abv_full hlt h255]
          have hne : ¬ (s[k].toNat : Int) < 255 := by omega
          go_wp2
          go_roundw
          case rel => exact ⟨k, by omega, by go_num, HA2, hnx⟩
          case measure => simp [intOf]
        · have HA2 : Hid (abv s s.size = s.extract 0 k ++ strOfNums [(s[k].toNat : Int) + 1]) := by
            show _ = _
            rw [← HA.out, abv_stop hlt h255]
          have hne : (s[k].toNat : Int) < 255 := by omega
          have hle : (s[k].toNat : Int) + 1 < 256 := by omega
          have hcd := conv_onedB
          have hln : (s.extract 0 k).size + (strOfNums [IntKind.u8.wrap ((s[k].toNat : Int) + 1)]).size ≤ 2 ^ 40 := by
            rw [ByteArray.size_extract, digB_sizeB]
            omega
          have HLN : Hid ((s.extract 0 k).size + (strOfNums [IntKind.u8.wrap ((s[k].toNat : Int) + 1)]).size ≤ 2 ^ 40) := hln
          have HLN2 : Hid ((s.extract 0 k).size + (strOfNums [(s[k].toNat : Int) + 1]).size ≤ 2 ^ 40) := hln
          clear hln
          go_wp2_with fail
          go_region_with (first | (go_at_call 84; go_fit (joinKey_two (wr.alloc (.cells #[.int .u8 ((s[k].toNat : Int) + 1)] 5)) (s.extract 0 k) (strOfNums [(s[k].toNat : Int) + 1]) (wr.heap.size + 1) (World.size_alloc _ _) HLN2.out); rintro e w2 ⟨rfl, hb2⟩) | (go_at_call 84; go_fit (joinKey_two (wr.alloc (.cells #[.int .u8 (IntKind.u8.wrap ((s[k].toNat : Int) + 1))] 5)) (s.extract 0 k) (strOfNums [IntKind.u8.wrap ((s[k].toNat : Int) + 1)]) (wr.heap.size + 1) (World.size_alloc _ _) HLN.out); rintro e w2 ⟨rfl, hb2⟩))
          all_goals go_wp2
          all_goals
            have hwr := u8_next s[k].toNat (by omega)
            exact bodyPost_ret (v := .tuple #[.string (s.extract 0 k ++ strOfNums [(s[k].toNat : Int) + 1]), .bool true]) (by simp [results, Tryz.results70, go_sem, hwr]) rfl (above_some hs HA2.out ((hnx.alloc hnx.size _).trans (hb2.mono (by have := hnx.size; simp; omega))))
  · have hs' : (1000 : Int) < (s.size : Int) := by omega
    go_enter Tryz.func70, Tryz.ntmps70
    go_wp2
    exact bodyPost_ret (v := .tuple #[.string ⟨#[]⟩, .bool false]) (by simp [results, Tryz.results70, go_sem]) rfl (above_long hs (Below.refl _ _))

theorem empty_is (t : ByteArray) (h : t.toList.isEmpty = true) : t = ⟨#[]⟩ := by
  have h0 : t.toList = [] := List.isEmpty_iff.1 h
  rw [ByteArray.toList_eq] at h0
  cases t with
  | mk a => cases a with
    | mk l => simp at h0; subst h0; rfl

end Go.Proofs.YtjbjgkkkkghcgaaGreatDoor
