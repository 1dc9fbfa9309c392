/- The specification's digits, quotes and words. -/
import Derived.Test.YtjbjgkkkkghcgaaGreatDoorPlace
import Derived.Test.YtjbjgkkkkghcgaaGreatDoorTellLen
import Derived.Deep.RegionWith
import Derived.Lib.ItoaLen
namespace Go.Proofs.YtjbjgkkkkghcgaaGreatDoor
open Go.RowKit
set_option linter.unusedVariables false


theorem conv_at (w1 : World) (g : Nat) (x : Int) (h : w1.cell? ⟨g, 0, none⟩ = some (.int .u8 x)) : (convert 73 9 (.slice (some ⟨g, 0, none⟩) 1 1)).run Tryz.prog w1 = .ok (.string (strOfNums [x])) w1 :=
  run_convert_bytes_arg _ 73 5 Tryz.underlying73 Tryz.underlying5 _ 0 1 1 [x] rfl (fun i hi => by
    obtain rfl : i = 0 := by omega
    simpa using h) 9 Tryz.underlying9

theorem dec_len (u : Nat) (h : u ≤ 2 ^ 40) : (strL (Lib.decDigits u)).size ≤ 21 := by
  rw [strL_size]
  have := Lib.itoa_length_le (u : Int) (by omega) (by omega)
  unfold Lib.itoa at this
  rw [if_neg (by omega)] at this
  simpa using this
theorem one_size (x : Int) : (strOfNums [x]).size = 1 := rfl

theorem strOfNums_one (x : Int) : strOfNums [x] = strL [UInt8.ofNat x.toNat] := rfl

set_option maxRecDepth 100000 in
set_option maxHeartbeats 1000000 in
theorem l1Num_any : ∀ (m : Nat) (x : Int) (w : World), x.toNat = m → 0 ≤ x → x ≤ 2 ^ 40 →
    Calls Tryz.prog 73 #[.int .i64 x] w fun e w' => e = .returned (.string (strL (Lib.decDigits x.toNat))) ∧ Below w.heap.size w w' := by
  intro m
  induction m using Nat.strongRecOn with
  | _ m ih =>
    intro x w hm h0 h1
    by_cases h10 : x < 10
    · have HD : Hid (strOfNums [48 + x] = strL (Lib.decDigits x.toNat)) := by
        show _ = _
        rw [Lib.decDigits, dif_pos (by omega), strOfNums_one]
        congr 3
        omega
      have hcv := conv_one
      clear ih
      go_enter Tryz.func73, Tryz.ntmps73
      go_wp2
      go_ret
      exact ⟨by rw [← HD.out]; rfl, by go_grown⟩
    · have IH := ih (x / 10).toNat (by omega) (x / 10)
      have HI : Hid (∀ w : World, Calls Tryz.prog 73 #[.int .i64 (x / 10)] w fun e w' => e = .returned (.string (strL (Lib.decDigits (x / 10).toNat))) ∧ Below w.heap.size w w') := fun w => IH w rfl (by omega) (by omega)
      have HD : Hid (strL (Lib.decDigits (x / 10).toNat) ++ strOfNums [48 + x % 10] = strL (Lib.decDigits x.toNat)) := by
        show _ = _
        rw [Lib.decDigits.eq_def x.toNat, dif_neg (by omega), strOfNums_one, strL_append, show (x / 10).toNat = x.toNat / 10 by omega, show (48 + x % 10).toNat = 48 + x.toNat % 10 by omega]
      clear ih IH
      have hcv := conv_at
      have hq : IntKind.i64.wrap (x.tdiv 10) = x / 10 := by rw [IntKind.wrap_i64, Int.tdiv_eq_ediv_of_nonneg h0]; omega
      have hz1 := dec_len (x / 10).toNat (by omega)
      have hz2 := one_size
      have hr : x.tmod 10 = x % 10 := Int.tmod_eq_emod_of_nonneg h0
      go_enter Tryz.func73, Tryz.ntmps73
      go_wp2_with fail
      go_region_with (go_at_call 73; (try rw [hq]); refine (HI.out _).mono ?_; rintro e w1 ⟨rfl, hb1⟩; obtain ⟨hc1, hf1⟩ := bcell hb1)
      all_goals go_wp2
      all_goals go_ret
      all_goals refine ⟨by rw [← HD.out]; rfl, ?_⟩
      all_goals first | exact ((Below.refl _ _).drew.trans hb1).alloc hb1.size _ | exact ((Below.refl _ _).alloc (Nat.le_refl _) _).drew.trans (hb1.mono (by simp))

set_option maxHeartbeats 400000 in
theorem l1Int_any (x : Int) (w : World) (h0 : -1000000000 ≤ x) (h1 : x ≤ 1000000000) :
    Calls Tryz.prog 57 #[.int .i64 x] w fun e w' => e = .returned (.string (strL (Lib.itoa x))) ∧ Below w.heap.size w w' := by
  by_cases hn : x < 0
  · have HD : Hid ((⟨#[45]⟩ : ByteArray) ++ strL (Lib.decDigits (-x).toNat) = strL (Lib.itoa x)) := by
      show strL [45] ++ _ = _
      rw [strL_append, Lib.itoa, if_pos hn, show (-x).toNat = x.natAbs by omega]
      rfl
    have hz := dec_len (-x).toNat (by omega)
    go_enter Tryz.func57, Tryz.ntmps57
    go_wp2_with fail
    refine (l1Num_any _ (-x) _ rfl (by omega) (by omega)).mono ?_
    rintro e w1 ⟨rfl, hb1⟩
    have HB : Hid (Below _ w w1) := hb1
    clear hb1
    go_wp2
    go_ret
    exact ⟨by rw [← HD.out]; rfl, HB.out⟩
  · have HD : Hid (strL (Lib.decDigits x.toNat) = strL (Lib.itoa x)) := by
      show _ = _
      rw [Lib.itoa, if_neg hn]
    go_enter Tryz.func57, Tryz.ntmps57
    go_wp2_with fail
    refine (l1Num_any _ x _ rfl (by omega) (by omega)).mono ?_
    rintro e w1 ⟨rfl, hb1⟩
    have HB : Hid (Below _ w w1) := hb1
    clear hb1
    go_wp2
    go_ret
    exact ⟨by rw [← HD.out]; rfl, HB.out⟩

theorem escTo_succ (s : ByteArray) (k : Nat) (h : k < s.size) : escL (s.data.toList.take (k + 1)) = escL (s.data.toList.take k) ++ esc s[k] := by
  rw [List.take_succ_eq_append_getElem (by simpa using h)]
  unfold escL
  rw [List.flatMap_append]
  simp
  rfl

/-- What the quoting has told behind k bytes. -/
def qTo (s : ByteArray) (k : Nat) : ByteArray := strL (34 :: escL (s.data.toList.take k))
theorem qTo_zero (s : ByteArray) : qTo s 0 = ⟨#[34]⟩ := rfl
theorem qTo_size (s : ByteArray) (k : Nat) : (qTo s k).size ≤ 2 * k + 1 := by
  unfold qTo
  rw [strL_size, List.length_cons]
  have := escL_len (s.data.toList.take k)
  have := List.length_take_le k s.data.toList
  omega
theorem qTo_end (s : ByteArray) : qTo s s.size ++ ⟨#[34]⟩ = strL (quoteL s) := by
  show strL _ ++ strL [34] = _
  rw [strL_append]
  unfold quoteL
  rw [show s.size = s.data.toList.length from Array.length_toList.symm, List.take_length]
  rfl
theorem qTo_esc (s : ByteArray) (k : Nat) (h : k < s.size) (hc : s[k] = 34 ∨ s[k] = 92) : (qTo s k ++ ⟨#[92]⟩) ++ strL [s[k]] = qTo s (k + 1) := by
  show (strL _ ++ strL [92]) ++ strL _ = strL _
  rw [strL_append, strL_append, escTo_succ s k h, esc, if_pos hc]
  congr 1
  simp
theorem qTo_plain (s : ByteArray) (k : Nat) (h : k < s.size) (hc : ¬ (s[k] = 34 ∨ s[k] = 92)) : qTo s k ++ strL [s[k]] = qTo s (k + 1) := by
  show strL _ ++ strL _ = strL _
  rw [strL_append, escTo_succ s k h, esc, if_neg hc]
  congr 1

end Go.Proofs.YtjbjgkkkkghcgaaGreatDoor
