/- Words of a text: the specification's. No condition but that a text fits in memory. -/
import Derived.Test.YtikgcgfigcolmaaWdM
namespace Go.Proofs.Ytikgcgfigcolmaa
open Go.RowKit
set_option linter.unusedVariables false

/-- A byte as the specification sees it: 0, where it is no letter and no digit. -/
def spB (c : UInt8) : Int := if isWB (smB c) = true then ((smB c).toNat : Int) else 0

set_option maxHeartbeats 1000000 in
theorem l10Small_k (c : UInt8) (w : World) : Calls Try.prog 87 #[.int .u8 (c.toNat : Int)] w fun e w' => e = .returned (.int .u8 (spB c)) ∧ w' = w := by
  have hlt : (c.toNat : Int) < 256 := by have := UInt8.toNat_lt c; omega
  have hn := smB_nat c
  by_cases h1 : 65 ≤ c.toNat ∧ c.toNat ≤ 90
  · rw [if_pos h1] at hn
    have hv : spB c = (c.toNat : Int) + 32 := by
      unfold spB isWB
      rw [hn, if_pos (by simp; omega)]
      omega
    have a1 : (65 : Int) ≤ (c.toNat : Int) := by omega
    have a2 : (c.toNat : Int) ≤ 90 := by omega
    have HV : Hid (spB c = (c.toNat : Int) + 32) := hv
    clear hv hn
    go_enter Try.func87, Try.ntmps87
    go_wp2
    go_ret
    exact ⟨by rw [HV.out]; rfl, rfl⟩
  · rw [if_neg h1] at hn
    by_cases h2 : 97 ≤ c.toNat ∧ c.toNat ≤ 122 ∨ 48 ≤ c.toNat ∧ c.toNat ≤ 57
    · have hv : spB c = (c.toNat : Int) := by
        unfold spB isWB
        rw [hn, if_pos (by simpa using h2)]
      have HV : Hid (spB c = (c.toNat : Int)) := hv
      clear hv hn
      rcases h2 with ⟨b1, b2⟩ | ⟨b1, b2⟩
      · have a1 : (97 : Int) ≤ (c.toNat : Int) := by omega
        have a2 : (c.toNat : Int) ≤ 122 := by omega
        have a3 : (65 : Int) ≤ (c.toNat : Int) := by omega
        have a4 : ¬ (c.toNat : Int) ≤ 90 := by omega
        go_enter Try.func87, Try.ntmps87
        go_wp2
        go_ret
        exact ⟨by rw [HV.out]; rfl, rfl⟩
      · have a1 : (48 : Int) ≤ (c.toNat : Int) := by omega
        have a2 : (c.toNat : Int) ≤ 57 := by omega
        have a3 : ¬ (65 : Int) ≤ (c.toNat : Int) := by omega
        have a4 : ¬ (97 : Int) ≤ (c.toNat : Int) := by omega
        go_enter Try.func87, Try.ntmps87
        go_wp2
        go_ret
        exact ⟨by rw [HV.out]; rfl, rfl⟩
    · have hv : spB c = 0 := by
        unfold spB isWB
        rw [hn, if_neg (by simpa using h2)]
      have HV : Hid (spB c = 0) := hv
      clear hv hn
      by_cases a1 : (65 : Int) ≤ (c.toNat : Int)
      · have a2 : ¬ (c.toNat : Int) ≤ 90 := by omega
        have a3 : (48 : Int) ≤ (c.toNat : Int) := by omega
        have a4 : ¬ (c.toNat : Int) ≤ 57 := by omega
        by_cases a5 : (97 : Int) ≤ (c.toNat : Int)
        · have a6 : ¬ (c.toNat : Int) ≤ 122 := by omega
          go_enter Try.func87, Try.ntmps87
          go_wp2
          go_ret
          exact ⟨by rw [HV.out]; rfl, rfl⟩
        · go_enter Try.func87, Try.ntmps87
          go_wp2
          go_ret
          exact ⟨by rw [HV.out]; rfl, rfl⟩
      · have a5 : ¬ (97 : Int) ≤ (c.toNat : Int) := by omega
        by_cases a3 : (48 : Int) ≤ (c.toNat : Int)
        · have a4 : ¬ (c.toNat : Int) ≤ 57 := by omega
          go_enter Try.func87, Try.ntmps87
          go_wp2
          go_ret
          exact ⟨by rw [HV.out]; rfl, rfl⟩
        · go_enter Try.func87, Try.ntmps87
          go_wp2
          go_ret
          exact ⟨by rw [HV.out]; rfl, rfl⟩

theorem strOf_one (c : UInt8) : strOfNums [(c.toNat : Int)] = strL [c] := by
  apply ByteArray.ext
  simp [strOfNums, strL]
theorem strL_snoc (acc : List UInt8) (c : UInt8) : strL acc ++ strOfNums [(c.toNat : Int)] = strL (acc ++ [c]) := by rw [strOf_one, strL_append]
theorem strL_emp (acc : List UInt8) : (strL acc).toList.isEmpty = acc.isEmpty := by
  rw [ByteArray.toList_eq]
  simp [strL]
theorem below_a1 (w : World) (o : Obj) : Below w.heap.size w (w.alloc o) := (Below.refl _ _).alloc (Nat.le_refl _) o
theorem below_a2 (w : World) (o o' : Obj) : Below w.heap.size w ((w.alloc o).alloc o') := ((Below.refl _ _).alloc (Nat.le_refl _) o).alloc (by simp) o'
theorem cell_a1 (w : World) (v : Value) (T : TypeId) : (w.alloc (.cells #[v] T)).cell? ⟨w.heap.size, 0, none⟩ = some v := by simp [World.cell?_alloc_new]
theorem cell_a2 (w : World) (o : Obj) (v : Value) (T : TypeId) : ((w.alloc o).alloc (.cells #[v] T)).cell? ⟨w.heap.size + 1, 0, none⟩ = some v := by
  have := cell_a1 (w.alloc o) v T
  rw [World.size_alloc] at this
  exact this

theorem words_is {w : World} {B : Nat} {a : Option Addr} {n c : Nat} {L : List ByteArray} (h : OwnL (fun y => [.string y]) 9 1 w B (.slice a n c) L) (hl : L.length ≤ 2 ^ 30) (hz : ∀ x ∈ L, x.size ≤ 2 ^ 40) : (kRow kStr).is true w (fun k => B ≤ k) [.slice a n c] L :=
  own_kRow (K := kStr) (fun _ => rfl) h (by unfold maxLen; omega) (fun x hx _ _ => ⟨rfl, by have := hz x hx; unfold maxLen; omega⟩)

theorem wordsB_size (s : ByteArray) (x : ByteArray) (hx : x ∈ wordsB s) : x.size ≤ s.size := by
  unfold wordsB at hx
  obtain ⟨u, hu, rfl⟩ := List.mem_map.1 hx
  have := goW_mem _ _ u hu
  rw [strL_size]
  simpa using this
theorem wordsB_len (s : ByteArray) : (wordsB s).length ≤ s.size := by
  unfold wordsB
  have := goW_count s.data.toList []
  simpa using this

set_option maxRecDepth 100000 in
set_option maxHeartbeats 4000000 in
theorem l10In_k (s : ByteArray) (w : World) (hs : s.size ≤ 2 ^ 20) : Calls Try.prog 42 #[.string s] w fun e w' => ∃ a n c, e = .returned (.slice a n c) ∧ (kRow kStr).is true w' (fun k => w.heap.size ≤ k) [.slice a n c] (wordsB s) ∧ Below w.heap.size w w' := by
  obtain ⟨G, hG⟩ : ∃ G, G = goW [] s.data.toList := ⟨_, rfl⟩
  have HG : Hid (G = goW [] s.data.toList) := hG
  clear hG
  go_enter Try.func42, Try.ntmps42
  go_wp2_with fail
  go_loopw [3, 4, 5] (fun ov tv iv wr => ∃ (k : Nat) (acc : List UInt8) (L : List (List UInt8)), k ≤ s.size + 1 ∧ tv = .string (strL acc) ∧ iv = .int .i64 k ∧ acc.length < 20 ∧ L.length ≤ k ∧ Hid (k ≤ s.size → L ++ goW acc (s.data.toList.drop k) = G) ∧ Hid (s.size < k → L = G) ∧ Hid (OwnL (fun y => [.string y]) 9 1 wr w.heap.size ov (L.map strL)) ∧ Below w.heap.size w wr) (fun _ _ iv _ => s.size + 1 - (intOf iv).toNat)
  case atStart => exact ⟨0, [], [], by omega, rfl, rfl, by decide, Nat.le_refl _, fun _ => by rw [HG.out]; rfl, fun h => by omega, OwnL.nil _ _ _ _ _, Below.refl _ _⟩
  case round =>
    obtain ⟨k, acc, L, hk, rfl, rfl, ha, hLk, HI, HJ, HO, hnx⟩ := hrel
    obtain ⟨oa, oc, hov, _⟩ := HO.out.form
    subst hov
    have HML : Hid ((L.map strL).length = L.length) := by show _ = _; simp
    obtain ⟨m, hm⟩ : ∃ m, m = (L.map strL).length := ⟨_, rfl⟩
    have HM : Hid (m = (L.map strL).length) := hm
    rw [← hm] at HO ⊢
    clear hm
    have z0 : (strL acc).size ≤ 19 := by rw [strL_size]; omega
    have zw := hnx.size
    by_cases hlt : k < s.size
    · have i0 : (0 : Int) ≤ (k : Int) := by omega
      have i1 : (k : Int) < (s.size : Int) := by omega
      have HD := data_drop s k hlt
      obtain ⟨c, hc⟩ : ∃ c, c = s[k] := ⟨_, rfl⟩
      rw [← hc] at HD
      have HI1 : Hid (L ++ goW acc (c :: s.data.toList.drop (k + 1)) = G) := by have := HI.out (by omega); rw [HD] at this; exact this
      have HC : Hid (c = s[k]) := hc
      clear HD hc HI HJ
      go_wp2_with fail
      refine (l10Small_k s[k] _).mono ?_
      rintro e w1 ⟨rfl, rfl⟩
      rw [← HC.out]
      by_cases hw : isWB (smB c) = true
      · have hv : spB c = ((smB c).toNat : Int) := by unfold spB; rw [if_pos hw]
        rw [hv]
        have hp := isWB_pos hw
        have p0 : (((smB c).toNat : Int) == 0) = false := by simp; omega
        have HE : Hid (goW acc (c :: s.data.toList.drop (k + 1)) = if acc.length + 1 = 20 then (acc ++ [smB c]) :: goW [] (s.data.toList.drop (k + 1)) else goW (acc ++ [smB c]) (s.data.toList.drop (k + 1))) := by show _ = _; rw [goW, if_pos hw]
        have hcv := conv_one
        have z1 : (strOfNums [((smB c).toNat : Int)]).size = 1 := rfl
        obtain ⟨t, ht⟩ : ∃ t, t = strL (acc ++ [smB c]) := ⟨_, rfl⟩
        have hsn : strL acc ++ strOfNums [((smB c).toNat : Int)] = t := by rw [ht, strL_snoc]
        have HT : Hid (t = strL (acc ++ [smB c])) := ht
        have t0 : t.toList.isEmpty = false := by rw [ht, strL_emp]; simp
        have tz : (t.size : Int) = (acc.length : Int) + 1 := by rw [ht, strL_size]; simp
        have HTZ : Hid ((t.size : Int) = (acc.length : Int) + 1) := tz
        clear ht hv hw hp
        by_cases h20 : acc.length + 1 = 20
        · have t1 : ((t.size : Int) == 20) = true := by rw [tz]; simp; omega
          have HE2 : Hid (L ++ (acc ++ [smB c]) :: goW [] (s.data.toList.drop (k + 1)) = G) := by have h1 := HI1.out; rw [HE.out, if_pos h20] at h1; exact h1
          clear tz HI1 HE
          go_wp2_with (at_builtin; refine app_str rfl _ _ rfl w.heap.size _ (L.map strL) rfl (OwnL.below HO.out (below_a2 _ _ _)) _ t rfl (cell_a2 _ _ _ _) (by rw [HML.out]; omega) (by simp; omega) ?_)
          intro v3 w3 ho3 hb3 hz3
          have HO3 : Hid (OwnL (fun y => [.string y]) 9 1 w3 w.heap.size v3 ((L ++ [acc ++ [smB c]]).map strL)) := by show OwnL _ _ _ _ _ _ _; rw [List.map_append, List.map_singleton, ← HT.out]; exact ho3
          have HB3 : Hid (Below w.heap.size w w3) := ((hnx.alloc (by omega) _).alloc (by simp; omega) _).trans hb3
          clear ho3 hb3 hz3
          go_wp2_with fail
          go_roundw
          case rel => exact ⟨k + 1, [], L ++ [acc ++ [smB c]], by omega, rfl, by go_num, by decide, by simp; omega, fun _ => by rw [← HE2.out]; simp, fun h => by omega, HO3, HB3.out⟩
          case measure => simp [intOf]; omega
        · have t1 : ((t.size : Int) == 20) = false := by rw [tz]; simp; omega
          have HE2 : Hid (L ++ goW (acc ++ [smB c]) (s.data.toList.drop (k + 1)) = G) := by have h1 := HI1.out; rw [HE.out, if_neg h20] at h1; exact h1
          clear tz HI1 HE
          go_wp2
          go_roundw
          case rel => exact ⟨k + 1, acc ++ [smB c], L, by omega, by rw [HT.out], by go_num, by simp; omega, by omega, fun _ => HE2.out, fun h => by omega, OwnL.below HO.out (below_a1 _ _), hnx.alloc (by omega) _⟩
          case measure => simp [intOf]; omega
      · have hv : spB c = 0 := by unfold spB; rw [if_neg hw]
        rw [hv]
        have HE : Hid (goW acc (c :: s.data.toList.drop (k + 1)) = if acc = [] then goW [] (s.data.toList.drop (k + 1)) else acc :: goW [] (s.data.toList.drop (k + 1))) := by show _ = _; rw [goW, if_neg hw]
        clear hv hw
        by_cases he : acc = []
        · have HE2 : Hid (L ++ goW [] (s.data.toList.drop (k + 1)) = G) := by have h1 := HI1.out; rw [HE.out, if_pos he] at h1; exact h1
          subst he
          have t0 : (strL []).toList.isEmpty = true := by rw [strL_emp]; rfl
          clear HI1 HE
          go_wp2
          go_roundw
          case rel => exact ⟨k + 1, [], L, by omega, rfl, by go_num, by decide, by omega, fun _ => HE2.out, fun h => by omega, HO, hnx⟩
          case measure => simp [intOf]; omega
        · have HE2 : Hid (L ++ acc :: goW [] (s.data.toList.drop (k + 1)) = G) := by have h1 := HI1.out; rw [HE.out, if_neg he] at h1; exact h1
          have t0 : (strL acc).toList.isEmpty = false := by rw [strL_emp]; simpa using he
          clear HI1 HE he
          go_wp2_with (at_builtin; refine app_str rfl _ _ rfl w.heap.size _ (L.map strL) rfl (OwnL.below HO.out (below_a1 _ _)) _ (strL acc) rfl (cell_a1 _ _ _) (by rw [HML.out]; omega) (by simp; omega) ?_)
          intro v3 w3 ho3 hb3 hz3
          have HO3 : Hid (OwnL (fun y => [.string y]) 9 1 w3 w.heap.size v3 ((L ++ [acc]).map strL)) := by show OwnL _ _ _ _ _ _ _; rw [List.map_append, List.map_singleton]; exact ho3
          have HB3 : Hid (Below w.heap.size w w3) := (hnx.alloc (by omega) _).trans hb3
          clear ho3 hb3 hz3
          go_wp2_with fail
          go_roundw
          case rel => exact ⟨k + 1, [], L ++ [acc], by omega, rfl, by go_num, by decide, by simp; omega, fun _ => by rw [← HE2.out]; simp, fun h => by omega, HO3, HB3.out⟩
          case measure => simp [intOf]; omega
    · by_cases hend : k = s.size
      · have i0 : ¬ (k : Int) < (s.size : Int) := by omega
        have i1 : (k : Int) ≤ (s.size : Int) := by omega
        have HI1 : Hid (L ++ goW acc [] = G) := by have := HI.out (by omega); rw [hend, ← data_len, List.drop_length] at this; exact this
        have HEND : Hid (k = s.size) := hend
        clear HI HJ hend
        by_cases he : acc = []
        · have HE2 : Hid (L = G) := by have h1 := HI1.out; rw [goW, if_pos he, List.append_nil] at h1; exact h1
          subst he
          have t0 : (strL []).toList.isEmpty = true := by rw [strL_emp]; rfl
          clear HI1
          go_wp2
          go_roundw
          case rel => exact ⟨k + 1, [], L, by omega, rfl, by go_num, by decide, by omega, fun h => by have := HEND.out; omega, fun _ => HE2.out, HO, hnx⟩
          case measure => simp [intOf]; omega
        · have HE2 : Hid (L ++ [acc] = G) := by have h1 := HI1.out; rw [goW, if_neg he] at h1; exact h1
          have t0 : (strL acc).toList.isEmpty = false := by rw [strL_emp]; simpa using he
          clear HI1 he
          go_wp2_with (at_builtin; refine app_str rfl _ _ rfl w.heap.size _ (L.map strL) rfl (OwnL.below HO.out (below_a1 _ _)) _ (strL acc) rfl (cell_a1 _ _ _) (by rw [HML.out]; omega) (by simp; omega) ?_)
          intro v3 w3 ho3 hb3 hz3
          have HO3 : Hid (OwnL (fun y => [.string y]) 9 1 w3 w.heap.size v3 ((L ++ [acc]).map strL)) := by show OwnL _ _ _ _ _ _ _; rw [List.map_append, List.map_singleton]; exact ho3
          have HB3 : Hid (Below w.heap.size w w3) := (hnx.alloc (by omega) _).trans hb3
          clear ho3 hb3 hz3
          go_wp2_with fail
          go_roundw
          case rel => exact ⟨k + 1, [], L ++ [acc], by omega, rfl, by go_num, by decide, by simp; omega, fun h => by have := HEND.out; omega, fun _ => HE2.out, HO3, HB3.out⟩
          case measure => simp [intOf]; omega
      · have i1 : ¬ (k : Int) ≤ (s.size : Int) := by omega
        have HE2 : Hid (L = G) := HJ.out (by omega)
        clear HI HJ
        go_wp2
        go_ret
        refine ⟨oa, m, oc, rfl, ?_, hnx⟩
        have e : L.map strL = wordsB s := by rw [HE2.out, HG.out]; rfl
        have h1 := HO.out
        rw [e] at h1
        have hl := wordsB_len s
        exact words_is h1 (by omega) (fun x hx => by have := wordsB_size s x hx; omega)
theorem toL_inj2 {a b : ByteArray} (h : a.toList = b.toList) : a = b := by
  rw [ByteArray.toList_eq, ByteArray.toList_eq] at h
  apply ByteArray.ext
  exact Array.toList_inj.1 h
theorem eq_texts (a b : ByteArray) : (a.toList == b.toList) = decide (a = b) := by
  by_cases h : a = b
  · simp [h]
  · have : ¬ a.toList = b.toList := fun e => h (toL_inj2 e)
    simp [h, this]

set_option maxRecDepth 100000 in
set_option maxHeartbeats 1000000 in
theorem l10Word_k (s : ByteArray) (w : World) (hs : s.size ≤ 2 ^ 20) : Calls Try.prog 57 #[.string s] w fun e w' => e = .returned (.bool (isWordB s)) ∧ Below w.heap.size w w' := by
  go_enter Try.func57, Try.ntmps57
  go_wp2_with fail
  refine (l10In_k s _ hs).mono ?_
  rintro e w1 ⟨a, n, c, rfl, hr, hb⟩
  have hn := row_len hr
  have HB : Hid (Below w.heap.size w w1) := hb
  have HL : Hid ((wordsB s).length ≤ s.size) := wordsB_len s
  have HW := words_one s
  clear hb
  by_cases h1 : n = 1
  · subst h1
    obtain ⟨x, hx⟩ := List.length_eq_one_iff.1 hn.symm
    obtain ⟨b, off, B, C, rfl, hlt, _, hi, _, hc⟩ := row_at hr (i := 0) (x := x) (by rw [hx]; rfl)
    obtain ⟨rfl, _⟩ := hi
    have A0 : w1.cell? ⟨b, off, none⟩ = some (.string x) := by have := (hc 0 _ rfl).1; simpa [kStr] using this
    have HF : Hid ((x.toList == s.toList) = isWordB s) := by
      show _ = _
      rw [eq_texts]
      by_cases e : x = s
      · rw [decide_eq_true e, HW.1 (by rw [hx, e])]
      · rw [decide_eq_false e]
        cases hq : isWordB s with
        | false => rfl
        | true =>
          have := HW.2 hq
          rw [hx] at this
          exact absurd (by simpa using this) e
    clear hc hr hn HW hx
    go_wp2
    go_ret
    exact ⟨by rw [← HF.out]; rfl, HB.out⟩
  · have h2 : ((n : Int) == 1) = false := by simp; omega
    have HF : Hid (isWordB s = false) := by
      show _ = _
      cases hq : isWordB s with
      | false => rfl
      | true =>
        have := HW.2 hq
        rw [this] at hn
        exact absurd hn (by simpa using h1)
    have hn1 : ¬ (n : Int) = 1 := by omega
    clear hr hn HW
    go_wp2
    go_ret
    exact ⟨by rw [HF.out]; rfl, HB.out⟩

/-- WordsIn. -/
def fWordsIn (s : ByteArray) : List ByteArray × Bool := if s.size ≤ 200 then (wordsB s, true) else ([], false)
/-- What WordsIn answers. -/
def RWordsIn (x0 : ByteArray) (w : World) (e : Ending) (w' : World) : Prop := ∃ (a0 : Option Addr) (n0 c0 : Nat) (T0 : Nat → Prop), e = .returned (.tuple #[.slice a0 n0 c0, .bool (fWordsIn x0).2]) ∧ (kRow kStr).is true w' T0 [.slice a0 n0 c0] (fWordsIn x0).1 ∧ (∀ k, T0 k → w.heap.size ≤ k) ∧ sums kStr.cnt (fWordsIn x0).1 ≤ 2 ^ 26 ∧ Below w.heap.size w w'
theorem cnt_strs (l : List ByteArray) : sums kStr.cnt l = l.length := by
  have := sums_const 1 l
  simpa [kStr] using this
end Go.Proofs.Ytikgcgfigcolmaa
