/- Words of a text: the program's. No condition but that a text fits in memory. -/
import Derived.Test.YtikgcgfigcolmaaWdS
namespace Go.Proofs.Ytikgcgfigcolmaa
open Go.RowKit
set_option linter.unusedVariables false

set_option maxHeartbeats 1000000 in
theorem smallLetter_k (c : UInt8) (w : World) : Calls Try.prog 90 #[.int .u8 (c.toNat : Int)] w fun e w' => e = .returned (.int .u8 ((smB c).toNat : Int)) ∧ w' = w := by
  have hlt : (c.toNat : Int) < 256 := by have := UInt8.toNat_lt c; omega
  have hn := smB_nat c
  by_cases h1 : 65 ≤ c.toNat ∧ c.toNat ≤ 90
  · rw [if_pos h1] at hn
    have hv : ((smB c).toNat : Int) = (c.toNat : Int) - 65 + 97 := by omega
    have a1 : (65 : Int) ≤ (c.toNat : Int) := by omega
    have a2 : (c.toNat : Int) ≤ 90 := by omega
    have HV : Hid (((smB c).toNat : Int) = (c.toNat : Int) - 65 + 97) := hv
    clear hv hn
    go_enter Try.func90, Try.ntmps90
    go_wp2
    go_ret
    exact ⟨by rw [HV.out]; rfl, rfl⟩
  · rw [if_neg h1] at hn
    have hv : ((smB c).toNat : Int) = (c.toNat : Int) := by omega
    have HV : Hid (((smB c).toNat : Int) = (c.toNat : Int)) := hv
    clear hv hn
    by_cases a1 : (65 : Int) ≤ (c.toNat : Int)
    · have a2 : ¬ (c.toNat : Int) ≤ 90 := by omega
      go_enter Try.func90, Try.ntmps90
      go_wp2
      go_ret
      exact ⟨by rw [HV.out]; rfl, rfl⟩
    · go_enter Try.func90, Try.ntmps90
      go_wp2
      go_ret
      exact ⟨by rw [HV.out]; rfl, rfl⟩

set_option maxHeartbeats 1000000 in
theorem isWordByte_k (c : UInt8) (w : World) : Calls Try.prog 91 #[.int .u8 (c.toNat : Int)] w fun e w' => e = .returned (.bool (isWB c)) ∧ w' = w := by
  have hlt : (c.toNat : Int) < 256 := by have := UInt8.toNat_lt c; omega
  obtain ⟨q, hq⟩ : ∃ q, q = isWB c := ⟨_, rfl⟩
  have hq2 := hq
  unfold isWB at hq2
  rw [← hq]
  clear hq
  by_cases a1 : (97 : Int) ≤ (c.toNat : Int)
  · have b1 : (48 : Int) ≤ (c.toNat : Int) := by omega
    have b2 : ¬ (c.toNat : Int) ≤ 57 := by omega
    by_cases a2 : (c.toNat : Int) ≤ 122
    · have HQ : Hid (q = true) := by show _ = _; rw [hq2]; simp; omega
      clear hq2
      go_enter Try.func91, Try.ntmps91
      go_wp2
      go_ret
      exact ⟨by rw [HQ.out]; rfl, rfl⟩
    · have HQ : Hid (q = false) := by show _ = _; rw [hq2]; simp; omega
      clear hq2
      go_enter Try.func91, Try.ntmps91
      go_wp2
      go_ret
      exact ⟨by rw [HQ.out]; rfl, rfl⟩
  · by_cases a2 : (48 : Int) ≤ (c.toNat : Int)
    · by_cases a3 : (c.toNat : Int) ≤ 57
      · have HQ : Hid (q = true) := by show _ = _; rw [hq2]; simp; omega
        clear hq2
        go_enter Try.func91, Try.ntmps91
        go_wp2
        go_ret
        exact ⟨by rw [HQ.out]; rfl, rfl⟩
      · have HQ : Hid (q = false) := by show _ = _; rw [hq2]; simp; omega
        clear hq2
        go_enter Try.func91, Try.ntmps91
        go_wp2
        go_ret
        exact ⟨by rw [HQ.out]; rfl, rfl⟩
    · have HQ : Hid (q = false) := by show _ = _; rw [hq2]; simp; omega
      clear hq2
      go_enter Try.func91, Try.ntmps91
      go_wp2
      go_ret
      exact ⟨by rw [HQ.out]; rfl, rfl⟩

/-- Bytes as numbers. -/
def numsL (l : List UInt8) : List Int := l.map fun c => (c.toNat : Int)
theorem strOf_nums (l : List UInt8) : strOfNums (numsL l) = strL l := by
  have e : ((fun n : Int => UInt8.ofNat n.toNat) ∘ fun c : UInt8 => (c.toNat : Int)) = id := by funext c; simp
  apply ByteArray.ext
  simp only [strOfNums, strL, numsL, List.map_map, e, List.map_id]
theorem numsL_len (l : List UInt8) : (numsL l).length = l.length := by simp [numsL]

set_option maxRecDepth 100000 in
set_option maxHeartbeats 2000000 in
theorem wordAt_k (s : ByteArray) (f : Nat) (w : World) (hs : s.size ≤ 2 ^ 20) (hf : f ≤ s.size) : Calls Try.prog 54 #[.string s, .int .i64 (f : Int)] w fun e w' => e = .returned (.string (strL (takeW 20 (s.data.toList.drop f)))) ∧ Below w.heap.size w w' := by
  obtain ⟨G, hG⟩ : ∃ G, G = takeW 20 (s.data.toList.drop f) := ⟨_, rfl⟩
  have HG : Hid (G = takeW 20 (s.data.toList.drop f)) := hG
  rw [← hG]
  clear hG
  go_enter Try.func54, Try.ntmps54
  go_wp2_with fail
  go_loopw [5, 6] (fun ov iv wr => ∃ (k : Nat) (acc : List UInt8), k ≤ s.size ∧ iv = .int .i64 k ∧ acc.length ≤ 20 ∧ Hid (acc ++ takeW (20 - acc.length) (s.data.toList.drop k) = G) ∧ Hid (OwnL (fun y => [.int .u8 y]) 5 1 wr w.heap.size ov (numsL acc)) ∧ Below w.heap.size w wr) (fun _ iv _ => s.size - (intOf iv).toNat)
  case atStart => exact ⟨f, [], hf, rfl, by decide, by show _ = _; rw [HG.out]; rfl, OwnL.nil _ _ _ _ _, Below.refl _ _⟩
  case round =>
    obtain ⟨k, acc, hk, rfl, ha, HI, HO, hnx⟩ := hrel
    obtain ⟨oa, oc, hov, _⟩ := HO.out.form
    subst hov
    rw [numsL_len] at HO ⊢
    have zw := hnx.size
    by_cases hlt : k < s.size
    · have i0 : (0 : Int) ≤ (k : Int) := by omega
      have i1 : (k : Int) < (s.size : Int) := by omega
      by_cases h20 : acc.length < 20
      · have j1 : (acc.length : Int) < 20 := by omega
        have HD := data_drop s k hlt
        obtain ⟨c, hc⟩ : ∃ c, c = s[k] := ⟨_, rfl⟩
        rw [← hc] at HD
        obtain ⟨n, hn⟩ : ∃ n, 20 - acc.length = n + 1 := ⟨19 - acc.length, by omega⟩
        have HI1 : Hid (acc ++ (if isWB (smB c) = true then smB c :: takeW n (s.data.toList.drop (k + 1)) else []) = G) := by have := HI.out; rw [HD, hn, takeW] at this; exact this
        have HC : Hid (c = s[k]) := hc
        have HN : Hid (20 - acc.length = n + 1) := hn
        clear HD hc HI hn
        go_wp2_with fail
        refine (smallLetter_k s[k] _).mono ?_
        rintro e w1 ⟨rfl, rfl⟩
        rw [← HC.out]
        go_wp2_with fail
        refine (isWordByte_k (smB c) _).mono ?_
        rintro e w1 ⟨rfl, rfl⟩
        cases hw : isWB (smB c) with
        | true =>
          have HI2 : Hid (acc ++ smB c :: takeW n (s.data.toList.drop (k + 1)) = G) := by have := HI1.out; rw [if_pos hw] at this; exact this
          clear HI1 hw
          go_wp2_with (at_builtin; refine app_byte rfl _ _ rfl w.heap.size _ (numsL acc) rfl (OwnL.below HO.out (below_a1 _ _)) _ ((smB c).toNat : Int) rfl (cell_a1 _ _ _) (by rw [numsL_len]; omega) (by simp; omega) ?_)
          intro v3 w3 ho3 hb3 hz3
          have HO3 : Hid (OwnL (fun y => [.int .u8 y]) 5 1 w3 w.heap.size v3 (numsL (acc ++ [smB c]))) := by show OwnL _ _ _ _ _ _ _; unfold numsL; rw [List.map_append, List.map_singleton]; exact ho3
          have HB3 : Hid (Below w.heap.size w w3) := (hnx.alloc (by omega) _).trans hb3
          clear ho3 hb3 hz3
          go_wp2_with fail
          go_roundw
          case rel => exact ⟨k + 1, acc ++ [smB c], by omega, by go_num, by simp; omega, by show _ = _; have h1 := HN.out; rw [show 20 - (acc ++ [smB c]).length = n by simp; omega, ← HI2.out]; simp, HO3, HB3.out⟩
          case measure => simp [intOf]; omega
        | false =>
          have HI2 : Hid (acc = G) := by have := HI1.out; rw [if_neg (by rw [hw]; simp), List.append_nil] at this; exact this
          clear HI1 hw
          have hcv := conv_own HO.out
          go_wp2
          go_ret
          exact ⟨by rw [strOf_nums, HI2.out]; rfl, hnx⟩
      · have j1 : ¬ (acc.length : Int) < 20 := by omega
        have HI2 : Hid (acc = G) := by have := HI.out; rw [show 20 - acc.length = 0 by omega, takeW, List.append_nil] at this; exact this
        have hcv := conv_own HO.out
        clear HI
        go_wp2
        go_ret
        exact ⟨by rw [strOf_nums, HI2.out]; rfl, hnx⟩
    · have i1 : ¬ (k : Int) < (s.size : Int) := by omega
      have HI2 : Hid (acc = G) := by
        have := HI.out
        rw [show k = s.data.toList.length by rw [data_len]; omega, List.drop_length] at this
        cases hn : 20 - acc.length with
        | zero => rw [hn, takeW, List.append_nil] at this; exact this
        | succ n => rw [hn, takeW, List.append_nil] at this; exact this
      have hcv := conv_own HO.out
      clear HI
      go_wp2
      go_ret
      exact ⟨by rw [strOf_nums, HI2.out]; rfl, hnx⟩
set_option maxRecDepth 100000 in
set_option maxHeartbeats 1000000 in
theorem isWord_k (s : ByteArray) (w : World) (hs : s.size ≤ 2 ^ 20) : Calls Try.prog 52 #[.string s] w fun e w' => e = .returned (.bool (isWordB s)) ∧ Below w.heap.size w w' := by
  obtain ⟨q, hq⟩ : ∃ q, q = isWordB s := ⟨_, rfl⟩
  have hq2 := hq
  unfold isWordB isWL at hq2
  rw [← hq]
  clear hq
  by_cases h0 : s.toList.isEmpty = true
  · have HQ : Hid (q = false) := by
      have e : s.data.toList = [] := by rw [ByteArray.toList_eq] at h0; simpa using h0
      show _ = _
      rw [hq2, e]
      simp
    clear hq2
    go_enter Try.func52, Try.ntmps52
    go_wp2
    go_ret
    exact ⟨by rw [HQ.out]; rfl, Below.refl _ _⟩
  · have h1 : s.toList.isEmpty = false := by simpa using h0
    have HQ : Hid (((strL (takeW 20 s.data.toList)).toList == s.toList) = q) := by
      have e : s.data.toList ≠ [] := by rw [ByteArray.toList_eq] at h0; simpa using h0
      show _ = _
      rw [hq2, eq_texts]
      apply decide_eq_decide.2
      constructor
      · intro h
        refine ⟨e, ?_⟩
        have := congrArg (fun x => x.data.toList) h
        simpa [strL] using this
      · rintro ⟨_, h⟩
        rw [h, strL_data]
    clear hq2 h0
    go_enter Try.func52, Try.ntmps52
    go_wp2_with fail
    refine (wordAt_k s 0 _ hs (Nat.zero_le _)).mono ?_
    rintro e w1 ⟨rfl, hb⟩
    have HB : Hid (Below w.heap.size w w1) := hb
    rw [List.drop_zero]
    clear hb
    obtain ⟨t, ht⟩ : ∃ t, t = strL (takeW 20 s.data.toList) := ⟨_, rfl⟩
    rw [← ht] at HQ ⊢
    clear ht
    go_wp2
    go_ret
    exact ⟨by rw [← HQ.out]; rfl, HB.out⟩

set_option maxRecDepth 100000 in
set_option maxHeartbeats 2000000 in
theorem implWordsIn_k (x0 : ByteArray) (w : World) (h0 : x0.size ≤ 2 ^ 20) :
    Calls Try.prog 16 #[.string x0] w (RWordsIn x0 w) := by
  by_cases h2 : x0.size ≤ 200
  · have h3 : ¬ (200 : Int) < (x0.size : Int) := by omega
    have HF : Hid (fWordsIn x0 = (wordsB x0, true)) := by show _ = _; unfold fWordsIn; rw [if_pos h2]
    obtain ⟨G, hG⟩ : ∃ G, G = goW [] x0.data.toList := ⟨_, rfl⟩
    have HG : Hid (G = goW [] x0.data.toList) := hG
    clear hG
    go_enter Try.func16, Try.ntmps16
    go_wp2_with fail
    go_loopw [4, 5] (fun ov iv wr => ∃ (k : Nat) (L : List (List UInt8)), k ≤ x0.size ∧ iv = .int .i64 k ∧ L.length ≤ k ∧ Hid (L ++ goW [] (x0.data.toList.drop k) = G) ∧ Hid (OwnL (fun y => [.string y]) 9 1 wr w.heap.size ov (L.map strL)) ∧ Below w.heap.size w wr) (fun _ iv _ => x0.size - (intOf iv).toNat)
    case atStart => exact ⟨0, [], Nat.zero_le _, rfl, Nat.le_refl _, by show _ = _; rw [HG.out]; rfl, OwnL.nil _ _ _ _ _, Below.refl _ _⟩
    case round =>
      obtain ⟨k, L, hk, rfl, hLk, HI, HO, hnx⟩ := hrel
      obtain ⟨oa, oc, hov, _⟩ := HO.out.form
      subst hov
      have HML : Hid ((L.map strL).length = L.length) := by show _ = _; simp
      obtain ⟨m, hm⟩ : ∃ m, m = (L.map strL).length := ⟨_, rfl⟩
      rw [← hm] at HO ⊢
      clear hm
      have zw := hnx.size
      by_cases hlt : k < x0.size
      · have i0 : (0 : Int) ≤ (k : Int) := by omega
        have i1 : (k : Int) < (x0.size : Int) := by omega
        go_wp2_with fail
        refine (wordAt_k x0 k _ h0 hk).mono ?_
        rintro e w1 ⟨rfl, hb⟩
        have HN : Hid (Below w.heap.size w w1) := hnx.trans (hb.mono zw)
        have HO1 : Hid (OwnL (fun y => [.string y]) 9 1 w1 w.heap.size (.slice oa m oc) (L.map strL)) := OwnL.below HO.out hb
        have zw1 : w.heap.size ≤ w1.heap.size := HN.out.size
        have hl1 := takeW_len 20 (x0.data.toList.drop k)
        have hl2 : (x0.data.toList.drop k).length = x0.size - k := by rw [List.length_drop, data_len]
        have HF1 := goW_front (x0.data.toList.drop k)
        have HI1 := HI.out
        rw [HF1] at HI1
        clear HF1 hb HO hnx
        obtain ⟨u, hu⟩ : ∃ u, u = takeW 20 (x0.data.toList.drop k) := ⟨_, rfl⟩
        rw [← hu] at HI1 hl1 ⊢
        rw [List.tail_drop] at HI1
        rw [hl2] at hl1
        clear hl2 hu
        have zt : (strL u).size = u.length := strL_size u
        by_cases he : u = []
        · rw [if_pos he] at HI1
          have HI2 : Hid (L ++ goW [] (x0.data.toList.drop (k + 1)) = G) := HI1
          subst he
          have t0 : (strL []).toList.isEmpty = true := by rw [strL_emp]; rfl
          have zt0 : ((strL []).size : Int) ≤ 1 := by rw [strL_size]; simp
          clear HI1 zt
          go_wp2
          go_roundw
          case rel => exact ⟨k + 1, L, by omega, by go_num, by omega, HI2, HO1, HN.out⟩
          case measure => simp [intOf]; omega
        · rw [if_neg he, List.drop_drop] at HI1
          have HI2 : Hid ((L ++ [u]) ++ goW [] (x0.data.toList.drop (k + u.length)) = G) := by show _ = _; rw [← HI1]; simp
          have t0 : (strL u).toList.isEmpty = false := by rw [strL_emp]; simpa using he
          have up : 0 < u.length := List.length_pos_iff.2 he
          obtain ⟨t, ht⟩ : ∃ t, t = strL u := ⟨_, rfl⟩
          have HT : Hid (t = strL u) := ht
          rw [← ht] at t0 zt ⊢
          have zt1 : (1 : Int) ≤ (t.size : Int) := by omega
          have ztb : t.size ≤ 20 := by omega
          have HZT : Hid (t.size = u.length) := zt
          have hl3 : u.length ≤ x0.size - k := hl1.2
          clear HI1 he ht zt hl1
          go_wp2_with (at_builtin; refine app_str rfl _ _ rfl w.heap.size _ (L.map strL) rfl (OwnL.below HO1.out (below_a1 _ _)) _ t rfl (cell_a1 _ _ _) (by rw [HML.out]; omega) (by simp; omega) ?_)
          intro v3 w3 ho3 hb3 hz3
          have HO3 : Hid (OwnL (fun y => [.string y]) 9 1 w3 w.heap.size v3 ((L ++ [u]).map strL)) := by show OwnL _ _ _ _ _ _ _; rw [List.map_append, List.map_singleton, ← HT.out]; exact ho3
          have HB3 : Hid (Below w.heap.size w w3) := (HN.out.alloc (by omega) _).trans hb3
          clear ho3 hb3 hz3
          go_wp2
          go_roundw
          case rel => exact ⟨k + u.length, L ++ [u], by omega, by rw [← HZT.out]; go_num, by simp; omega, HI2, HO3, HB3.out⟩
          case measure => have := HZT.out; simp [intOf]; omega
      · have i1 : ¬ (k : Int) < (x0.size : Int) := by omega
        have HI2 : Hid (L.map strL = wordsB x0) := by
          have := HI.out
          rw [show k = x0.data.toList.length by rw [data_len]; omega, List.drop_length, goW, if_pos rfl, List.append_nil] at this
          show _ = _
          unfold wordsB
          rw [this, HG.out]
        clear HI
        go_wp2
        refine bodyPost_ret (v := .tuple #[.slice oa m oc, .bool true]) (by simp [results, Try.results16, go_sem]) rfl ?_
        unfold RWordsIn
        rw [HF.out]
        have h1 := HO.out
        rw [HI2.out] at h1
        have hl := wordsB_len x0
        have hl30 : (wordsB x0).length ≤ 2 ^ 30 := by omega
        exact ⟨oa, m, oc, _, rfl, words_is h1 hl30 (fun x hx => by have := wordsB_size x0 x hx; omega), fun k hk => hk, by rw [cnt_strs]; show (wordsB x0).length ≤ _; omega, hnx⟩
  · have h3 : (200 : Int) < (x0.size : Int) := by omega
    have HF : Hid (fWordsIn x0 = ([], false)) := by show _ = _; unfold fWordsIn; rw [if_neg h2]
    go_enter Try.func16, Try.ntmps16
    go_wp2
    refine bodyPost_ret (v := .tuple #[.slice none 0 0, .bool false]) (by simp [results, Try.results16, go_sem]) rfl ?_
    unfold RWordsIn
    rw [HF.out]
    exact ⟨none, 0, 0, fun _ => False, rfl, row_nil _ _ _ _ _ _, fun k hk => hk.elim, by simp [sums], Below.refl _ _⟩
end Go.Proofs.Ytikgcgfigcolmaa
