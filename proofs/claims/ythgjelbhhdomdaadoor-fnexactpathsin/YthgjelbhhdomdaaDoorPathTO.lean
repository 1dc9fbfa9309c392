/- The path of names: the specification's l3Text. A list of texts that came in: weighed and copied. No condition. The path of a list of names: the program and the specification. -/
import Derived.Test.YthgjelbhhdomdaaDoorPathT0
import Derived.Test.YthgjelbhhdomdaaDoorStrsM
namespace Go.Proofs.YthgjelbhhdomdaaDoor
open Go.RowKit
set_option linter.unusedVariables false

/-- What is written of the first i bytes. -/
def pescTo (s : ByteArray) (i : Nat) : List UInt8 := pesc (s.data.toList.take i)
theorem pescTo_succ (s : ByteArray) (i : Nat) (h : i < s.size) : pescTo s (i + 1) = pescTo s i ++ (if s[i] = 126 then [126, 48] else if s[i] = 47 then [126, 49] else [s[i]]) := by
  have h' : i < s.data.toList.length := by simpa using h
  unfold pescTo
  rw [List.take_succ_eq_append_getElem h', pesc_append]
  simp only [pesc, List.append_nil]
  rfl
theorem pescTo_all (s : ByteArray) : pescTo s s.size = pesc s.data.toList := by
  unfold pescTo
  rw [List.take_of_length_le (by rw [Array.length_toList]; exact Nat.le_refl _)]
theorem pescTo_len (s : ByteArray) (i : Nat) : (pescTo s i).length ≤ 2 * i := by
  have := pesc_length (s.data.toList.take i)
  have h2 := List.length_take_le i s.data.toList
  unfold pescTo
  omega
theorem step_esc {s : ByteArray} {i : Nat} {P : List UInt8} {o x : ByteArray} (h : i < s.size) (ho : o = strL (P ++ 47 :: pescTo s i)) (hx : x = strL (if s[i] = 126 then [126, 48] else if s[i] = 47 then [126, 49] else [s[i]])) : o ++ x = strL (P ++ 47 :: pescTo s (i + 1)) := by
  rw [ho, hx, strL_append, pescTo_succ s i h]
  simp

set_option maxRecDepth 100000 in
set_option maxHeartbeats 2000000 in
theorem l3Text_any (a : Option Addr) (c n : Nat) (f : Nat → ByteArray) (w : World) (hn : n ≤ 2 ^ 20) (h : ArgS w a n f) (hz : ∀ i, i < n → (f i).size ≤ 2 ^ 20) :
    Calls Tryd.prog 55 #[.slice a n c] w fun e w' => e = .returned (.string (strL (pathL (lst f n)))) ∧ Below w.heap.size w w' := by
  have H : Hid (ArgS w a n f) := h
  have HZ : Hid (∀ i, i < n → (f i).size ≤ 2 ^ 20) := hz
  clear h hz
  go_enter Tryd.func55, Tryd.ntmps55
  go_wp2_with fail
  go_loopw [3, 9] (fun o i wr => ∃ (k : Nat) (s : ByteArray), k ≤ n ∧ i = .int .i64 k ∧ o = .string s ∧ s.size ≤ 2 ^ 42 ∧ Hid (s = strL (pathL (lst f k))) ∧ Below w.heap.size w wr) (fun _ i _ => n - (intOf i).toNat)
  case atStart => exact ⟨0, _, Nat.zero_le _, rfl, rfl, by decide, rfl, Below.refl _ _⟩
  case round =>
    obtain ⟨k, s, hk, rfl, rfl, hs, HP, hnx⟩ := hrel
    by_cases hlt : k < n
    · rcases H.out with h0 | ⟨b, off, rfl, hb, hat⟩
      · omega
      have a0 := (hnx.cell hb).trans (hat k hlt)
      have i0 : (0 : Int) ≤ (k : Int) := by omega
      have i1 : (k : Int) < (n : Int) := by omega
      have t0 := HZ.out k hlt
      have HQ : Hid (s ++ ⟨#[47]⟩ = strL (pathL (lst f k) ++ 47 :: pescTo (f k) 0)) := by
        show _ = _
        rw [HP.out, show (⟨#[47]⟩ : ByteArray) = strL [47] from rfl, strL_append]
        rfl
      clear hat
      go_wp2_with fail
      go_loopw [3, 6] (fun o i wr => ∃ (j : Nat) (s : ByteArray), j ≤ (f k).size ∧ i = .int .i64 j ∧ o = .string s ∧ s.size ≤ 2 ^ 42 + 1 + 2 * j ∧ Hid (s = strL (pathL (lst f k) ++ 47 :: pescTo (f k) j)) ∧ Below w.heap.size w wr) (fun _ i _ => (f k).size - (intOf i).toNat)
      case atStart => exact ⟨0, _, Nat.zero_le _, rfl, rfl, by rw [ByteArray.size_append]; show s.size + 1 ≤ _; omega, HQ, hnx⟩
      case round =>
        obtain ⟨j, s', hj, rfl, rfl, hs', HP', hnx'⟩ := hrel
        by_cases hjl : j < (f k).size
        · have h1 := byte_eq (f k)[j] 126 (by omega)
          have h2 := byte_eq (f k)[j] 47 (by omega)
          have HE : Hid ((f k).extract j (j + 1) = strL [(f k)[j]]) := ext_one (f k) j hjl
          have j0 : (0 : Int) ≤ (j : Int) := by omega
          have j1 : (j : Int) < ((f k).size : Int) := by omega
          by_cases c1 : (((f k)[j].toNat : Int) == 126) = true
          · have HS : Hid (s' ++ ⟨#[126, 48]⟩ = strL (pathL (lst f k) ++ 47 :: pescTo (f k) (j + 1))) := step_esc hjl HP'.out (by rw [if_pos (show (f k)[j] = 126 from h1.1 c1)]; rfl)
            clear h1 h2
            go_wp2
            go_roundw
            case rel => exact ⟨j + 1, _, by omega, by go_num, rfl, by rw [ByteArray.size_append]; show s'.size + 2 ≤ _; omega, HS, hnx'⟩
            case measure => simp [intOf]; omega
          · have c1b : (((f k)[j].toNat : Int) == 126) = false := by simpa using c1
            by_cases c2 : (((f k)[j].toNat : Int) == 47) = true
            · have HS : Hid (s' ++ ⟨#[126, 49]⟩ = strL (pathL (lst f k) ++ 47 :: pescTo (f k) (j + 1))) := step_esc hjl HP'.out (by rw [if_neg (show ¬ (f k)[j] = 126 from fun e => c1 (h1.2 e)), if_pos (show (f k)[j] = 47 from h2.1 c2)]; rfl)
              clear h1 h2 c1
              go_wp2
              go_roundw
              case rel => exact ⟨j + 1, _, by omega, by go_num, rfl, by rw [ByteArray.size_append]; show s'.size + 2 ≤ _; omega, HS, hnx'⟩
              case measure => simp [intOf]; omega
            · have c2b : (((f k)[j].toNat : Int) == 47) = false := by simpa using c2
              have HS : Hid (s' ++ (f k).extract j (j + 1) = strL (pathL (lst f k) ++ 47 :: pescTo (f k) (j + 1))) := step_esc hjl HP'.out (by rw [if_neg (show ¬ (f k)[j] = 126 from fun e => c1 (h1.2 e)), if_neg (show ¬ (f k)[j] = 47 from fun e => c2 (h2.2 e)), HE.out])
              have HX : Hid (((f k).extract j (j + 1)).size = 1) := by show _ = _; rw [HE.out]; rfl
              clear h1 h2 c1 c2
              go_wp2
              go_roundw
              case rel => exact ⟨j + 1, _, by omega, by go_num, rfl, by rw [ByteArray.size_append, HX.out]; omega, HS, hnx'⟩
              case measure => simp [intOf]; omega
        · obtain rfl : j = (f k).size := by omega
          have HS : Hid (s' = strL (pathL (lst f (k + 1)))) := by
            show _ = _
            rw [HP'.out, pescTo_all, pathL_succ]
          have HB : Hid ((strL (pathL (lst f (k + 1)))).size ≤ 2 ^ 42) := by
            show _ ≤ _
            rw [strL_size]
            have := pathL_bound f (2 ^ 20) (k + 1) (fun i hi => HZ.out i (by omega))
            have : (k + 1) * (2 * 2 ^ 20 + 1) ≤ 2 ^ 20 * (2 * 2 ^ 20 + 1) := Nat.mul_le_mul_right _ (by omega)
            omega
          go_wp2
          go_roundw
          case rel => exact ⟨k + 1, s', by omega, by go_num, rfl, by rw [HS.out]; exact HB.out, HS, hnx'⟩
          case measure => simp [intOf]; omega
    · obtain rfl : k = n := by omega
      have HS : s = strL (pathL (lst f k)) := HP.out
      clear HP
      subst HS
      go_wp2
      go_ret
      exact ⟨rfl, hnx⟩

end Go.Proofs.YthgjelbhhdomdaaDoor
namespace Go.Proofs.YthgjelbhhdomdaaDoor
open Go.RowKit
set_option linter.unusedVariables false

/-- Its texts are small. -/
def SmallS (n : Nat) (f : Nat → ByteArray) : Prop := n ≤ 2 ^ 20 ∧ ∀ i, i < n → (f i).size ≤ 2 ^ 20

set_option maxHeartbeats 1000000 in
theorem szStringS_any (a : Option Addr) (c n : Nat) (f : Nat → ByteArray) (w : World) (hn : n ≤ maxLen) (h : ArgS w a n f) (hz : ∀ i, i < n → (f i).size ≤ maxLen) :
    Calls Tryd.prog 26 #[.slice a n c, .int .i64 1048576] w fun e w' => ∃ r : Int, e = .returned (.int .i64 r) ∧ (r = -1 ∨ (0 ≤ r ∧ SmallS n f)) ∧ Below w.heap.size w w' := by
  have HZ : Hid (∀ i, i < n → (f i).size ≤ maxLen) := hz
  have H : Hid (ArgS w a n f) := h
  clear hz h
  unfold maxLen at hn
  by_cases c0 : (1048576 : Int) - (n : Int) < 0
  · go_enter Tryd.func26, Tryd.ntmps26
    go_wp2
    go_ret
    exact ⟨-1, rfl, .inl rfl, by go_grown⟩
  · go_enter Tryd.func26, Tryd.ntmps26
    go_wp2_with fail
    go_loopw [1, 5] (fun q i wr => ∃ (k : Nat) (r : Int), k ≤ n ∧ i = .int .i64 k ∧ q = .int .i64 r ∧ 0 ≤ r ∧ r ≤ 2 ^ 20 ∧ Hid (∀ j, j < k → (f j).size ≤ 2 ^ 20) ∧ Below w.heap.size w wr) (fun _ i _ => n - (intOf i).toNat)
    case atStart => exact ⟨0, _, Nat.zero_le _, rfl, rfl, by omega, by omega, fun j hj => by omega, Below.refl _ _⟩
    case round =>
      obtain ⟨k, r, hk, rfl, rfl, hr0, hr1, HJ, hnx⟩ := hrel
      by_cases hlt : k < n
      · rcases H.out with h0 | ⟨b, off, rfl, hb, hat⟩
        · omega
        have a0 := (hnx.cell hb).trans (hat k hlt)
        have i0 : (0 : Int) ≤ (k : Int) := by omega
        have i1 : (k : Int) < (n : Int) := by omega
        have t0 : (f k).size ≤ 9223372036854775807 := HZ.out k hlt
        clear hat
        by_cases c1 : r - ((f k).size : Int) < 0
        · go_wp2
          go_ret
          exact ⟨-1, rfl, .inl rfl, hnx⟩
        · have HJ' : Hid (∀ j, j < k + 1 → (f j).size ≤ 2 ^ 20) := fun j hj => by
            by_cases e : j = k
            · subst e; omega
            · exact HJ.out j (by omega)
          go_wp2
          go_roundw
          case rel => exact ⟨k + 1, _, by omega, by go_num, rfl, by omega, by omega, HJ', hnx⟩
          case measure => simp [intOf]; omega
      · go_wp2
        go_ret
        obtain rfl : k = n := by omega
        exact ⟨r, rfl, .inr ⟨hr0, by omega, HJ.out⟩, hnx⟩

set_option maxHeartbeats 1000000 in
theorem toStringS_any (a : Option Addr) (c n : Nat) (f : Nat → ByteArray) (w : World) (hn : n ≤ 2 ^ 20) (h : ArgS w a n f) :
    Calls Tryd.prog 28 #[.slice a n c] w fun e w' => ∃ v, e = .returned v ∧ OwnS w' w.heap.size v n f ∧ w.heap.size < w'.heap.size ∧ Below w.heap.size w w' := by
  have H : Hid (ArgS w a n f) := h
  clear h
  have hmk := make_strs n (by omega)
  have n1 := strs_made n w 9
  obtain ⟨W, hW⟩ : ∃ W, W = w.alloc (.cells (madeCells #[.string ⟨#[]⟩] n) 9) := ⟨_, rfl⟩
  have hsz : W.heap.size = w.heap.size + 1 := by rw [hW]; simp
  have hbl : Below w.heap.size w W := by rw [hW]; go_grown
  rw [← hW] at n1
  have hmw := hmk w
  rw [← hW] at hmw
  clear hmk
  have HN : Hid (StrsAt W w.heap.size n (fun _ => ⟨#[]⟩)) := n1
  clear n1 hW
  go_enter Tryd.func28, Tryd.ntmps28
  go_wp2_with fail
  go_loopw [4] (fun i wr => ∃ k : Nat, k ≤ n ∧ i = .int .i64 k ∧ w.heap.size < wr.heap.size ∧ Below w.heap.size w wr ∧ Hid (StrsAt wr w.heap.size n (fun j => if j < k then f j else ⟨#[]⟩))) (fun i _ => n - (intOf i).toNat)
  case atStart => exact ⟨0, Nat.zero_le _, rfl, by omega, hbl, by show StrsAt _ _ _ _; simpa using HN.out⟩
  case round =>
    obtain ⟨k, hk, rfl, hz, hnx, HI⟩ := hrel
    by_cases hlt : k < n
    · rcases H.out with h0 | ⟨b, off, rfl, hb, hat⟩
      · omega
      have a0 := (hnx.cell hb).trans (hat k hlt)
      have l0 := (HI.out k hlt).1
      have l1 := (HI.out k hlt).2
      simp only [Nat.lt_irrefl, if_false] at l0
      have i0 : (0 : Int) ≤ (k : Int) := by omega
      have i1 : (k : Int) < (n : Int) := by omega
      clear hat
      go_wp2
      have r1 := (HI.out).set hlt (f k)
      go_roundw
      case rel =>
        refine ⟨k + 1, by omega, by go_num, by simpa [World.setCell] using hz, hnx.setCell (p := ⟨w.heap.size, _, none⟩) (Nat.le_refl _) _, r1.congr fun i hi => ?_⟩
        by_cases e : i = k
        · subst e; simp
        · by_cases e2 : i < k
          · simp [e, e2, Nat.lt_succ_of_lt e2]
          · have e3 : ¬ i < k + 1 := by omega
            simp [e, e2, e3]
      case measure => simp [intOf]; omega
    · go_wp2
      go_ret
      obtain rfl : k = n := by omega
      exact ⟨_, rfl, ⟨_, _, rfl, by omega, .inr ⟨rfl, hz, HI.out.congr fun i hi => by rw [if_pos hi]⟩⟩, hz, hnx⟩

end Go.Proofs.YthgjelbhhdomdaaDoor
namespace Go.Proofs.YthgjelbhhdomdaaDoor
open Go.RowKit
set_option linter.unusedVariables false

/-- Names of which there is a path. -/
def GoodP (f : Nat → ByteArray) (n : Nat) : Prop := (∀ i, i < n → plainB (f i) = true) ∧ (pathL (lst f n)).length ≤ 60
def TxTold (f : Nat → ByteArray) (n : Nat) (s : ByteArray) (q : Bool) : Prop := (q = true ∧ GoodP f n ∧ s = strL (pathL (lst f n))) ∨ (q = false ∧ ¬ GoodP f n ∧ s = ⟨#[]⟩)
theorem TxTold.same {f : Nat → ByteArray} {n : Nat} {s t : ByteArray} {q r : Bool} (h : TxTold f n s q) (k : TxTold f n t r) : s = t ∧ q = r := by
  rcases h with ⟨rfl, g, rfl⟩ | ⟨rfl, g, rfl⟩ <;> rcases k with ⟨rfl, g', rfl⟩ | ⟨rfl, g', rfl⟩
  · exact ⟨rfl, rfl⟩
  · exact absurd g g'
  · exact absurd g' g
  · exact ⟨rfl, rfl⟩
def TxIs (f : Nat → ByteArray) (n : Nat) (w : World) (e : Ending) (w' : World) : Prop := ∃ s q, e = .returned (.tuple #[.string s, .bool q]) ∧ TxTold f n s q ∧ Below w.heap.size w w'

theorem on_path (p : ByteArray) (l : List UInt8) : p ++ ⟨#[47]⟩ ++ strL l = p ++ strL (47 :: l) := by
  rw [show (47 :: l) = [47] ++ l from rfl, ← strL_append, ByteArray.append_assoc]
  rfl

theorem len60 (s : ByteArray) : decide ((s.size : Int) ≤ 60) = decide (s.size ≤ 60) := decide_eq_decide.2 (by omega)

set_option maxHeartbeats 1000000 in
theorem pathOn_any (p nm : ByteArray) (w : World) (hp : p.size ≤ 2 ^ 20) (hn : nm.size ≤ 2 ^ 24) (hm : ML w) :
    Calls Tryd.prog 56 #[.string p, .string nm] w fun e w' => ((plainB nm = true ∧ e = .returned (.tuple #[.string (p ++ strL (47 :: pesc nm.data.toList)), .bool (decide ((p ++ strL (47 :: pesc nm.data.toList)).size ≤ 60))])) ∨ (plainB nm = false ∧ e = .returned (.tuple #[.string ⟨#[]⟩, .bool false]))) ∧ Below w.heap.size w w' := by
  have HML : Hid (ML w) := hm
  have HE : Hid ((pesc nm.data.toList).length ≤ 2 ^ 25) := by
    have h1 := pesc_length nm.data.toList
    have h2 : nm.data.toList.length = nm.size := Array.length_toList
    show _ ≤ _
    omega
  clear hm
  cases hpl : plainB nm with
  | false =>
    go_enter Tryd.func56, Tryd.ntmps56
    go_wp2_with fail
    refine (isPlain_any nm _ (by omega)).mono ?_
    rintro e w0 ⟨rfl, hw0⟩
    have hw := hw0.symm
    subst hw
    clear hw0
    rw [hpl]
    go_wp2
    exact bodyPost_ret (v := .tuple #[.string ⟨#[]⟩, .bool false]) (by simp [results, Tryd.results56, go_sem]) rfl ⟨.inr ⟨by simp, rfl⟩, Below.refl _ _⟩
  | true =>
    go_enter Tryd.func56, Tryd.ntmps56
    go_wp2_with fail
    refine (isPlain_any nm _ (by omega)).mono ?_
    rintro e w0 ⟨rfl, hw0⟩
    have hw := hw0.symm
    subst hw
    clear hw0
    rw [hpl]
    go_wp2_with fail
    refine (writeName_any nm _ hn HML.out).mono ?_
    rintro e w1 ⟨rfl, hb1⟩
    have HB1 : Hid (Below w.heap.size w w1) := hb1
    have hsz : (strL (pesc nm.data.toList)).size ≤ 2 ^ 25 := by rw [strL_size]; exact HE.out
    clear hb1
    go_wp2
    exact bodyPost_ret (v := .tuple #[.string (p ++ ⟨#[47]⟩ ++ strL (pesc nm.data.toList)), .bool (decide (((p ++ ⟨#[47]⟩ ++ strL (pesc nm.data.toList)).size : Int) ≤ 60))]) (by simp [results, Tryd.results56, go_sem]) rfl ⟨.inl ⟨by simp, by rw [on_path, len60]⟩, HB1.out⟩

set_option maxRecDepth 100000 in
set_option maxHeartbeats 1000000 in
theorem implPathText_any (a : Option Addr) (c n : Nat) (f : Nat → ByteArray) (w : World) (h : ArgS w a n f) (hsm : SmallS n f) (hm : ML w) :
    Calls Tryd.prog 29 #[.slice a n c] w (TxIs f n w) := by
  have H : Hid (ArgS w a n f) := h
  have HSM : Hid (SmallS n f) := hsm
  have HML : Hid (ML w) := hm
  have n20 : n ≤ 2 ^ 20 := hsm.1
  clear h hsm hm
  go_enter Tryd.func29, Tryd.ntmps29
  go_wp2_with fail
  go_loopw [4, 11] (fun o i wr => ∃ (k : Nat) (s : ByteArray), k ≤ n ∧ i = .int .i64 k ∧ o = .string s ∧ s.size ≤ 60 ∧ Hid (s = strL (pathL (lst f k)) ∧ ∀ j, j < k → plainB (f j) = true) ∧ Below w.heap.size w wr) (fun _ i _ => n - (intOf i).toNat)
  case atStart => exact ⟨0, _, Nat.zero_le _, rfl, rfl, by decide, ⟨rfl, fun j hj => by omega⟩, Below.refl _ _⟩
  case round =>
    obtain ⟨k, s, hk, rfl, rfl, hs, HP, hnx⟩ := hrel
    by_cases hlt : k < n
    · rcases H.out with h0 | ⟨b, off, rfl, hb, hat⟩
      · omega
      have a0 := (hnx.cell hb).trans (hat k hlt)
      have i0 : (0 : Int) ≤ (k : Int) := by omega
      have i1 : (k : Int) < (n : Int) := by omega
      have t0 := HSM.out.2 k hlt
      clear hat
      go_wp2_with fail
      refine (pathOn_any s (f k) _ (by omega) (by omega) (HML.out.below hnx)).mono ?_
      rintro e w1 ⟨ho, hb1⟩
      have HB : Hid (Below w.heap.size w w1) := hnx.trans (hb1.mono hnx.size)
      have HNX : Hid (s ++ strL (47 :: pesc (f k).data.toList) = strL (pathL (lst f (k + 1)))) := by
        show _ = _
        rw [HP.out.1, strL_append, pathL_succ]
      clear hb1
      rcases ho with ⟨hpl, rfl⟩ | ⟨hpl, rfl⟩
      · rw [HNX.out]
        have HP' : Hid (∀ j, j < k + 1 → plainB (f j) = true) := fun j hj => by
          by_cases e : j = k
          · subst e; exact hpl
          · exact HP.out.2 j (by omega)
        by_cases h60 : (strL (pathL (lst f (k + 1)))).size ≤ 60
        · rw [decide_eq_true h60]
          go_wp2
          go_roundw
          case rel => exact ⟨k + 1, _, by omega, by go_num, rfl, h60, ⟨rfl, HP'.out⟩, HB.out⟩
          case measure => simp [intOf]; omega
        · rw [decide_eq_false h60]
          have HN : Hid (¬ GoodP f n) := fun g => by
            have := pathL_mono f (show k + 1 ≤ n by omega)
            have := g.2
            rw [strL_size] at h60
            omega
          go_wp2
          exact bodyPost_ret (v := .tuple #[.string ⟨#[]⟩, .bool false]) (by simp [results, Tryd.results29, go_sem]) rfl ⟨_, _, rfl, .inr ⟨rfl, HN.out, rfl⟩, HB.out⟩
      · have HN : Hid (¬ GoodP f n) := fun g => by
          have := g.1 k hlt
          rw [hpl] at this
          simp at this
        go_wp2
        exact bodyPost_ret (v := .tuple #[.string ⟨#[]⟩, .bool false]) (by simp [results, Tryd.results29, go_sem]) rfl ⟨_, _, rfl, .inr ⟨rfl, HN.out, rfl⟩, HB.out⟩
    · obtain rfl : k = n := by omega
      have HG : Hid (GoodP f k) := ⟨HP.out.2, by have := HP.out.1; subst this; rwa [strL_size] at hs⟩
      have HS : Hid (s = strL (pathL (lst f k))) := HP.out.1
      go_wp2
      exact bodyPost_ret (v := .tuple #[.string s, .bool true]) (by simp [results, Tryd.results29, go_sem]) rfl ⟨_, _, rfl, .inl ⟨rfl, HG.out, HS.out⟩, hnx⟩

set_option maxRecDepth 100000 in
set_option maxHeartbeats 1000000 in
theorem specPathText_any (a : Option Addr) (c n : Nat) (f : Nat → ByteArray) (w : World) (h : ArgS w a n f) (hsm : SmallS n f) :
    Calls Tryd.prog 27 #[.slice a n c] w (TxIs f n w) := by
  have H : Hid (ArgS w a n f) := h
  have HSM : Hid (SmallS n f) := hsm
  have n20 : n ≤ 2 ^ 20 := hsm.1
  clear h hsm
  go_enter Tryd.func27, Tryd.ntmps27
  go_wp2_with fail
  go_loopw [9] (fun i wr => ∃ k : Nat, k ≤ n ∧ i = .int .i64 k ∧ Hid (∀ j, j < k → plainB (f j) = true) ∧ Below w.heap.size w wr) (fun i _ => n - (intOf i).toNat)
  case atStart => exact ⟨0, Nat.zero_le _, rfl, fun j hj => by omega, Below.refl _ _⟩
  case round =>
    obtain ⟨k, hk, rfl, HP, hnx⟩ := hrel
    by_cases hlt : k < n
    · rcases H.out with h0 | ⟨b, off, rfl, hb, hat⟩
      · omega
      have a0 := (hnx.cell hb).trans (hat k hlt)
      have i0 : (0 : Int) ≤ (k : Int) := by omega
      have i1 : (k : Int) < (n : Int) := by omega
      have t0 := HSM.out.2 k hlt
      clear hat
      go_wp2_with fail
      refine (l1Printed_any (f k) _ (by omega)).mono ?_
      rintro e w1 ⟨rfl, rfl⟩
      cases hpl : plainB (f k) with
      | false =>
        have HN : Hid (¬ GoodP f n) := fun g => by
          have := g.1 k hlt
          rw [hpl] at this
          simp at this
        go_wp2
        exact bodyPost_ret (v := .tuple #[.string ⟨#[]⟩, .bool false]) (by simp [results, Tryd.results27, go_sem]) rfl ⟨_, _, rfl, .inr ⟨rfl, HN.out, rfl⟩, hnx⟩
      | true =>
        have HP' : Hid (∀ j, j < k + 1 → plainB (f j) = true) := fun j hj => by
          by_cases e : j = k
          · subst e; exact hpl
          · exact HP.out j (by omega)
        go_wp2
        go_roundw
        case rel => exact ⟨k + 1, by omega, by go_num, HP', hnx⟩
        case measure => simp [intOf]; omega
    · obtain rfl : k = n := by omega
      have HSZ : Hid (∀ i, i < k → (f i).size ≤ 2 ^ 20) := HSM.out.2
      go_wp2_with fail
      refine (l3Text_any a c k f _ n20 (H.out.below hnx) HSZ.out).mono ?_
      rintro e w1 ⟨rfl, hb1⟩
      have HB : Hid (Below w.heap.size w w1) := hnx.trans (hb1.mono hnx.size)
      clear hb1
      by_cases h60 : (strL (pathL (lst f k))).size ≤ 60
      · have HG : Hid (GoodP f k) := ⟨HP.out, by rwa [strL_size] at h60⟩
        go_wp2
        exact bodyPost_ret (v := .tuple #[.string (strL (pathL (lst f k))), .bool true]) (by simp [results, Tryd.results27, go_sem]) rfl ⟨_, _, rfl, .inl ⟨rfl, HG.out, rfl⟩, HB.out⟩
      · have HN : Hid (¬ GoodP f k) := fun g => by
          have := g.2
          rw [strL_size] at h60
          omega
        have h60' : 60 < (strL (pathL (lst f k))).size := by omega
        go_wp2
        exact bodyPost_ret (v := .tuple #[.string ⟨#[]⟩, .bool false]) (by simp [results, Tryd.results27, go_sem]) rfl ⟨_, _, rfl, .inr ⟨rfl, HN.out, rfl⟩, HB.out⟩

end Go.Proofs.YthgjelbhhdomdaaDoor
