/- A name written into a path: the program's writeName and pathOn, the specification's l3Text. -/
import Derived.Test.YthgjelbhhdomdaaDoorText
import Derived.Test.YthgjelbhhdomdaaDoorSeg
import Derived.Test.YthgjelbhhdomdaaDoorStrs
import Derived.Test.YthgjelbhhdomdaaDoorLib3
namespace Go.Proofs.YthgjelbhhdomdaaDoor
open Go.RowKit
set_option linter.unusedVariables false

/-- The library's variable for the greatest length holds a whole number. -/
def ML (w : World) : Prop := ∃ m : Int, w.cell? ⟨1, 0, none⟩ = some (.int .i64 m)
theorem ML.below {w w' : World} (h : ML w) (hb : Below w.heap.size w w') : ML w' := by
  obtain ⟨m, hm⟩ := h
  exact ⟨m, (hb.cell (World.block_lt_of_cell? _ _ hm)).trans hm⟩

theorem room (s old new : ByteArray) (h1 : 1 ≤ old.size) (h2 : new.size ≤ 2) (hs : s.size ≤ 2 ^ 30) : s.size + Lib.countB s old * new.size ≤ 140737488355328 := by
  have h := Lib.countB_le old h1 s.size s (Nat.le_refl _)
  have : Lib.countB s old * new.size ≤ s.size * 2 := Nat.mul_le_mul h h2
  omega

/-- The path of names. -/
def pathL (l : List ByteArray) : List UInt8 := l.flatMap fun n => 47 :: pesc n.data.toList
def lst (f : Nat → ByteArray) (n : Nat) : List ByteArray := (List.range n).map f
theorem lst_succ (f : Nat → ByteArray) (k : Nat) : lst f (k + 1) = lst f k ++ [f k] := by simp [lst, List.range_succ]
theorem lst_length (f : Nat → ByteArray) (k : Nat) : (lst f k).length = k := by simp [lst]
theorem pathL_snoc (l : List ByteArray) (x : ByteArray) : pathL (l ++ [x]) = pathL l ++ 47 :: pesc x.data.toList := by simp [pathL]
theorem pathL_succ (f : Nat → ByteArray) (k : Nat) : pathL (lst f (k + 1)) = pathL (lst f k) ++ 47 :: pesc (f k).data.toList := by rw [lst_succ, pathL_snoc]
theorem pathL_mono (f : Nat → ByteArray) {k n : Nat} (h : k ≤ n) : (pathL (lst f k)).length ≤ (pathL (lst f n)).length := by
  induction n with
  | zero => obtain rfl : k = 0 := by omega
            exact Nat.le_refl _
  | succ n ih =>
    by_cases e : k = n + 1
    · subst e; exact Nat.le_refl _
    · rw [pathL_succ, List.length_append]
      have := ih (by omega)
      omega
theorem pathL_bound (f : Nat → ByteArray) (m : Nat) (n : Nat) (h : ∀ i, i < n → (f i).size ≤ m) : (pathL (lst f n)).length ≤ n * (2 * m + 1) := by
  induction n with
  | zero => simp [lst, pathL]
  | succ n ih =>
    rw [pathL_succ, List.length_append, List.length_cons]
    have h1 := ih fun i hi => h i (by omega)
    have h2 := pesc_length (f n).data.toList
    have h3 : (f n).data.toList.length ≤ m := by have := h n (by omega); rwa [Array.length_toList]
    have e : (n + 1) * (2 * m + 1) = n * (2 * m + 1) + (2 * m + 1) := by rw [Nat.add_mul, Nat.one_mul]
    omega

set_option maxHeartbeats 1000000 in
theorem writeName_any (s : ByteArray) (w : World) (hs : s.size ≤ 2 ^ 24) (hm : ML w) :
    Calls Tryd.prog 90 #[.string s] w fun e w' => e = .returned (.string (strL (pesc s.data.toList))) ∧ Below w.heap.size w w' := by
  have HML : Hid (ML w) := hm
  have HT : Hid ((⟨(tilOnly s.data.toList).toArray⟩ : ByteArray).size ≤ 2 ^ 25) := by
    have h1 := tilOnly_length s.data.toList
    have h2 : s.data.toList.length = s.size := Array.length_toList
    have h3 : (strL (tilOnly s.data.toList)).size = (tilOnly s.data.toList).length := strL_size _
    show (strL (tilOnly s.data.toList)).size ≤ _
    omega
  clear hm
  go_enter Tryd.func90, Tryd.ntmps90
  go_wp2_with fail
  obtain ⟨m, hm⟩ := HML.out
  refine (Tryd.strings_ReplaceAll s ⟨#[126]⟩ ⟨#[126, 48]⟩ m _ (by omega) hm (by decide) (room s _ _ (by decide) (by decide) (by omega))).mono ?_
  rintro e w1 ⟨rfl, hb1⟩
  have HB1 : Hid (Below w.heap.size w w1) := hb1
  have HM1 : Hid (ML w1) := HML.out.below hb1
  clear hb1 hm
  rw [show Lib.replaceAll s.data.toList (⟨#[126]⟩ : ByteArray).data.toList (⟨#[126, 48]⟩ : ByteArray).data.toList = tilOnly s.data.toList from rep_til _]
  go_wp2_with fail
  obtain ⟨m1, hm1⟩ := HM1.out
  refine (Tryd.strings_ReplaceAll ⟨(tilOnly s.data.toList).toArray⟩ ⟨#[47]⟩ ⟨#[126, 49]⟩ m1 _ (by have := HT.out; omega) hm1 (by decide) (room _ _ _ (by decide) (by decide) (by have := HT.out; omega))).mono ?_
  rintro e w2 ⟨rfl, hb2⟩
  have HB2 : Hid (Below w.heap.size w w2) := HB1.out.trans (hb2.mono HB1.out.size)
  clear hb2 hm1
  rw [show Lib.replaceAll (⟨(tilOnly s.data.toList).toArray⟩ : ByteArray).data.toList (⟨#[47]⟩ : ByteArray).data.toList (⟨#[126, 49]⟩ : ByteArray).data.toList = pesc s.data.toList from rep_esc _]
  go_wp2
  go_ret
  exact ⟨rfl, HB2.out⟩

theorem ext_one (s : ByteArray) (k : Nat) (h : k < s.size) : s.extract k (k + 1) = strL [s[k]] := by
  apply ByteArray.ext
  simp [strL]
  apply Array.ext'
  have h' : k < s.data.toList.length := by simpa using h
  simp
  rw [List.drop_eq_getElem_cons h']
  simp
  rfl
theorem byte_eq (c : UInt8) (v : Nat) (hv : v < 256) : ((c.toNat : Int) == (v : Int)) = true ↔ c = UInt8.ofNat v := by
  rw [beq_iff_eq]
  constructor
  · intro h
    apply UInt8.toNat.inj
    rw [UInt8.toNat_ofNat']
    omega
  · intro h
    rw [h, UInt8.toNat_ofNat']
    omega
/-- What is written of the first i bytes. -/
def pescTo (s : ByteArray) (i : Nat) : List UInt8 := pesc (s.data.toList.take i)
theorem pescTo_succ (s : ByteArray) (i : Nat) (h : i < s.size) : pescTo s (i + 1) = pescTo s i ++ (if s[i] = 126 then [126, 48] else if s[i] = 47 then [126, 49] else [s[i]]) := by
  have h' : i < s.data.toList.length := by simpa using h
  unfold pescTo
  rw [List.take_succ_eq_append_getElem h', pesc_append]
  simp only [pesc, List.append_nil]
  rfl
theorem pescTo_all (s : ByteArray) : pescTo s s.size = pesc s.data.toList := by
  unfold pescTo
  rw [List.take_of_length_le (by rw [Array.length_toList]; exact Nat.le_refl _)]
theorem pescTo_len (s : ByteArray) (i : Nat) : (pescTo s i).length ≤ 2 * i := by
  have := pesc_length (s.data.toList.take i)
  have h2 := List.length_take_le i s.data.toList
  unfold pescTo
  omega
theorem step_esc {s : ByteArray} {i : Nat} {P : List UInt8} {o x : ByteArray} (h : i < s.size) (ho : o = strL (P ++ 47 :: pescTo s i)) (hx : x = strL (if s[i] = 126 then [126, 48] else if s[i] = 47 then [126, 49] else [s[i]])) : o ++ x = strL (P ++ 47 :: pescTo s (i + 1)) := by
  rw [ho, hx, strL_append, pescTo_succ s i h]
  simp

set_option maxRecDepth 100000 in
set_option maxHeartbeats 2000000 in
theorem l3Text_any (a : Option Addr) (c n : Nat) (f : Nat → ByteArray) (w : World) (hn : n ≤ 2 ^ 20) (h : ArgS w a n f) (hz : ∀ i, i < n → (f i).size ≤ 2 ^ 20) :
    Calls Tryd.prog 55 #[.slice a n c] w fun e w' => e = .returned (.string (strL (pathL (lst f n)))) ∧ Below w.heap.size w w' := by
  have H : Hid (ArgS w a n f) := h
  have HZ : Hid (∀ i, i < n → (f i).size ≤ 2 ^ 20) := hz
  clear h hz
  go_enter Tryd.func55, Tryd.ntmps55
  go_wp2_with fail
  go_loopw [3, 9] (fun o i wr => ∃ (k : Nat) (s : ByteArray), k ≤ n ∧ i = .int .i64 k ∧ o = .string s ∧ s.size ≤ 2 ^ 42 ∧ Hid (s = strL (pathL (lst f k))) ∧ Below w.heap.size w wr) (fun _ i _ => n - (intOf i).toNat)
  case atStart => exact ⟨0, _, Nat.zero_le _, rfl, rfl, by decide, rfl, Below.refl _ _⟩
  case round =>
    obtain ⟨k, s, hk, rfl, rfl, hs, HP, hnx⟩ := hrel
    by_cases hlt : k < n
    · rcases H.out with h0 | ⟨b, off, rfl, hb, hat⟩
      · omega
      have a0 := (hnx.cell hb).trans (hat k hlt)
      have i0 : (0 : Int) ≤ (k : Int) := by omega
      have i1 : (k : Int) < (n : Int) := by omega
      have t0 := HZ.out k hlt
      have HQ : Hid (s ++ ⟨#[47]⟩ = strL (pathL (lst f k) ++ 47 :: pescTo (f k) 0)) := by
        show _ = _
        rw [HP.out, show (⟨#[47]⟩ : ByteArray) = strL [47] from rfl, strL_append]
        rfl
      clear hat
      go_wp2_with fail
      go_loopw [3, 6] (fun o i wr => ∃ (j : Nat) (s : ByteArray), j ≤ (f k).size ∧ i = .int .i64 j ∧ o = .string s ∧ s.size ≤ 2 ^ 42 + 1 + 2 * j ∧ Hid (s = strL (pathL (lst f k) ++ 47 :: pescTo (f k) j)) ∧ Below w.heap.size w wr) (fun _ i _ => (f k).size - (intOf i).toNat)
      case atStart => exact ⟨0, _, Nat.zero_le _, rfl, rfl, by rw [ByteArray.size_append]; show s.size + 1 ≤ _; omega, HQ, hnx⟩
      case round =>
        obtain ⟨j, s', hj, rfl, rfl, hs', HP', hnx'⟩ := hrel
        by_cases hjl : j < (f k).size
        · have h1 := byte_eq (f k)[j] 126 (by omega)
          have h2 := byte_eq (f k)[j] 47 (by omega)
          have HE : Hid ((f k).extract j (j + 1) = strL [(f k)[j]]) := ext_one (f k) j hjl
          have j0 : (0 : Int) ≤ (j : Int) := by omega
          have j1 : (j : Int) < ((f k).size : Int) := by omega
          by_cases c1 : (((f k)[j].toNat : Int) == 126) = true
          · have HS : Hid (s' ++ ⟨#[126, 48]⟩ = strL (pathL (lst f k) ++ 47 :: pescTo (f k) (j + 1))) := step_esc hjl HP'.out (by rw [if_pos (show (f k)[j] = 126 from h1.1 c1)]; rfl)
            clear h1 h2
            go_wp2
            go_roundw
            case rel => exact ⟨j + 1, _, by omega, by go_num, rfl, by rw [ByteArray.size_append]; show s'.size + 2 ≤ _; omega, HS, hnx'⟩
            case measure => simp [intOf]; omega
          · have c1b : (((f k)[j].toNat : Int) == 126) = false := by simpa using c1
            by_cases c2 : (((f k)[j].toNat : Int) == 47) = true
            · have HS : Hid (s' ++ ⟨#[126, 49]⟩ = strL (pathL (lst f k) ++ 47 :: pescTo (f k) (j + 1))) := step_esc hjl HP'.out (by rw [if_neg (show ¬ (f k)[j] = 126 from fun e => c1 (h1.2 e)), if_pos (show (f k)[j] = 47 from h2.1 c2)]; rfl)
              clear h1 h2 c1
              go_wp2
              go_roundw
              case rel => exact ⟨j + 1, _, by omega, by go_num, rfl, by rw [ByteArray.size_append]; show s'.size + 2 ≤ _; omega, HS, hnx'⟩
              case measure => simp [intOf]; omega
            · have c2b : (((f k)[j].toNat : Int) == 47) = false := by simpa using c2
              have HS : Hid (s' ++ (f k).extract j (j + 1) = strL (pathL (lst f k) ++ 47 :: pescTo (f k) (j + 1))) := step_esc hjl HP'.out (by rw [if_neg (show ¬ (f k)[j] = 126 from fun e => c1 (h1.2 e)), if_neg (show ¬ (f k)[j] = 47 from fun e => c2 (h2.2 e)), HE.out])
              have HX : Hid (((f k).extract j (j + 1)).size = 1) := by show _ = _; rw [HE.out]; rfl
              clear h1 h2 c1 c2
              go_wp2
              go_roundw
              case rel => exact ⟨j + 1, _, by omega, by go_num, rfl, by rw [ByteArray.size_append, HX.out]; omega, HS, hnx'⟩
              case measure => simp [intOf]; omega
        · obtain rfl : j = (f k).size := by omega
          have HS : Hid (s' = strL (pathL (lst f (k + 1)))) := by
            show _ = _
            rw [HP'.out, pescTo_all, pathL_succ]
          have HB : Hid ((strL (pathL (lst f (k + 1)))).size ≤ 2 ^ 42) := by
            show _ ≤ _
            rw [strL_size]
            have := pathL_bound f (2 ^ 20) (k + 1) (fun i hi => HZ.out i (by omega))
            have : (k + 1) * (2 * 2 ^ 20 + 1) ≤ 2 ^ 20 * (2 * 2 ^ 20 + 1) := Nat.mul_le_mul_right _ (by omega)
            omega
          go_wp2
          go_roundw
          case rel => exact ⟨k + 1, s', by omega, by go_num, rfl, by rw [HS.out]; exact HB.out, HS, hnx'⟩
          case measure => simp [intOf]; omega
    · obtain rfl : k = n := by omega
      have HS : s = strL (pathL (lst f k)) := HP.out
      clear HP
      subst HS
      go_wp2
      go_ret
      exact ⟨rfl, hnx⟩

end Go.Proofs.YthgjelbhhdomdaaDoor
