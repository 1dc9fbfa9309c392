/- A name written into a path: the program's writeName. -/
import Derived.Test.YtjohocnfcnjciaaGreatDoorText
import Derived.Test.YtjohocnfcnjciaaGreatDoorEsc
import Derived.Test.YtjohocnfcnjciaaGreatDoorStrs0
import Derived.Test.YtjohocnfcnjciaaGreatDoorLib3
namespace Go.Proofs.YtjohocnfcnjciaaGreatDoor
open Go.RowKit
set_option linter.unusedVariables false

/-- The library's variable for the greatest length holds a whole number. -/
def ML (w : World) : Prop := ∃ m : Int, w.cell? ⟨1, 0, none⟩ = some (.int .i64 m)
theorem ML.below {w w' : World} (h : ML w) (hb : Below w.heap.size w w') : ML w' := by
  obtain ⟨m, hm⟩ := h
  exact ⟨m, (hb.cell (World.block_lt_of_cell? _ _ hm)).trans hm⟩

theorem room (s old new : ByteArray) (h1 : 1 ≤ old.size) (h2 : new.size ≤ 2) (hs : s.size ≤ 2 ^ 30) : s.size + Lib.countB s old * new.size ≤ 140737488355328 := by
  have h := Lib.countB_le old h1 s.size s (Nat.le_refl _)
  have : Lib.countB s old * new.size ≤ s.size * 2 := Nat.mul_le_mul h h2
  omega

/-- The path of names. -/
def pathL (l : List ByteArray) : List UInt8 := l.flatMap fun n => 47 :: pesc n.data.toList
def lst (f : Nat → ByteArray) (n : Nat) : List ByteArray := (List.range n).map f
theorem lst_succ (f : Nat → ByteArray) (k : Nat) : lst f (k + 1) = lst f k ++ [f k] := by simp [lst, List.range_succ]
theorem lst_length (f : Nat → ByteArray) (k : Nat) : (lst f k).length = k := by simp [lst]
theorem pathL_snoc (l : List ByteArray) (x : ByteArray) : pathL (l ++ [x]) = pathL l ++ 47 :: pesc x.data.toList := by simp [pathL]
theorem pathL_succ (f : Nat → ByteArray) (k : Nat) : pathL (lst f (k + 1)) = pathL (lst f k) ++ 47 :: pesc (f k).data.toList := by rw [lst_succ, pathL_snoc]
theorem pathL_mono (f : Nat → ByteArray) {k n : Nat} (h : k ≤ n) : (pathL (lst f k)).length ≤ (pathL (lst f n)).length := by
  induction n with
  | zero => obtain rfl : k = 0 := by omega
            exact Nat.le_refl _
  | succ n ih =>
    by_cases e : k = n + 1
    · subst e; exact Nat.le_refl _
    · rw [pathL_succ, List.length_append]
      have := ih (by omega)
      omega
theorem pathL_bound (f : Nat → ByteArray) (m : Nat) (n : Nat) (h : ∀ i, i < n → (f i).size ≤ m) : (pathL (lst f n)).length ≤ n * (2 * m + 1) := by
  induction n with
  | zero => simp [lst, pathL]
  | succ n ih =>
    rw [pathL_succ, List.length_append, List.length_cons]
    have h1 := ih fun i hi => h i (by omega)
    have h2 := pesc_length (f n).data.toList
    have h3 : (f n).data.toList.length ≤ m := by have := h n (by omega); rwa [Array.length_toList]
    have e : (n + 1) * (2 * m + 1) = n * (2 * m + 1) + (2 * m + 1) := by rw [Nat.add_mul, Nat.one_mul]
    omega

set_option maxHeartbeats 1000000 in
theorem writeName_any (s : ByteArray) (w : World) (hs : s.size ≤ 2 ^ 24) (hm : ML w) :
    Calls Tryz.prog 114 #[.string s] w fun e w' => e = .returned (.string (strL (pesc s.data.toList))) ∧ Below w.heap.size w w' := by
  have HML : Hid (ML w) := hm
  have HT : Hid ((⟨(tilOnly s.data.toList).toArray⟩ : ByteArray).size ≤ 2 ^ 25) := by
    have h1 := tilOnly_length s.data.toList
    have h2 : s.data.toList.length = s.size := Array.length_toList
    have h3 : (strL (tilOnly s.data.toList)).size = (tilOnly s.data.toList).length := strL_size _
    show (strL (tilOnly s.data.toList)).size ≤ _
    omega
  clear hm
  go_enter Tryz.func114, Tryz.ntmps114
  go_wp2_with fail
  obtain ⟨m, hm⟩ := HML.out
  refine (Tryz.strings_ReplaceAll s ⟨#[126]⟩ ⟨#[126, 48]⟩ m _ (by omega) hm (by decide) (room s _ _ (by decide) (by decide) (by omega))).mono ?_
  rintro e w1 ⟨rfl, hb1⟩
  have HB1 : Hid (Below w.heap.size w w1) := hb1
  have HM1 : Hid (ML w1) := HML.out.below hb1
  clear hb1 hm
  rw [show Lib.replaceAll s.data.toList (⟨#[126]⟩ : ByteArray).data.toList (⟨#[126, 48]⟩ : ByteArray).data.toList = tilOnly s.data.toList from rep_til _]
  go_wp2_with fail
  obtain ⟨m1, hm1⟩ := HM1.out
  refine (Tryz.strings_ReplaceAll ⟨(tilOnly s.data.toList).toArray⟩ ⟨#[47]⟩ ⟨#[126, 49]⟩ m1 _ (by have := HT.out; omega) hm1 (by decide) (room _ _ _ (by decide) (by decide) (by have := HT.out; omega))).mono ?_
  rintro e w2 ⟨rfl, hb2⟩
  have HB2 : Hid (Below w.heap.size w w2) := HB1.out.trans (hb2.mono HB1.out.size)
  clear hb2 hm1
  rw [show Lib.replaceAll (⟨(tilOnly s.data.toList).toArray⟩ : ByteArray).data.toList (⟨#[47]⟩ : ByteArray).data.toList (⟨#[126, 49]⟩ : ByteArray).data.toList = pesc s.data.toList from rep_esc _]
  go_wp2
  go_ret
  exact ⟨rfl, HB2.out⟩

theorem ext_one (s : ByteArray) (k : Nat) (h : k < s.size) : s.extract k (k + 1) = strL [s[k]] := by
  apply ByteArray.ext
  simp [strL]
  apply Array.ext'
  have h' : k < s.data.toList.length := by simpa using h
  simp
  rw [List.drop_eq_getElem_cons h']
  simp
  rfl
theorem byte_eq (c : UInt8) (v : Nat) (hv : v < 256) : ((c.toNat : Int) == (v : Int)) = true ↔ c = UInt8.ofNat v := by
  rw [beq_iff_eq]
  constructor
  · intro h
    apply UInt8.toNat.inj
    rw [UInt8.toNat_ofNat']
    omega
  · intro h
    rw [h, UInt8.toNat_ofNat']
    omega

end Go.Proofs.YtjohocnfcnjciaaGreatDoor
