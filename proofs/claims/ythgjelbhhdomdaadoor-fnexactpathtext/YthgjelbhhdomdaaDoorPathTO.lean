/- The path of a list of names: the program and the specification. -/
import Derived.Test.YthgjelbhhdomdaaDoorPathT
import Derived.Test.YthgjelbhhdomdaaDoorStrsTo
namespace Go.Proofs.YthgjelbhhdomdaaDoor
open Go.RowKit
set_option linter.unusedVariables false

/-- Names of which there is a path. -/
def GoodP (f : Nat → ByteArray) (n : Nat) : Prop := (∀ i, i < n → plainB (f i) = true) ∧ (pathL (lst f n)).length ≤ 60
def TxTold (f : Nat → ByteArray) (n : Nat) (s : ByteArray) (q : Bool) : Prop := (q = true ∧ GoodP f n ∧ s = strL (pathL (lst f n))) ∨ (q = false ∧ ¬ GoodP f n ∧ s = ⟨#[]⟩)
theorem TxTold.same {f : Nat → ByteArray} {n : Nat} {s t : ByteArray} {q r : Bool} (h : TxTold f n s q) (k : TxTold f n t r) : s = t ∧ q = r := by
  rcases h with ⟨rfl, g, rfl⟩ | ⟨rfl, g, rfl⟩ <;> rcases k with ⟨rfl, g', rfl⟩ | ⟨rfl, g', rfl⟩
  · exact ⟨rfl, rfl⟩
  · exact absurd g g'
  · exact absurd g' g
  · exact ⟨rfl, rfl⟩
def TxIs (f : Nat → ByteArray) (n : Nat) (w : World) (e : Ending) (w' : World) : Prop := ∃ s q, e = .returned (.tuple #[.string s, .bool q]) ∧ TxTold f n s q ∧ Below w.heap.size w w'

theorem on_path (p : ByteArray) (l : List UInt8) : p ++ ⟨#[47]⟩ ++ strL l = p ++ strL (47 :: l) := by
  rw [show (47 :: l) = [47] ++ l from rfl, ← strL_append, ByteArray.append_assoc]
  rfl

theorem len60 (s : ByteArray) : decide ((s.size : Int) ≤ 60) = decide (s.size ≤ 60) := decide_eq_decide.2 (by omega)

set_option maxHeartbeats 1000000 in
theorem pathOn_any (p nm : ByteArray) (w : World) (hp : p.size ≤ 2 ^ 20) (hn : nm.size ≤ 2 ^ 24) (hm : ML w) :
    Calls Tryd.prog 56 #[.string p, .string nm] w fun e w' => ((plainB nm = true ∧ e = .returned (.tuple #[.string (p ++ strL (47 :: pesc nm.data.toList)), .bool (decide ((p ++ strL (47 :: pesc nm.data.toList)).size ≤ 60))])) ∨ (plainB nm = false ∧ e = .returned (.tuple #[.string ⟨#[]⟩, .bool false]))) ∧ Below w.heap.size w w' := by
  have HML : Hid (ML w) := hm
  have HE : Hid ((pesc nm.data.toList).length ≤ 2 ^ 25) := by
    have h1 := pesc_length nm.data.toList
    have h2 : nm.data.toList.length = nm.size := Array.length_toList
    show _ ≤ _
    omega
  clear hm
  cases hpl : plainB nm with
  | false =>
    go_enter Tryd.func56, Tryd.ntmps56
    go_wp2_with fail
    refine (isPlain_any nm _ (by omega)).mono ?_
    rintro e w0 ⟨rfl, hw0⟩
    have hw := hw0.symm
    subst hw
    clear hw0
    rw [hpl]
    go_wp2
    exact bodyPost_ret (v := .tuple #[.string ⟨#[]⟩, .bool false]) (by simp [results, Tryd.results56, go_sem]) rfl ⟨.inr ⟨by simp, rfl⟩, Below.refl _ _⟩
  | true =>
    go_enter Tryd.func56, Tryd.ntmps56
    go_wp2_with fail
    refine (isPlain_any nm _ (by omega)).mono ?_
    rintro e w0 ⟨rfl, hw0⟩
    have hw := hw0.symm
    subst hw
    clear hw0
    rw [hpl]
    go_wp2_with fail
    refine (writeName_any nm _ hn HML.out).mono ?_
    rintro e w1 ⟨rfl, hb1⟩
    have HB1 : Hid (Below w.heap.size w w1) := hb1
    have hsz : (strL (pesc nm.data.toList)).size ≤ 2 ^ 25 := by rw [strL_size]; exact HE.out
    clear hb1
    go_wp2
    exact bodyPost_ret (v := .tuple #[.string (p ++ ⟨#[47]⟩ ++ strL (pesc nm.data.toList)), .bool (decide (((p ++ ⟨#[47]⟩ ++ strL (pesc nm.data.toList)).size : Int) ≤ 60))]) (by simp [results, Tryd.results56, go_sem]) rfl ⟨.inl ⟨by simp, by rw [on_path, len60]⟩, HB1.out⟩

set_option maxRecDepth 100000 in
set_option maxHeartbeats 1000000 in
theorem implPathText_any (a : Option Addr) (c n : Nat) (f : Nat → ByteArray) (w : World) (h : ArgS w a n f) (hsm : SmallS n f) (hm : ML w) :
    Calls Tryd.prog 29 #[.slice a n c] w (TxIs f n w) := by
  have H : Hid (ArgS w a n f) := h
  have HSM : Hid (SmallS n f) := hsm
  have HML : Hid (ML w) := hm
  have n20 : n ≤ 2 ^ 20 := hsm.1
  clear h hsm hm
  go_enter Tryd.func29, Tryd.ntmps29
  go_wp2_with fail
  go_loopw [4, 11] (fun o i wr => ∃ (k : Nat) (s : ByteArray), k ≤ n ∧ i = .int .i64 k ∧ o = .string s ∧ s.size ≤ 60 ∧ Hid (s = strL (pathL (lst f k)) ∧ ∀ j, j < k → plainB (f j) = true) ∧ Below w.heap.size w wr) (fun _ i _ => n - (intOf i).toNat)
  case atStart => exact ⟨0, _, Nat.zero_le _, rfl, rfl, by decide, ⟨rfl, fun j hj => by omega⟩, Below.refl _ _⟩
  case round =>
    obtain ⟨k, s, hk, rfl, rfl, hs, HP, hnx⟩ := hrel
    by_cases hlt : k < n
    · rcases H.out with h0 | ⟨b, off, rfl, hb, hat⟩
      · omega
      have a0 := (hnx.cell hb).trans (hat k hlt)
      have i0 : (0 : Int) ≤ (k : Int) := by omega
      have i1 : (k : Int) < (n : Int) := by omega
      have t0 := HSM.out.2 k hlt
      clear hat
      go_wp2_with fail
      refine (pathOn_any s (f k) _ (by omega) (by omega) (HML.out.below hnx)).mono ?_
      rintro e w1 ⟨ho, hb1⟩
      have HB : Hid (Below w.heap.size w w1) := hnx.trans (hb1.mono hnx.size)
      have HNX : Hid (s ++ strL (47 :: pesc (f k).data.toList) = strL (pathL (lst f (k + 1)))) := by
        show _ = _
        rw [HP.out.1, strL_append, pathL_succ]
      clear hb1
      rcases ho with ⟨hpl, rfl⟩ | ⟨hpl, rfl⟩
      · rw [HNX.out]
        have HP' : Hid (∀ j, j < k + 1 → plainB (f j) = true) := fun j hj => by
          by_cases e : j = k
          · subst e; exact hpl
          · exact HP.out.2 j (by omega)
        by_cases h60 : (strL (pathL (lst f (k + 1)))).size ≤ 60
        · rw [decide_eq_true h60]
          go_wp2
          go_roundw
          case rel => exact ⟨k + 1, _, by omega, by go_num, rfl, h60, ⟨rfl, HP'.out⟩, HB.out⟩
          case measure => simp [intOf]; omega
        · rw [decide_eq_false h60]
          have HN : Hid (¬ GoodP f n) := fun g => by
            have := pathL_mono f (show k + 1 ≤ n by omega)
            have := g.2
            rw [strL_size] at h60
            omega
          go_wp2
          exact bodyPost_ret (v := .tuple #[.string ⟨#[]⟩, .bool false]) (by simp [results, Tryd.results29, go_sem]) rfl ⟨_, _, rfl, .inr ⟨rfl, HN.out, rfl⟩, HB.out⟩
      · have HN : Hid (¬ GoodP f n) := fun g => by
          have := g.1 k hlt
          rw [hpl] at this
          simp at this
        go_wp2
        exact bodyPost_ret (v := .tuple #[.string ⟨#[]⟩, .bool false]) (by simp [results, Tryd.results29, go_sem]) rfl ⟨_, _, rfl, .inr ⟨rfl, HN.out, rfl⟩, HB.out⟩
    · obtain rfl : k = n := by omega
      have HG : Hid (GoodP f k) := ⟨HP.out.2, by have := HP.out.1; subst this; rwa [strL_size] at hs⟩
      have HS : Hid (s = strL (pathL (lst f k))) := HP.out.1
      go_wp2
      exact bodyPost_ret (v := .tuple #[.string s, .bool true]) (by simp [results, Tryd.results29, go_sem]) rfl ⟨_, _, rfl, .inl ⟨rfl, HG.out, HS.out⟩, hnx⟩

set_option maxRecDepth 100000 in
set_option maxHeartbeats 1000000 in
theorem specPathText_any (a : Option Addr) (c n : Nat) (f : Nat → ByteArray) (w : World) (h : ArgS w a n f) (hsm : SmallS n f) :
    Calls Tryd.prog 27 #[.slice a n c] w (TxIs f n w) := by
  have H : Hid (ArgS w a n f) := h
  have HSM : Hid (SmallS n f) := hsm
  have n20 : n ≤ 2 ^ 20 := hsm.1
  clear h hsm
  go_enter Tryd.func27, Tryd.ntmps27
  go_wp2_with fail
  go_loopw [9] (fun i wr => ∃ k : Nat, k ≤ n ∧ i = .int .i64 k ∧ Hid (∀ j, j < k → plainB (f j) = true) ∧ Below w.heap.size w wr) (fun i _ => n - (intOf i).toNat)
  case atStart => exact ⟨0, Nat.zero_le _, rfl, fun j hj => by omega, Below.refl _ _⟩
  case round =>
    obtain ⟨k, hk, rfl, HP, hnx⟩ := hrel
    by_cases hlt : k < n
    · rcases H.out with h0 | ⟨b, off, rfl, hb, hat⟩
      · omega
      have a0 := (hnx.cell hb).trans (hat k hlt)
      have i0 : (0 : Int) ≤ (k : Int) := by omega
      have i1 : (k : Int) < (n : Int) := by omega
      have t0 := HSM.out.2 k hlt
      clear hat
      go_wp2_with fail
      refine (l1Printed_any (f k) _ (by omega)).mono ?_
      rintro e w1 ⟨rfl, rfl⟩
      cases hpl : plainB (f k) with
      | false =>
        have HN : Hid (¬ GoodP f n) := fun g => by
          have := g.1 k hlt
          rw [hpl] at this
          simp at this
        go_wp2
        exact bodyPost_ret (v := .tuple #[.string ⟨#[]⟩, .bool false]) (by simp [results, Tryd.results27, go_sem]) rfl ⟨_, _, rfl, .inr ⟨rfl, HN.out, rfl⟩, hnx⟩
      | true =>
        have HP' : Hid (∀ j, j < k + 1 → plainB (f j) = true) := fun j hj => by
          by_cases e : j = k
          · subst e; exact hpl
          · exact HP.out j (by omega)
        go_wp2
        go_roundw
        case rel => exact ⟨k + 1, by omega, by go_num, HP', hnx⟩
        case measure => simp [intOf]; omega
    · obtain rfl : k = n := by omega
      have HSZ : Hid (∀ i, i < k → (f i).size ≤ 2 ^ 20) := HSM.out.2
      go_wp2_with fail
      refine (l3Text_any a c k f _ n20 (H.out.below hnx) HSZ.out).mono ?_
      rintro e w1 ⟨rfl, hb1⟩
      have HB : Hid (Below w.heap.size w w1) := hnx.trans (hb1.mono hnx.size)
      clear hb1
      by_cases h60 : (strL (pathL (lst f k))).size ≤ 60
      · have HG : Hid (GoodP f k) := ⟨HP.out, by rwa [strL_size] at h60⟩
        go_wp2
        exact bodyPost_ret (v := .tuple #[.string (strL (pathL (lst f k))), .bool true]) (by simp [results, Tryd.results27, go_sem]) rfl ⟨_, _, rfl, .inl ⟨rfl, HG.out, rfl⟩, HB.out⟩
      · have HN : Hid (¬ GoodP f k) := fun g => by
          have := g.2
          rw [strL_size] at h60
          omega
        have h60' : 60 < (strL (pathL (lst f k))).size := by omega
        go_wp2
        exact bodyPost_ret (v := .tuple #[.string ⟨#[]⟩, .bool false]) (by simp [results, Tryd.results27, go_sem]) rfl ⟨_, _, rfl, .inr ⟨rfl, HN.out, rfl⟩, HB.out⟩

end Go.Proofs.YthgjelbhhdomdaaDoor
