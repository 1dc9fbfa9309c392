/- An act that came in: weighed, copied, compared. No condition. -/
import Derived.Test.YtjohocnfcnjciaaDoorArgM
namespace Go.Proofs.YtjohocnfcnjciaaDoor
open Go.RowKit
set_option linter.unusedVariables false

set_option maxHeartbeats 1000000 in
theorem szAct_left (k : Int) (p : ByteArray) (va : Option Addr) (n vc : Nat) (N : Nat → Nd) (left : Int) (hl0 : 0 ≤ left) (hl1 : left ≤ 2 ^ 20) (w : World) (hp : p.size ≤ maxLen) (hn : n ≤ maxLen) (hv : ArgIs w va n N) (hz : ∀ i, i < n → (N i).text.size ≤ maxLen ∧ (N i).name.size ≤ maxLen) :
    Calls Tryd.prog 4 #[.agg #[.int .i64 k, .string p, .slice va n vc], .int .i64 left] w fun e w' => ∃ r : Int, e = .returned (.int .i64 r) ∧ (r = -1 ∨ (0 ≤ r ∧ r ≤ 2 ^ 20 ∧ p.size ≤ 2 ^ 20 ∧ SmallN n N)) ∧ Below w.heap.size w w' := by
  have HV : Hid (ArgIs w va n N) := hv
  have HZ : Hid (∀ i, i < n → (N i).text.size ≤ maxLen ∧ (N i).name.size ≤ maxLen) := hz
  have HN : Hid (n ≤ maxLen) := hn
  clear hv hz hn
  unfold maxLen at hp
  by_cases c0 : left - (p.size : Int) < 0
  · go_enter Tryd.func4, Tryd.ntmps4
    go_wp2
    go_ret
    exact ⟨-1, rfl, .inl rfl, by go_grown⟩
  · have HP : Hid (p.size ≤ 2 ^ 20) := by show p.size ≤ 2 ^ 20; omega
    have hl2 : 0 ≤ left - (p.size : Int) := by omega
    have hl3 : left - (p.size : Int) ≤ 2 ^ 20 := by omega
    go_enter Tryd.func4, Tryd.ntmps4
    go_wp2_with fail
    have hbl : ∀ o, Below w.heap.size w (w.alloc o) := fun o => (Below.refl _ _).alloc (Nat.le_refl _) o
    refine (szValue_left va vc n N _ hl2 hl3 _ HN.out (HV.out.below (hbl _)) HZ.out).mono ?_
    rintro e w1 ⟨r, rfl, hr, hb⟩
    have HB : Hid (Below w.heap.size w w1) := (hbl _).trans (hb.mono (by simp))
    clear hb hbl
    rcases hr with rfl | ⟨r0, r20, hs⟩
    · go_wp2
      go_ret
      exact ⟨-1, rfl, .inl rfl, HB.out⟩
    · have HS : Hid (SmallN n N) := hs
      clear hs
      have r1 : ¬ r < 0 := by omega
      go_wp2
      go_ret
      exact ⟨r, rfl, .inr ⟨r0, r20, HP.out, HS.out⟩, HB.out⟩

set_option maxHeartbeats 1000000 in
theorem eqAct_same (k : Int) (p : ByteArray) (va va' : Option Addr) (n vc vc' : Nat) (N : Nat → Nd) (w : World) (hn : n ≤ 2 ^ 40) (hv : ArgIs w va n N) (hv' : ArgIs w va' n N) :
    Calls Tryd.prog 8 #[.agg #[.int .i64 k, .string p, .slice va n vc], .agg #[.int .i64 k, .string p, .slice va' n vc']] w fun e w' => e = .returned (.bool true) ∧ Below w.heap.size w w' := by
  have HV : Hid (ArgIs w va n N) := hv
  have HV' : Hid (ArgIs w va' n N) := hv'
  have HF : Hid (n ≤ 2 ^ 40) := hn
  clear hv hv' hn
  have hbl0 : ∀ o o', Below w.heap.size w ((w.alloc o).alloc o') := fun o o' => ((Below.refl _ _).alloc (Nat.le_refl _) o).alloc (by simp) o'
  go_enter Tryd.func8, Tryd.ntmps8
  go_wp2_with fail
  refine (eqValue_any _ _ n N _ ((HV.out.below (hbl0 _ _)).slice HF.out) ((HV'.out.below (hbl0 _ _)).slice HF.out)).mono ?_
  rintro e w1 ⟨rfl, hb⟩
  have HB : Hid (Below w.heap.size w w1) := (hbl0 _ _).trans (hb.mono (by simp; omega))
  clear hb hbl0
  go_wp2
  go_ret
  exact ⟨rfl, HB.out⟩

/-- What toAct answers: the act, with nodes of its own. -/
def ActTo (k : Int) (p : ByteArray) (n : Nat) (N : Nat → Nd) (w : World) (e : Ending) (w' : World) : Prop := ∃ b a c, e = .returned (.agg #[.int .i64 k, .string p, .slice a n c]) ∧ n ≤ c ∧ (w.heap.size ≤ b ∧ b < w'.heap.size) ∧ OwnAt w' b (.slice a n c) n N ∧ Below w.heap.size w w'

set_option maxHeartbeats 1000000 in
theorem toAct_any (k : Int) (p : ByteArray) (va : Option Addr) (n vc : Nat) (N : Nat → Nd) (w : World) (n20 : n ≤ 2 ^ 20) (hv : ArgIs w va n N) :
    Calls Tryd.prog 6 #[.agg #[.int .i64 k, .string p, .slice va n vc]] w (ActTo k p n N w) := by
  have HV : Hid (ArgIs w va n N) := hv
  clear hv
  go_enter Tryd.func6, Tryd.ntmps6
  go_wp2_with fail
  have hbl : ∀ o o' o'', Below w.heap.size w (((w.alloc o).alloc o').alloc o'') := fun o o' o'' => (((Below.refl _ _).alloc (Nat.le_refl _) o).alloc (by simp) o').alloc (by simp; omega) o''
  refine (toValue_cap va vc n N _ n20 (HV.out.below (hbl _ _ _))).mono ?_
  rintro e w1 ⟨b1, a1, c1, rfl, cc1, l1, m1, ho1, hb1⟩
  have r1 : ∀ i, w1.cell? ⟨w.heap.size + 1, i, none⟩ = #[Value.int .i64 0, .string ⟨#[]⟩, .slice none 0 0][i]? := fun i => by rw [hb1.cell (by simp)]; simp [go_sem]
  have o1 : ∀ i, w1.cell? ⟨w.heap.size + 1 + 1, i, none⟩ = #[Value.int .i64 k, .string p, .slice none 0 0][i]? := fun i => by rw [hb1.cell (by simp)]; simp [go_sem]
  have fr1 : ∀ i, w1.frozen? ⟨w.heap.size + 1, i, none⟩ = false := fun i => by rw [hb1.frozen (by simp)]; simp [go_sem]
  have fo1 : ∀ i, w1.frozen? ⟨w.heap.size + 1 + 1, i, none⟩ = false := fun i => by rw [hb1.frozen (by simp)]; simp [go_sem]
  have z1 := hb1.size
  simp at z1 l1
  have HO1 : Hid (OwnAt w1 b1 (.slice a1 n c1) n N) := ho1
  have HB1 : Hid (Below w.heap.size w w1) := (hbl _ _ _).trans (hb1.mono (by simp; omega))
  have r10 := r1 0
  have r11 := r1 1
  have r12 := r1 2
  have o10 := o1 0
  have o11 := o1 1
  have o12 := o1 2
  have f0 := fr1 0
  have f1 := fr1 1
  have f2 := fr1 2
  have g2 := fo1 2
  simp at r10 r11 r12 o10 o11 o12
  clear ho1 hb1 hbl r1 o1 fr1 fo1
  go_wp2
  refine bodyPost_ret (v := .agg #[.int .i64 k, .string p, .slice a1 n c1]) (by simp [results, Tryd.results6, go_sem, r10, r11, r12]) rfl ⟨b1, a1, c1, rfl, cc1, ⟨by omega, by simp [World.setCell]; omega⟩, ?_, ?_⟩
  · exact (((HO1.out.but (BelowBut.setCell _ _ _) (by omega)).but (BelowBut.setCell _ _ _) (by omega)).but (BelowBut.setCell _ _ _) (by omega)).but (BelowBut.setCell _ _ _) (by omega)
  · exact (((HB1.out.setCell (by show _ ≤ w.heap.size + 1 + 1; omega) _).setCell (by show _ ≤ w.heap.size + 1; omega) _).setCell (by show _ ≤ w.heap.size + 1; omega) _).setCell (by show _ ≤ w.heap.size + 1; omega) _

end Go.Proofs.YtjohocnfcnjciaaDoor
