/- The entries of a row of limbs, one by one: the program's iterator entriesIn. -/
import Derived.Test.YtnmbnebofbdmfaaTpW
import Derived.RangeFuncNested
import Derived.RangeFuncBound
import Derived.RangeFuncCalls
import Derived.RangeFuncLeaves
import Derived.RangeFuncBox
import Derived.Shelf.Abstract
import Derived.Shelf.RegionOpen
import Derived.WalkKit
import Derived.OwnWalkIn
import Derived.TacticsInMore
import Derived.LoopNIn
import Derived.LoopIn
namespace Go.Proofs.Ytnmbnebofbdmfaa
open Go.RowKit Go.Shelf
set_option linter.unusedVariables false
attribute [local go_sem] Oper.semAt_some

theorem grow_ofT {W W' : World} (h : Below W.heap.size W W') : W.grownBy W' none := ⟨h.os, h.tape, h.output, h.size, fun k hk _ => h.block k hk⟩

/-- What the iterator hands on: a limb's key and value. -/
def encPr (N : Nat → Lb) (x : Nat) : Array Value := #[.string (N x).key, .string (N x).val]
/-- The pairs of the first m limbs. -/
def prs (m : Nat) (N : Nat → Lb) : List Pr := (List.range m).map (fun i => ((N i).key, (N i).val))
theorem range_pre (k m : Nat) (h : k ≤ m) : List.range k <+: List.range m := by
  induction m with
  | zero => obtain rfl : k = 0 := by omega
            exact List.prefix_rfl
  | succ m ih =>
    rcases Nat.lt_or_ge k (m + 1) with hlt | hge
    · exact (ih (by omega)).trans (by rw [List.range_succ]; exact List.prefix_append _ _)
    · obtain rfl : k = m + 1 := by omega
      exact List.prefix_rfl

set_option maxRecDepth 100000 in
set_option maxHeartbeats 2000000 in
theorem entries1_in (n l Bs n₀ m c : Nat) (a : Option Addr) (N : Nat → Lb) (hn : 1 ≤ n) (hm : m ≤ 60) (J Jx : List Nat → World → Prop)
    (hY : ∀ pre x W1, J pre W1 → pre.length < 60 → YieldAt Fence.wide (n - 1) Try.prog l (encPr N x) W1 fun e W' =>
      (e = .returned (.bool true) ∧ J (pre ++ [x]) W' ∧ Below n₀ W1 W') ∨ (e = .returned (.bool false) ∧ Jx (pre ++ [x]) W'))
    (W : World) (hJ : AbidesFrom W.heap.size J) (hBs : W.cell? ⟨Bs, 0, none⟩ = some (.slice a m c)) (hrow : m = 0 ∨ ∃ g off, a = some ⟨g, off, none⟩ ∧ g < n₀ ∧ LimbsAt W g off m N) (hn0 : n₀ ≤ W.heap.size) (h0 : J [] W) :
    CallsIn Fence.wide n Try.prog 38 #[.func (.yield l) #[] #[], .pointer (some ⟨Bs, 0, none⟩)] W fun e W' => (∃ v, e = .returned v) ∧
      ((∃ ys, ys = List.range m ∧ J ys W') ∨ (∃ pre, pre <+: List.range m ∧ Jx pre W')) := by
  have HROW : Hid (m = 0 ∨ ∃ g off, a = some ⟨g, off, none⟩ ∧ g < n₀ ∧ LimbsAt W g off m N) := hrow
  clear hrow
  refine callsIn_of_wp Try.func38 rfl trivial ?_ rfl
  simp only [Try.ntmps38, List.size_toArray, List.length_cons, List.length_nil, Nat.reduceAdd, Nat.reduceSub, Array.replicate_succ, Array.replicate_zero, List.push_toArray, List.append_toArray, List.nil_append, List.cons_append]
  gi_wp2_with fail
  gi_loopw [7] (fun iv wr => ∃ k : Nat, k ≤ m ∧ iv = .int .i64 (k : Int) ∧ Hid (J (List.range k) wr ∧ Below n₀ W wr)) (fun iv _ => m - (intOf iv).toNat)
  case atStart => exact ⟨0, Nat.zero_le _, rfl, h0, Below.refl _ _⟩
  case round =>
    obtain ⟨k, hk, rfl, HR⟩ := hrel
    by_cases hlt : k < m
    · rcases HROW.out with h0' | ⟨g, off, rfl, hg, hat⟩
      · omega
      obtain ⟨a0, a1, a2, a3⟩ := hat.below HR.out.2 hg k hlt
      have i0 : (0 : Int) ≤ (k : Int) := by omega
      have i1 : (k : Int) < (m : Int) := by omega
      have hz0 := HR.out.2.size
      have hgw : g < wr.heap.size := by omega
      have al : ∀ o, Below wr.heap.size wr (wr.alloc o) := fun o => (Below.refl _ _).alloc (Nat.le_refl _) o
      have HA : Hid (∀ o, J (List.range k) (wr.alloc o) ∧ Below n₀ W (wr.alloc o)) := fun o => ⟨hJ _ _ _ none HR.out.1 (grow_ofT (al o)) (fun r e => by cases e), HR.out.2.trans ((al o).mono (by omega))⟩
      have HP : Hid (List.range (k + 1) = List.range k ++ [k]) := List.range_succ
      clear hat al
      obtain ⟨W1, hW1⟩ : ∃ W1, W1 = wr.alloc (.cells #[.string (N k).key, .string (N k).val, .int .i64 (N k).left, .int .i64 (N k).right] 55) := ⟨_, rfl⟩
      have HJ1 : Hid (J (List.range k) W1 ∧ Below n₀ W W1) := by rw [hW1]; exact HA.out _
      have e0 : W1.cell? ⟨wr.heap.size, 0, none⟩ = some (.string (N k).key) := by rw [hW1]; simp [go_sem]
      have e1 : W1.cell? ⟨wr.heap.size, 1, none⟩ = some (.string (N k).val) := by rw [hW1]; simp [go_sem]
      obtain ⟨fn, tmps, assign, body, hy, hR⟩ := hY (List.range k) k W1 HJ1.out.1 (by rw [List.length_range]; omega)
      have hy' : Sem.run Try.prog (Instr.yield l #[Value.string (N k).key, Value.string (N k).val]) W1 = Result.ok (Next.round l fn tmps assign body) W1 := hy
      clear hY HA hy
      gi_wp2_with fail
      rw [← hW1]
      clear hW1
      rw [hy']
      gi_wp2
      refine hR.mono ?_
      rintro e w3 (⟨rfl, hJ3, hk3⟩ | ⟨rfl, hJx3⟩)
      · have HJ3 : Hid (J (List.range (k + 1)) w3 ∧ Below n₀ W w3) := by rw [HP.out]; exact ⟨hJ3, HJ1.out.2.trans hk3⟩
        clear hJ3 hk3
        gi_wp2
        go_roundw
        case rel => exact ⟨k + 1, by omega, by go_num, HJ3⟩
        case measure => simp [intOf]; omega
      · have HX : Hid (List.range k ++ [k] <+: List.range m) := by rw [← HP.out]; exact range_pre _ _ (by omega)
        gi_wp2
        refine bodyPost_ret (results_none rfl _ _ _) rfl ?_
        exact ⟨⟨_, rfl⟩, .inr ⟨_, HX.out, hJx3⟩⟩
    · obtain rfl : k = m := by omega
      gi_wp2
      go_end0
      exact ⟨⟨_, rfl⟩, .inl ⟨_, rfl, HR.out.1⟩⟩

set_option maxHeartbeats 1000000 in
/-- entriesIn: the row is boxed; the function value captures the box. -/
theorem entriesIn_in (n : Nat) (a : Option Addr) (m c : Nat) (w : World) :
    CallsIn Fence.wide n Try.prog 30 #[.slice a m c] w fun e w' => e = .returned (.func (.func 38) #[] #[.pointer (some ⟨w.heap.size, 0, none⟩)]) ∧ w' = w.alloc (.cells #[.slice a m c] 26) := by
  refine callsIn_of_wp Try.func30 rfl trivial ?_ rfl
  simp only [Try.ntmps30, List.size_toArray, List.length_cons, List.length_nil, Nat.reduceAdd, Nat.reduceSub, Array.replicate_succ, Array.replicate_zero, List.push_toArray, List.append_toArray, List.nil_append, List.cons_append]
  gi_wp2
  go_ret
  exact ⟨rfl, rfl⟩

/-- THE ITERATOR's CONTRACT. -/
theorem entries_stops (n Bs n₀ m c : Nat) (a : Option Addr) (N : Nat → Lb) (hn : 1 ≤ n) (hm : m ≤ 60) (w : World) (hBs : Bs < w.heap.size) (hn0 : n₀ ≤ w.heap.size) (hc : w.cell? ⟨Bs, 0, none⟩ = some (.slice a m c)) (hrow : m = 0 ∨ ∃ g off, a = some ⟨g, off, none⟩ ∧ g < n₀ ∧ LimbsAt w g off m N) :
    SeqStopsK Fence.wide n Try.prog 38 #[.pointer (some ⟨Bs, 0, none⟩)] (encPr N) (Below n₀) (fun ys => ys = List.range m) (fun pre => pre <+: List.range m) 60 w := fun l J Jx W hW hJ _ hY h0 =>
  entries1_in n l Bs n₀ m c a N hn hm J Jx hY W hJ ((hW.cell (p := ⟨Bs, 0, none⟩) hBs).trans hc) (hrow.imp id (fun ⟨g, off, e, hg, hat⟩ => ⟨g, off, e, hg, hat.below hW (by omega)⟩)) (Nat.le_trans hn0 hW.size) h0
end Go.Proofs.Ytnmbnebofbdmfaa
