/- A search through lists: begun, and the best few of what was met. No condition but that they fit in memory. -/
import Derived.Test.YtikgcgfigcolmaaSrD
import Derived.Test.YtikgcgfigcolmaaRpP
namespace Go.Proofs.Ytikgcgfigcolmaa
open Go.RowKit
set_option linter.unusedVariables false

set_option maxRecDepth 100000 in
set_option maxHeartbeats 2000000 in
theorem cloneS_k (l : List DScored) (a : Option Addr) (n c : Nat) (S : Nat → Prop) (w : World) (h : (kRow kScored).is false w S [.slice a n c] l) (hL : l.length ≤ 2 ^ 20) :
    Calls Try.prog 100 #[.slice a n c] w (RScs l w) := by
  have HR : Hid ((kRow kScored).is false w S [.slice a n c] l) := h
  have HI : Hid (∀ x ∈ l, IntOk x.1 ∧ IntOk x.2) := row_ints h
  have HN : Hid (n = l.length) := row_len h
  clear h
  cases a with
  | none =>
    have HL : Hid (l = []) := row_none HR.out
    have hnil : ∀ w : World, (binOp .eql 50 (.slice none n c) (.slice none 0 0)).run Try.prog w = .ok (.bool true) w := fun w => by kernel_rfl
    go_enter Try.func100, Try.ntmps100
    go_wp2
    go_ret
    exact ⟨none, 0, 0, rfl, by rw [HL.out]; exact row_nil _ _ _ _ _ _, Below.refl _ _⟩
  | some ad =>
    have HOE : Hid (OwnL scC 60 2 (w.alloc (.cells #[] 60)) w.heap.size (.slice (some ⟨w.heap.size, 0, none⟩) 0 0) []) := own_empS w w.heap.size (Nat.le_refl _)
    have HR1 : Hid ((kRow kScored).is false (w.alloc (.cells #[] 60)) S [.slice (some ad) n c] l) := Kd.below HR.out (below_a1r _ _)
    have hnil : ∀ w : World, (binOp .eql 50 (.slice (some ad) n c) (.slice none 0 0)).run Try.prog w = .ok (.bool false) w := fun w => by kernel_rfl
    go_enter Try.func100, Try.ntmps100
    go_wp2_with (first | (at_builtin; go_loud (refine app_scs rfl _ _ rfl w.heap.size _ [] rfl HOE.out (some ad) n c S l rfl HR1.out (by simp; omega) (by simp) ?_)))
    intro v3 w3 ho3 hb3 _
    obtain ⟨a3, c3, rfl, _⟩ := ho3.form
    have HO : Hid (OwnL scC 60 2 w3 w.heap.size (.slice a3 l.length c3) l) := ho3
    have HB : Hid (Below w.heap.size w w3) := (below_a1r _ _).trans hb3
    clear ho3 hb3
    go_wp2
    go_ret
    exact ⟨a3, _, c3, rfl, own_scs HO.out (by omega) HI.out, HB.out⟩

set_option maxRecDepth 100000 in
set_option maxHeartbeats 4000000 in
theorem best_k (w : World) (g Bm : Nat) (a : Option Addr) (n c : Nat) (ea : Option Addr) (ec : Nat) (ma : Option Addr) (mc : Nat) (met : List DScored) (d : Nat) (thr : Int) (k : Nat) (hs : SrAt w g Bm a n c ea ec ma mc met d thr) (hm : met.length ≤ 1000) (hmk : ∀ x ∈ met, IntOk x.1 ∧ IntOk x.2) (hk : k ≤ 60) (hB : Bm ≤ w.heap.size) :
    Calls Try.prog 66 #[.pointer (some ⟨g, 0, none⟩), .int .i64 k] w fun e w' => ∃ (a' : Option Addr) (n' c' : Nat), e = .returned (.slice a' n' c') ∧ (kRow kScored).is true w' (fun q => w.heap.size ≤ q) [.slice a' n' c'] ((srtL met).take k) ∧ Below Bm w w' := by
  obtain ⟨m, hmm⟩ : ∃ m, m = met.length := ⟨_, rfl⟩
  have X2 := hs.c2
  have HO : Hid ((kRow kScored).is true w (fun k => Bm ≤ k) [.slice ma m mc] met) := by show (kRow kScored).is _ _ _ _ _; rw [hmm]; exact own_scs hs.own (by omega) hmk
  rw [← hmm] at X2
  have hgB := hs.lt
  have m20 : m ≤ 1000 := by omega
  have hmc : m ≤ mc := by obtain ⟨_, _, e, _, h⟩ := row_form HO.out; simp only [List.cons.injEq, Value.slice.injEq, and_true] at e; have := h rfl; omega
  have HM : Hid (m = met.length) := hmm
  clear hs hm hmk hmm
  go_enter Try.func66, Try.ntmps66
  go_wp2_with fail
  refine (sortSc_k met ma m mc _ _ HO.out (by rw [← HM.out]; omega)).mono ?_
  rintro e w1 ⟨rfl, hr1, hk1⟩
  have HB1 : Hid (Below Bm w w1) := hk1.below hB (fun q hq h => by have h' : Bm ≤ q := h; omega)
  have HR1 : Hid ((kRow kScored).is true w1 (fun q => Bm ≤ q) [.slice ma m mc] (srtL met)) := hr1
  have Y2 : w1.cell? ⟨g, 2, none⟩ = some (.slice ma m mc) := (HB1.out.cell (p := ⟨g, 2, none⟩) hgB).trans X2
  have z1 : w.heap.size ≤ w1.heap.size := hk1.size
  have hgw : g < w1.heap.size := by omega
  clear hr1 hk1 X2
  obtain ⟨p, hp⟩ : ∃ p, p = min k m := ⟨_, rfl⟩
  have hpm : p ≤ m := by omega
  have HTK : Hid ((srtL met).take k = (srtL met).take p) := by
    show _ = _
    have hl : (srtL met).length = m := by rw [(srtL_perm met).length_eq, ← HM.out]
    rw [hp]
    rcases Nat.le_total k m with h | h
    · rw [Nat.min_eq_left h]
    · rw [Nat.min_eq_right h, List.take_of_length_le (by omega), List.take_of_length_le (by omega)]
  have HRP : Hid (∀ W, Below w1.heap.size w1 W → Calls Try.prog 100 #[.slice ma p mc] W (RScs ((srtL met).take p) W)) := fun W hW => cloneS_k _ ma p mc _ W (Kd.below (Kd.read _ (row_take HR1.out hpm)) hW) (by rw [List.length_take]; omega)
  have hmin : min (k : Int) (m : Int) = (p : Int) := by omega
  have p0 : ¬ (p : Int) < 0 := by omega
  have pc : (p : Int) ≤ (mc : Int) := by omega
  have HDR : Hid (Below w1.heap.size w1 w1.drew) := (Below.refl _ _).drew
  clear hp
  go_wp2_with fail
  go_region_with (first | (go_at_call 100; go_fit (HRP.out _ HDR.out); rintro e w2 ⟨a2, n2, c2, rfl, hr2, hb2⟩))
  all_goals
    have HR2 : Hid ((kRow kScored).is true w2 (fun q => w.heap.size ≤ q) [.slice a2 n2 c2] ((srtL met).take p)) := Kd.mono hr2 (fun q hq => Nat.le_trans z1 hq)
    have HB2 : Hid (Below Bm w w2) := HB1.out.trans ((HDR.out.trans hb2).mono (by omega))
    clear hr2 hb2
    go_wp2
    go_ret
    exact ⟨a2, n2, c2, rfl, by rw [HTK.out]; exact HR2.out, HB2.out⟩
end Go.Proofs.Ytikgcgfigcolmaa
