/- GoodVoting: the program's, what the newest weigh. No condition but that rows fit in memory. -/
import Derived.Test.YtbkdkiodkcpbeaaQuG
namespace Go.Proofs.Ytbkdkiodkcpbeaa
open Go.RowKit
set_option linter.unusedVariables false

set_option maxRecDepth 100000 in
set_option maxHeartbeats 1000000 in
theorem newest1_k (l : List DCopy) (a : Option Addr) (n c : Nat) (S : Nat → Prop) (b1 b2 : Nat) (y : Int) (w : World) (k : Nat) (h : (kRow kCopy).is false w S [.slice a n c] l) (hk : k < n) (h1 : w.cell? ⟨b1, 0, none⟩ = some (.slice a n c)) (h2 : w.cell? ⟨b2, 1, none⟩ = some (.int .i64 y)) :
    Calls Try.prog 82 #[.int .i64 k, .pointer (some ⟨b1, 0, none⟩), .pointer (some ⟨b2, 0, none⟩)] w fun e w' => e = .returned (.bool (decide ((cp l k).2.1 = y))) ∧ Below w.heap.size w w' := by
  obtain ⟨b, o, rfl, hb, j1, j2, j3, A0, A1, A2⟩ := rowC_at h hk
  clear h
  obtain ⟨z, hz⟩ : ∃ z, z = (cp l k).2.1 := ⟨_, rfl⟩
  rw [← hz] at A1 ⊢
  clear hz j1 j2 j3 A0 A2
  have i0 : (0 : Int) ≤ (k : Int) := by omega
  have i1 : (k : Int) < (n : Int) := by omega
  have U1 := fun p => BelowOf.cell A1 p
  have U2 := fun p => BelowOf.cell h1 p
  have U3 := fun p => BelowOf.cell h2 p
  have hne := belowOf_ne w
  by_cases c1 : z = y
  · subst c1
    have HF : Hid (decide (z = z) = true) := decide_eq_true rfl
    go_enter Try.func82, Try.ntmps82
    go_upto_region 1 with fail
    refine region_below (by kernel_rfl) (by kernel_rfl) ?_
    repeat (go_big_quiet_step (fail))
    refine wpQuiet_nil (belowOf_all ?_)
    intro w4 hb4
    go_wp2
    go_ret
    exact ⟨rfl, hb4⟩
  · have c2 : (z == y) = false := by simpa using c1
    have HF : Hid (decide (z = y) = false) := decide_eq_false c1
    go_enter Try.func82, Try.ntmps82
    go_upto_region 1 with fail
    refine region_below (by kernel_rfl) (by kernel_rfl) ?_
    repeat (go_big_quiet_step (fail))
    refine wpQuiet_nil (belowOf_all ?_)
    intro w4 hb4
    go_wp2
    go_ret
    rw [HF.out]
    exact ⟨rfl, hb4⟩
theorem newW_ws (l : List DCopy) {n : Nat} (hn : n = l.length) (h1 : 0 < n) (hok : okTil l n = true) : newW l = ws (fun k => decide ((cp l k).2.1 = (mxc l n).2.1)) l n := by
  unfold newW
  rw [mxc_tp h1 (cpAt_ok (okTil_at hok h1)).2.2.1, ← hn]
set_option maxRecDepth 100000 in
set_option maxHeartbeats 1000000 in
theorem weightOfNewest_k (l : List DCopy) (a : Option Addr) (n c : Nat) (S : Nat → Prop) (w : World) (h : (kRow kCopy).is false w S [.slice a n c] l) (h1 : 0 < n) (h7 : n ≤ 7) (hok : okTil l n = true) :
    Calls Try.prog 54 #[.slice a n c] w fun e w' => e = .returned (.int .i64 (newW l)) ∧ Below w.heap.size w w' := by
  rw [newW_ws l (row_len h) h1 hok]
  have H : Hid ((kRow kCopy).is false w S [.slice a n c] l) := h
  have HK : Hid (okTil l n = true) := hok
  clear h hok
  go_enter Try.func54, Try.ntmps54
  go_wp2_with fail
  obtain ⟨W1, hW1⟩ : ∃ W, W = w.alloc (.cells #[.slice a n c] 23) := ⟨_, rfl⟩
  have HB1 : Hid (Below w.heap.size w W1) := by show Below _ _ _; rw [hW1]; exact below_a1q _ _
  have C1 : W1.cell? ⟨w.heap.size, 0, none⟩ = some (.slice a n c) := by rw [hW1]; simp [go_sem]
  rw [← hW1]
  clear hW1
  refine (maxFunc_k l a n c S W1 (Kd.below H.out HB1.out) h1 h7).mono ?_
  rintro e w2 ⟨rfl, hb2⟩
  have HB2 : Hid (Below w.heap.size w w2) := HB1.out.trans (hb2.mono HB1.out.size)
  have C2 : w2.cell? ⟨w.heap.size, 0, none⟩ = some (.slice a n c) := (hb2.cell (World.block_lt_of_cell? _ _ C1)).trans C1
  clear hb2 C1 HB1
  obtain ⟨m, hm⟩ : ∃ m, m = mxc l n := ⟨_, rfl⟩
  rw [← hm]
  have HM : Hid (mxc l n = m) := hm.symm
  clear hm
  obtain ⟨m1, m2, m3⟩ := m
  have hlt2 := World.block_lt_of_cell? _ _ C2
  go_wp2_with fail
  obtain ⟨W3, hW3⟩ : ∃ W, W = w2.alloc (.cells #[.int .i64 m1, .int .i64 m2, .string m3] 40) := ⟨_, rfl⟩
  have hC := alloc_cp w2 (m1, m2, m3) 40
  have hbW : Below w2.heap.size w2 W3 := by rw [hW3]; exact below_a1q _ _
  simp only at hC
  rw [← hW3] at hC ⊢
  clear hW3
  have D1 : W3.cell? ⟨w.heap.size, 0, none⟩ = some (.slice a n c) := (hbW.cell (World.block_lt_of_cell? _ _ C2)).trans C2
  have HB3 : Hid (Below w.heap.size w W3) := HB2.out.trans (hbW.mono HB2.out.size)
  have D2 := hC.c1
  simp only at D2
  clear hbW hC C2 HB2
  refine (weigh_k l a n c S 82 #[.pointer (some ⟨w.heap.size, 0, none⟩), .pointer (some ⟨w2.heap.size, 0, none⟩)] (fun k => decide ((cp l k).2.1 = m2)) W3 (fun _ _ => rfl) (Kd.below H.out HB3.out) HK.out h7 (fun W k hb hk => newest1_k l a n c S w.heap.size w2.heap.size m2 W k (Kd.below (Kd.below H.out HB3.out) hb) hk ((hb.cell (World.block_lt_of_cell? _ _ D1)).trans D1) ((hb.cell (World.block_lt_of_cell? _ _ D2)).trans D2))).mono ?_
  rintro e w5 ⟨rfl, hb5⟩
  have HB5 : Hid (Below w.heap.size w w5) := HB3.out.trans (hb5.mono HB3.out.size)
  go_wp2
  go_ret
  rw [HM.out]
  exact ⟨rfl, HB5.out⟩
set_option maxRecDepth 100000 in
theorem all1_k (k : Nat) (w : World) : Calls Try.prog 81 #[.int .i64 k] w fun e w' => e = .returned (.bool true) ∧ Below w.heap.size w w' := by
  go_enter Try.func81, Try.ntmps81
  go_wp2
  go_ret
  exact ⟨rfl, Below.refl _ _⟩
set_option maxRecDepth 100000 in
set_option maxHeartbeats 2000000 in
theorem mustMeet_k (l : List DCopy) (a : Option Addr) (n c : Nat) (S : Nat → Prop) (r s : Int) (w : World) (h : (kRow kCopy).is false w S [.slice a n c] l) (h7 : n ≤ 7) (hok : okTil l n = true) :
    Calls Try.prog 53 #[.agg #[.slice a n c, .int .i64 r, .int .i64 s]] w fun e w' => e = .returned (.bool (decide (MeetOk (allW l) r s))) ∧ Below w.heap.size w w' := by
  have hal : ws (fun _ => true) l n = allW l := by unfold allW; rw [← row_len h]
  have H : Hid ((kRow kCopy).is false w S [.slice a n c] l) := h
  obtain ⟨b0, b1⟩ := ws_bd (p := fun _ => true) hok
  have HK : Hid (okTil l n = true) := hok
  rw [hal] at b0 b1
  have HAL : Hid (ws (fun _ => true) l n = allW l) := hal
  clear h hok hal
  have hcl : Hid (∀ W, Below w.heap.size w W → Calls Try.prog 61 #[.slice a n c, .func (.func 81) #[] #[]] W fun e w' => e = .returned (.int .i64 (allW l)) ∧ Below W.heap.size W w') := fun W hb => by
    rw [← HAL.out]
    exact weigh_k l a n c S _ #[] (fun _ => true) W (fun _ _ => rfl) (Kd.below H.out hb) HK.out h7 (fun W k _ _ => all1_k k W)
  clear H HK HAL
  generalize allW l = z at *
  have b2 : z ≤ 70 := by omega
  clear b1
  have fin : ∀ q : Bool, (q = true ↔ MeetOk z r s) → Hid (decide (MeetOk z r s) = q) := fun q h => by
    show _ = _
    rw [Bool.eq_iff_iff, decide_eq_true_eq]
    exact h.symm
  go_enter Try.func53, Try.ntmps53
  go_wp2_with fail
  have C0 : (w.alloc (.cells #[.slice a n c, .int .i64 r, .int .i64 s] 25)).cell? ⟨w.heap.size, 1, none⟩ = some (.int .i64 r) ∧ (w.alloc (.cells #[.slice a n c, .int .i64 r, .int .i64 s] 25)).cell? ⟨w.heap.size, 2, none⟩ = some (.int .i64 s) := by simp [go_sem]
  refine (hcl.out _ (below_a1q _ _)).mono ?_
  rintro e w1 ⟨rfl, hb1⟩
  have C1 : w1.cell? ⟨w.heap.size, 1, none⟩ = some (.int .i64 r) := (hb1.cell (World.block_lt_of_cell? _ _ C0.1)).trans C0.1
  have C2 : w1.cell? ⟨w.heap.size, 2, none⟩ = some (.int .i64 s) := (hb1.cell (World.block_lt_of_cell? _ _ C0.2)).trans C0.2
  have HB1 : Hid (Below w.heap.size w w1) := (below_a1q _ _).trans (hb1.mono (by simp))
  clear hb1 C0 hcl
  obtain ⟨g, hg⟩ : ∃ g, g = w.heap.size := ⟨_, rfl⟩
  rw [← hg] at C1 C2 ⊢
  clear hg
  by_cases c0 : 1 ≤ r
  · by_cases c1 : r ≤ z
    · by_cases c2 : 1 ≤ s
      · by_cases c3 : s ≤ z
        · by_cases c4 : z < r + s
          · by_cases c5 : z < 2 * s
            · have HF := fin true (⟨fun _ => ⟨c0, c1, c2, c3, c4, c5⟩, fun _ => rfl⟩)
              go_wp2
              go_ret
              rw [HF.out]
              exact ⟨rfl, HB1.out⟩
            · have HF := fin false (⟨(fun h => by cases h), fun h => absurd h.2.2.2.2.2 c5⟩)
              have c6 : ¬ z < 2 * s := c5
              go_wp2
              go_ret
              rw [HF.out]
              refine ⟨?_, HB1.out⟩
              show Ending.returned (.bool (decide (z < 2 * s))) = _
              rw [decide_eq_false (show ¬ z < 2 * s by omega)]
          · have HF := fin false (⟨(fun h => by cases h), fun h => absurd h.2.2.2.2.1 c4⟩)
            go_wp2
            go_ret
            rw [HF.out]
            exact ⟨rfl, HB1.out⟩
        · have HF := fin false (⟨(fun h => by cases h), fun h => absurd h.2.2.2.1 c3⟩)
          go_wp2
          go_ret
          rw [HF.out]
          exact ⟨rfl, HB1.out⟩
      · have HF := fin false (⟨(fun h => by cases h), fun h => absurd h.2.2.1 c2⟩)
        go_wp2
        go_ret
        rw [HF.out]
        exact ⟨rfl, HB1.out⟩
    · have HF := fin false (⟨(fun h => by cases h), fun h => absurd h.2.1 c1⟩)
      go_wp2
      go_ret
      rw [HF.out]
      exact ⟨rfl, HB1.out⟩
  · have HF := fin false (⟨(fun h => by cases h), fun h => absurd h.1 c0⟩)
    go_wp2
    go_ret
    rw [HF.out]
    exact ⟨rfl, HB1.out⟩
/-- What GoodVoting answers. -/
def RGoodVoting (x0 : DVoting) (w : World) (e : Ending) (w' : World) : Prop := e = .returned (.bool (fGoodVoting x0)) ∧ Below w.heap.size w w'
/-- A voting in memory, its parts. -/
theorem vot_open {o : Bool} {w : World} {S : Nat → Prop} {C : List Value} {v : DVoting} (h : kVoting.is o w S C v) : ∃ (a : Option Addr) (n c : Nat) (T : Nat → Prop), C = [.slice a n c, .int .i64 v.2.1, .int .i64 v.2.2] ∧ n = v.1.length ∧ (kRow kCopy).is o w T [.slice a n c] v.1 ∧ (∀ k, T k → S k) ∧ IntOk v.2.1 ∧ IntOk v.2.2 := by
  obtain ⟨l, r, s⟩ := v
  obtain ⟨a, c, T, hC, h1, h2, h3, h4, h5⟩ := kVoting_open h
  exact ⟨a, l.length, c, T, hC, rfl, h4, h5, h1, h2⟩
set_option maxRecDepth 100000 in
set_option maxHeartbeats 2000000 in
theorem goodV_k (l : List DCopy) (a : Option Addr) (n c : Nat) (S : Nat → Prop) (r s : Int) (w : World) (h : (kRow kCopy).is false w S [.slice a n c] l) (hcap : n ≤ c) :
    Calls Try.prog 17 #[.agg #[.slice a n c, .int .i64 r, .int .i64 s]] w (RGoodVoting (l, r, s) w) := by
  have HNL : Hid (n = l.length) := row_len h
  have HFG : Hid (fGoodVoting (l, r, s) = (arC l n && (decide (MeetOk (allW l) r s) && decide (s ≤ newW l)))) := by
    show fGoodVoting (l, r, s) = _
    unfold fGoodVoting arC
    rw [HNL.out, Bool.and_assoc]
  have H : Hid ((kRow kCopy).is false w S [.slice a n c] l) := h
  clear h
  have fin : ∀ q : Bool, (arC l n && (decide (MeetOk (allW l) r s) && decide (s ≤ newW l))) = q → Hid (fGoodVoting (l, r, s) = q) := fun q h => by show _ = _; rw [HFG.out, h]
  clear HFG
  go_enter Try.func17, Try.ntmps17
  go_upto_region 1 with fail
  obtain ⟨W1, hW1⟩ : ∃ W, W = w.alloc (.cells #[.slice a n c, .int .i64 r, .int .i64 s] 25) := ⟨_, rfl⟩
  have C : W1.cell? ⟨w.heap.size, 0, none⟩ = some (.slice a n c) ∧ W1.cell? ⟨w.heap.size, 1, none⟩ = some (.int .i64 r) ∧ W1.cell? ⟨w.heap.size, 2, none⟩ = some (.int .i64 s) := by rw [hW1]; simp [go_sem]
  have HB1 : Hid (Below w.heap.size w W1) := by show Below _ _ _; rw [hW1]; exact below_a1q _ _
  rw [← hW1]
  clear hW1
  obtain ⟨C0, C1, C2⟩ := C
  have U0 := fun p => BelowOf.cell C0 p
  have U1 := fun p => BelowOf.cell C1 p
  have U2 := fun p => BelowOf.cell C2 p
  have hne := belowOf_ne W1
  have HR : Hid (∀ p : BelowOf W1, (kRow kCopy).is false p.v S [.slice a n c] l) := fun p => Kd.below (Kd.below H.out HB1.out) p.h
  have HA : Hid (∀ p : BelowOf W1, Calls Try.prog 52 #[.slice a n c] p.v fun e w' => e = .returned (.bool (arC l n)) ∧ Below p.v.heap.size p.v w') := fun p => areCopies_k l a n c S p.v (HR.out p) hcap
  clear C0 C1 C2
  cases hA : arC l n with
  | false =>
    rw [hA] at fin HA
    have HF := fin false rfl
    refine region_below (by kernel_rfl) (by kernel_rfl) ?_
    repeat (go_big_quiet_step (first | (go_at_call 52; exact BelowOf.calls (HA.out _))))
    refine wpQuiet_nil (belowOf_all ?_)
    intro w4 hb4
    go_wp2
    go_ret
    unfold RGoodVoting
    rw [HF.out]
    exact ⟨rfl, HB1.out.trans (hb4.mono HB1.out.size)⟩
  | true =>
    have hA2 := hA
    unfold arC at hA2
    rw [Bool.and_eq_true, decide_eq_true_eq] at hA2
    obtain ⟨⟨hn1, hn7⟩, hok⟩ := hA2
    rw [hA] at fin HA
    have HM : Hid (∀ p : BelowOf W1, Calls Try.prog 53 #[.agg #[.slice a n c, .int .i64 r, .int .i64 s]] p.v fun e w' => e = .returned (.bool (decide (MeetOk (allW l) r s))) ∧ Below p.v.heap.size p.v w') := fun p => mustMeet_k l a n c S r s p.v (HR.out p) hn7 hok
    have HN : Hid (∀ p : BelowOf W1, Calls Try.prog 54 #[.slice a n c] p.v fun e w' => e = .returned (.int .i64 (newW l)) ∧ Below p.v.heap.size p.v w') := fun p => weightOfNewest_k l a n c S p.v (HR.out p) hn1 hn7 hok
    clear hok hA
    generalize decide (MeetOk (allW l) r s) = q at *
    generalize newW l = z at *
    cases q with
    | false =>
      have HF := fin false rfl
      refine region_below (by kernel_rfl) (by kernel_rfl) ?_
      repeat (go_big_quiet_step (first | (go_at_call 52; exact BelowOf.calls (HA.out _)) | (go_at_call 53; exact BelowOf.calls (HM.out _))))
      refine wpQuiet_nil (belowOf_all ?_)
      intro w4 hb4
      go_wp2
      go_ret
      unfold RGoodVoting
      rw [HF.out]
      exact ⟨rfl, HB1.out.trans (hb4.mono HB1.out.size)⟩
    | true =>
      have HF := fin (decide (s ≤ z)) rfl
      refine region_below (by kernel_rfl) (by kernel_rfl) ?_
      repeat (go_big_quiet_step (first | (go_at_call 52; exact BelowOf.calls (HA.out _)) | (go_at_call 53; exact BelowOf.calls (HM.out _)) | (go_at_call 54; exact BelowOf.calls (HN.out _))))
      refine wpQuiet_nil (belowOf_all ?_)
      intro w4 hb4
      go_wp2
      go_ret
      unfold RGoodVoting
      rw [HF.out]
      exact ⟨rfl, HB1.out.trans (hb4.mono HB1.out.size)⟩
theorem implGoodVoting_k (x0 : DVoting) (C0 : List Value) (S0 : Nat → Prop) (w : World) (h0 : kVoting.is true w S0 C0 x0) (z0 : kVoting.sz x0 ≤ 2 ^ 20) :
    Calls Try.prog 17 #[.agg C0.toArray] w (RGoodVoting x0 w) := by
  obtain ⟨a, n, c, T, rfl, hn, hr, _, _, _⟩ := vot_open h0
  obtain ⟨l, r, s⟩ := x0
  exact goodV_k l a n c T r s w ((kRow kCopy).read hr) (row_cap hr)
end Go.Proofs.Ytbkdkiodkcpbeaa
