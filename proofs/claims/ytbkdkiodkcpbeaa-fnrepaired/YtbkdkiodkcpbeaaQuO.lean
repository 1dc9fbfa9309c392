/- NewestOf, AlwaysMeet: both sides. No condition but that rows fit in memory. -/
import Derived.Test.YtbkdkiodkcpbeaaQuL
namespace Go.Proofs.Ytbkdkiodkcpbeaa
open Go.RowKit
set_option linter.unusedVariables false

/-- NewestOf. -/
def fNewestOf (v : DVoting) : Int × Int × Bool := if fGoodVoting v = true then (tp v.1 v.1.length, newW v.1, true) else (0, 0, false)
/-- What NewestOf answers. -/
def RNewestOf (x0 : DVoting) (w : World) (e : Ending) (w' : World) : Prop := e = .returned (.tuple #[.int .i64 (fNewestOf x0).1, .int .i64 (fNewestOf x0).2.1, .bool (fNewestOf x0).2.2]) ∧ IntOk (fNewestOf x0).1 ∧ IntOk (fNewestOf x0).2.1 ∧ Below w.heap.size w w'
theorem newest_no {v : DVoting} (h : fGoodVoting v = false) : fNewestOf v = (0, 0, false) := by unfold fNewestOf; rw [if_neg (by simp [h])]
theorem newest_yes {v : DVoting} (h : fGoodVoting v = true) : fNewestOf v = (tp v.1 v.1.length, newW v.1, true) := by unfold fNewestOf; rw [if_pos h]
theorem tp_bd {l : List DCopy} {n : Nat} (hok : okTil l n = true) : 0 ≤ tp l n ∧ tp l n ≤ 1000000 := ⟨tp_nn n, tp_le (by omega) fun i hi => (cpAt_ok (okTil_at hok hi)).2.2.2.1⟩
theorem newW_bd {l : List DCopy} (h7 : l.length ≤ 7) (hok : okTil l l.length = true) : 0 ≤ newW l ∧ newW l ≤ 70 := by
  obtain ⟨h1, h2⟩ := ws_bd (p := fun k => decide ((cp l k).2.1 = tp l l.length)) hok
  unfold newW
  omega
set_option maxRecDepth 100000 in
set_option maxHeartbeats 2000000 in
theorem newestSp_k (l : List DCopy) (a : Option Addr) (n c : Nat) (S : Nat → Prop) (r t : Int) (w : World) (h : (kRow kCopy).is false w S [.slice a n c] l) (hcap : n ≤ c) :
    Calls Try.prog 41 #[.agg #[.slice a n c, .int .i64 r, .int .i64 t]] w (RNewestOf (l, r, t) w) := by
  have HNL : Hid (n = l.length) := row_len h
  have H : Hid ((kRow kCopy).is false w S [.slice a n c] l) := h
  clear h
  go_enter Try.func41, Try.ntmps41
  go_wp2_with fail
  obtain ⟨W0, hW0⟩ : ∃ W, W = w.alloc (.cells #[.slice a n c, .int .i64 r, .int .i64 t] 25) := ⟨_, rfl⟩
  have C0 : W0.cell? ⟨w.heap.size, 0, none⟩ = some (.slice a n c) ∧ W0.cell? ⟨w.heap.size, 1, none⟩ = some (.int .i64 r) ∧ W0.cell? ⟨w.heap.size, 2, none⟩ = some (.int .i64 t) := by rw [hW0]; simp [go_sem]
  have HB0 : Hid (Below w.heap.size w W0) := by show Below _ _ _; rw [hW0]; exact below_a1q _ _
  rw [← hW0]
  clear hW0
  obtain ⟨C0, C1, C2⟩ := C0
  refine (goodS_k l a n c S r t W0 (Kd.below H.out HB0.out) hcap).mono ?_
  rintro e w1 ⟨rfl, hb1⟩
  have D0 : w1.cell? ⟨w.heap.size, 0, none⟩ = some (.slice a n c) := (hb1.cell (World.block_lt_of_cell? _ _ C0)).trans C0
  have D1 : w1.cell? ⟨w.heap.size, 1, none⟩ = some (.int .i64 r) := (hb1.cell (World.block_lt_of_cell? _ _ C1)).trans C1
  have D2 : w1.cell? ⟨w.heap.size, 2, none⟩ = some (.int .i64 t) := (hb1.cell (World.block_lt_of_cell? _ _ C2)).trans C2
  have HB1 : Hid (Below w.heap.size w w1) := HB0.out.trans (hb1.mono HB0.out.size)
  clear hb1 C0 C1 C2 HB0
  cases hg : fGoodVoting (l, r, t) with
  | false =>
    have HF : Hid (fNewestOf (l, r, t) = (0, 0, false)) := newest_no hg
    go_wp2
    refine bodyPost_ret (v := .tuple #[.int .i64 0, .int .i64 0, .bool false]) (by simp [results, Try.results41, go_sem]) rfl ?_
    unfold RNewestOf
    rw [HF.out]
    exact ⟨rfl, zero_ok, zero_ok, HB1.out⟩
  | true =>
    have g := (vg_iff _).1 hg
    have hok : okTil l n = true := by rw [HNL.out]; exact g.ok
    have h7 : n ≤ 7 := by rw [HNL.out]; exact g.hi
    have HF : Hid (fNewestOf (l, r, t) = (tp l n, newW l, true)) := by show _ = _; rw [newest_yes hg, HNL.out]
    have b1 := tp_bd hok
    have b2 := newW_bd (l := l) (by rw [← HNL.out]; exact h7) (by rw [← HNL.out]; exact hok)
    have HBD : Hid (IntOk (tp l n) ∧ IntOk (newW l)) := by show _ ∧ _; unfold IntOk; omega
    have hcl := newest14_k l a n c S r t w1 (Kd.below H.out HB1.out) h7 hok
    clear g hok hg b1 b2
    generalize tp l n = y at *
    generalize newW l = z at *
    go_wp2_with fail
    refine hcl.mono ?_
    rintro e w3 ⟨rfl, hb3⟩
    have HB3 : Hid (Below w.heap.size w w3) := HB1.out.trans (hb3.mono HB1.out.size)
    go_wp2
    refine bodyPost_ret (v := .tuple #[.int .i64 y, .int .i64 z, .bool true]) (by simp [results, Try.results41, go_sem]) rfl ?_
    unfold RNewestOf
    rw [HF.out]
    exact ⟨rfl, HBD.out.1, HBD.out.2, HB3.out⟩
set_option maxRecDepth 100000 in
set_option maxHeartbeats 2000000 in
theorem newestI_k (l : List DCopy) (a : Option Addr) (n c : Nat) (S : Nat → Prop) (r t : Int) (w : World) (h : (kRow kCopy).is false w S [.slice a n c] l) (hcap : n ≤ c) :
    Calls Try.prog 19 #[.agg #[.slice a n c, .int .i64 r, .int .i64 t]] w (RNewestOf (l, r, t) w) := by
  have HNL : Hid (n = l.length) := row_len h
  have H : Hid ((kRow kCopy).is false w S [.slice a n c] l) := h
  clear h
  go_enter Try.func19, Try.ntmps19
  go_wp2_with fail
  obtain ⟨W0, hW0⟩ : ∃ W, W = w.alloc (.cells #[.slice a n c, .int .i64 r, .int .i64 t] 25) := ⟨_, rfl⟩
  have C0 : W0.cell? ⟨w.heap.size, 0, none⟩ = some (.slice a n c) ∧ W0.cell? ⟨w.heap.size, 1, none⟩ = some (.int .i64 r) ∧ W0.cell? ⟨w.heap.size, 2, none⟩ = some (.int .i64 t) := by rw [hW0]; simp [go_sem]
  have HB0 : Hid (Below w.heap.size w W0) := by show Below _ _ _; rw [hW0]; exact below_a1q _ _
  rw [← hW0]
  clear hW0
  obtain ⟨C0, C1, C2⟩ := C0
  refine (goodV_k l a n c S r t W0 (Kd.below H.out HB0.out) hcap).mono ?_
  rintro e w1 ⟨rfl, hb1⟩
  have D0 : w1.cell? ⟨w.heap.size, 0, none⟩ = some (.slice a n c) := (hb1.cell (World.block_lt_of_cell? _ _ C0)).trans C0
  have D1 : w1.cell? ⟨w.heap.size, 1, none⟩ = some (.int .i64 r) := (hb1.cell (World.block_lt_of_cell? _ _ C1)).trans C1
  have D2 : w1.cell? ⟨w.heap.size, 2, none⟩ = some (.int .i64 t) := (hb1.cell (World.block_lt_of_cell? _ _ C2)).trans C2
  have HB1 : Hid (Below w.heap.size w w1) := HB0.out.trans (hb1.mono HB0.out.size)
  clear hb1 C0 C1 C2 HB0
  cases hg : fGoodVoting (l, r, t) with
  | false =>
    have HF : Hid (fNewestOf (l, r, t) = (0, 0, false)) := newest_no hg
    go_wp2
    refine bodyPost_ret (v := .tuple #[.int .i64 0, .int .i64 0, .bool false]) (by simp [results, Try.results19, go_sem]) rfl ?_
    unfold RNewestOf
    rw [HF.out]
    exact ⟨rfl, zero_ok, zero_ok, HB1.out⟩
  | true =>
    have g := (vg_iff _).1 hg
    have hok : okTil l n = true := by rw [HNL.out]; exact g.ok
    have h7 : n ≤ 7 := by rw [HNL.out]; exact g.hi
    have h1 : 0 < n := by rw [HNL.out]; exact g.lo
    have HF : Hid (fNewestOf (l, r, t) = (tp l n, newW l, true)) := by show _ = _; rw [newest_yes hg, HNL.out]
    have b1 := tp_bd hok
    have b2 := newW_bd (l := l) (by rw [← HNL.out]; exact h7) (by rw [← HNL.out]; exact hok)
    have HBD : Hid (IntOk (tp l n) ∧ IntOk (newW l)) := by show _ ∧ _; unfold IntOk; omega
    have HMX : Hid ((mxc l n).2.1 = tp l n) := mxc_tp h1 (cpAt_ok (okTil_at hok h1)).2.2.1
    have HR : Hid (∀ p : BelowOf w1, (kRow kCopy).is false p.v S [.slice a n c] l) := fun p => Kd.below (Kd.below H.out HB1.out) p.h
    have HA : Hid (∀ p : BelowOf w1, Calls Try.prog 58 #[.slice a n c, .func (.func 59) #[] #[]] p.v fun e w' => e = .returned (.agg #[.int .i64 (mxc l n).1, .int .i64 (mxc l n).2.1, .string (mxc l n).2.2]) ∧ Below p.v.heap.size p.v w') := fun p => maxFunc_k l a n c S p.v (HR.out p) h1 h7
    have HN : Hid (∀ p : BelowOf w1, Calls Try.prog 54 #[.slice a n c] p.v fun e w' => e = .returned (.int .i64 (newW l)) ∧ Below p.v.heap.size p.v w') := fun p => weightOfNewest_k l a n c S p.v (HR.out p) h1 h7 hok
    clear g hok hg b1 b2
    rw [HMX.out] at HA
    generalize (mxc l n).1 = m1 at *
    generalize (mxc l n).2.2 = m3 at *
    generalize tp l n = y at *
    generalize newW l = z at *
    have U0 := fun p => BelowOf.cell D0 p
    have hne := belowOf_ne w1
    have hfl : ∀ W, (Instr.field 40 (.agg #[.int .i64 m1, .int .i64 y, .string m3]) 1).run Try.prog W = .ok (.int .i64 y) W := fun W => rfl
    clear D0 D1 D2
    go_upto_region 3 with fail
    refine region_below (by kernel_rfl) (by kernel_rfl) ?_
    repeat (go_big_quiet_step (first | (go_at_call 58; exact BelowOf.calls (HA.out _)) | (go_at_call 54; exact BelowOf.calls (HN.out _))))
    refine wpQuiet_nil (belowOf_all ?_)
    intro w3 hb3
    have HB3 : Hid (Below w.heap.size w w3) := HB1.out.trans (hb3.mono HB1.out.size)
    go_wp2
    refine bodyPost_ret (v := .tuple #[.int .i64 y, .int .i64 z, .bool true]) (by simp [results, Try.results19, go_sem]) rfl ?_
    unfold RNewestOf
    rw [HF.out]
    exact ⟨rfl, HBD.out.1, HBD.out.2, HB3.out⟩
theorem implNewestOf_k (x0 : DVoting) (C0 : List Value) (S0 : Nat → Prop) (w : World) (h0 : kVoting.is true w S0 C0 x0) (z0 : kVoting.sz x0 ≤ 2 ^ 20) :
    Calls Try.prog 19 #[.agg C0.toArray] w (RNewestOf x0 w) := by
  obtain ⟨a, n, c, T, rfl, hn, hr, _, _, _⟩ := vot_open h0
  obtain ⟨l, r, s⟩ := x0
  exact newestI_k l a n c T r s w ((kRow kCopy).read hr) (row_cap hr)
theorem specNewestOf_k (x0 : DVoting) (C0 : List Value) (S0 : Nat → Prop) (w : World) (h0 : kVoting.is true w S0 C0 x0) (z0 : kVoting.sz x0 ≤ 2 ^ 20) :
    Calls Try.prog 41 #[.agg C0.toArray] w (RNewestOf x0 w) := by
  obtain ⟨a, n, c, T, rfl, hn, hr, _, _, _⟩ := vot_open h0
  obtain ⟨l, r, s⟩ := x0
  exact newestSp_k l a n c T r s w ((kRow kCopy).read hr) (row_cap hr)
end Go.Proofs.Ytbkdkiodkcpbeaa
