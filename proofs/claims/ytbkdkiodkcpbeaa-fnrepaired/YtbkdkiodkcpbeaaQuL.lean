/- WeightIn: both sides. No condition but that rows fit in memory. -/
import Derived.Test.YtbkdkiodkcpbeaaQuK
namespace Go.Proofs.Ytbkdkiodkcpbeaa
open Go.RowKit
set_option linter.unusedVariables false

theorem wS_bd {l : List DCopy} {s : List Int} {n : Nat} (hok : okTil l n = true) (hs : someTil s n s.length = true) : ∀ {m : Nat}, m ≤ s.length → 0 ≤ wS l s m ∧ wS l s m ≤ 10 * (n : Int) := fun {m} hm => by
  rw [wS_ws hs hm]
  exact ws_bd hok
set_option maxRecDepth 100000 in
set_option maxHeartbeats 2000000 in
theorem weight14_k (l : List DCopy) (a : Option Addr) (n c : Nat) (S : Nat → Prop) (r t : Int) (s : List Int) (a1 : Option Addr) (n1 c1 : Nat) (S1 : Nat → Prop) (w : World) (h : (kRow kCopy).is false w S [.slice a n c] l) (h1 : (kRow kInt).is false w S1 [.slice a1 n1 c1] s) (h7 : n ≤ 7) (hok : okTil l n = true) (hs : someOk s n = true) :
    Calls Try.prog 49 #[.agg #[.slice a n c, .int .i64 r, .int .i64 t], .slice a1 n1 c1] w fun e w' => e = .returned (.int .i64 (wS l s n1)) ∧ Below w.heap.size w w' := by
  have HNL : Hid (n = l.length) := row_len h
  have HN1 : Hid (n1 = s.length) := row_len h1
  have hmx := row_max h1
  have H : Hid ((kRow kCopy).is false w S [.slice a n c] l) := h
  have H1 : Hid ((kRow kInt).is false w S1 [.slice a1 n1 c1] s) := h1
  have HK : Hid (okTil l n = true) := hok
  have HS : Hid (someTil s n s.length = true) := hs
  clear h h1 hok hs
  go_enter Try.func49, Try.ntmps49
  go_wp2_with fail
  obtain ⟨W0, hW0⟩ : ∃ W, W = w.alloc (.cells #[.slice a n c, .int .i64 r, .int .i64 t] 25) := ⟨_, rfl⟩
  have C0 : W0.cell? ⟨w.heap.size, 0, none⟩ = some (.slice a n c) := by rw [hW0]; simp [go_sem]
  have HB0 : Hid (Below w.heap.size w W0) := by show Below _ _ _; rw [hW0]; exact below_a1q _ _
  rw [← hW0]
  clear hW0
  go_loopw [5, 10] (fun v iv wr => ∃ j : Nat, j ≤ n1 ∧ iv = .int .i64 j ∧ v = .int .i64 (wS l s j) ∧ wr = W0) (fun _ iv _ => n1 - (intOf iv).toNat)
  case atStart => exact ⟨0, Nat.zero_le _, rfl, rfl, rfl⟩
  case round =>
    obtain ⟨j, hj, rfl, rfl, rfl⟩ := hrel
    obtain ⟨z0, z1⟩ := wS_bd HK.out HS.out (m := j) (by rw [← HN1.out]; exact hj)
    by_cases hlt : j < n1
    · obtain ⟨b1, o1, rfl, hb1, A0, _⟩ := rowN_at (Kd.below H1.out HB0.out) hlt
      obtain ⟨e1, hkn⟩ := some_nat HS.out (show j < s.length by rw [← HN1.out]; exact hlt)
      have HW : Hid (wS l s (j + 1) = wS l s j + (cp l (nat s j)).1) := rfl
      rw [e1] at A0
      clear e1
      generalize wS l s j = z at *
      generalize nat s j = k at *
      obtain ⟨b, o, rfl, hb, j1, j2, j3, B0, B1, B2⟩ := rowC_at (Kd.below H.out HB0.out) hkn
      obtain ⟨q1, q2, _⟩ := cpAt_ok (okTil_at HK.out hkn)
      generalize (cp l k).1 = y at *
      have z2 : z ≤ 70 := by omega
      have i0 : (j : Int) < (n1 : Int) := by omega
      have i1 : (0 : Int) ≤ (j : Int) := by omega
      have i2 : (k : Int) < (n : Int) := by omega
      have i3 : (0 : Int) ≤ (k : Int) := by omega
      clear j1 j2 j3 B1 B2 z1
      go_wp2
      go_roundw
      case rel => exact ⟨j + 1, by omega, by go_num, by rw [HW.out], trivial⟩
      case measure => simp [intOf]; omega
    · obtain rfl : j = n1 := by omega
      have i0 : ¬ (j : Int) < (j : Int) := by omega
      go_wp2
      go_ret
      exact ⟨rfl, HB0.out⟩
set_option maxRecDepth 100000 in
set_option maxHeartbeats 1000000 in
theorem inSome_k (s : List Int) (a1 : Option Addr) (n1 c1 : Nat) (S1 : Nat → Prop) (b : Nat) (k : Nat) (w : World) (h1 : (kRow kInt).is false w S1 [.slice a1 n1 c1] s) (hc : w.cell? ⟨b, 0, none⟩ = some (.slice a1 n1 c1)) :
    Calls Try.prog 62 #[.int .i64 k, .pointer (some ⟨b, 0, none⟩)] w fun e w' => e = .returned (.bool (s.contains (k : Int))) ∧ Below w.heap.size w w' := by
  have hcl := containsI_k s a1 n1 c1 S1 (k : Int) w h1
  clear h1
  obtain ⟨q, hq⟩ : ∃ q, q = s.contains (k : Int) := ⟨_, rfl⟩
  rw [← hq] at hcl ⊢
  clear hq
  go_enter Try.func62, Try.ntmps62
  go_wp2_with fail
  refine hcl.mono ?_
  rintro e w1 ⟨rfl, rfl⟩
  go_wp2
  go_ret
  exact ⟨rfl, Below.refl _ _⟩
/-- What WeightIn answers. -/
def RWeightIn (x0 : DVoting) (x1 : List Int) (w : World) (e : Ending) (w' : World) : Prop := e = .returned (.tuple #[.int .i64 (fWeightIn x0 x1).1, .bool (fWeightIn x0 x1).2]) ∧ IntOk (fWeightIn x0 x1).1 ∧ Below w.heap.size w w'
theorem fWeight_no1 {v : DVoting} {s : List Int} (h : fGoodVoting v = false) : fWeightIn v s = (0, false) := by unfold fWeightIn; rw [if_neg (fun g => by rw [h] at g; cases g.1)]
theorem fWeight_no2 {v : DVoting} {s : List Int} (h : someOk s v.1.length = false) : fWeightIn v s = (0, false) := by unfold fWeightIn; rw [if_neg (fun g => by rw [h] at g; cases g.2)]
theorem fWeight_yes {v : DVoting} {s : List Int} (h : fGoodVoting v = true) (h2 : someOk s v.1.length = true) : fWeightIn v s = (wIn v s, true) := by unfold fWeightIn; rw [if_pos ⟨h, h2⟩]
theorem wIn_bd {v : DVoting} {s : List Int} (h : fGoodVoting v = true) (h2 : someOk s v.1.length = true) : 0 ≤ wIn v s ∧ wIn v s ≤ 70 := by
  have g := (vg_iff v).1 h
  obtain ⟨h3, h4⟩ := wS_bd (l := v.1) g.ok h2 (Nat.le_refl _)
  have := g.hi
  unfold wIn
  omega
theorem zero_ok : IntOk 0 := by unfold IntOk; omega
set_option maxRecDepth 100000 in
set_option maxHeartbeats 2000000 in
theorem weightI_k (l : List DCopy) (a : Option Addr) (n c : Nat) (S : Nat → Prop) (r t : Int) (s : List Int) (a1 : Option Addr) (n1 c1 : Nat) (S1 : Nat → Prop) (w : World) (h : (kRow kCopy).is false w S [.slice a n c] l) (hcap : n ≤ c) (h1 : (kRow kInt).is false w S1 [.slice a1 n1 c1] s) :
    Calls Try.prog 20 #[.agg #[.slice a n c, .int .i64 r, .int .i64 t], .slice a1 n1 c1] w (RWeightIn (l, r, t) s w) := by
  have HNL : Hid (n = l.length) := row_len h
  have H : Hid ((kRow kCopy).is false w S [.slice a n c] l) := h
  have H1 : Hid ((kRow kInt).is false w S1 [.slice a1 n1 c1] s) := h1
  clear h h1
  go_enter Try.func20, Try.ntmps20
  go_wp2_with fail
  obtain ⟨W0, hW0⟩ : ∃ W, W = (w.alloc (.cells #[.slice a n c, .int .i64 r, .int .i64 t] 25)).alloc (.cells #[.slice a1 n1 c1] 26) := ⟨_, rfl⟩
  have C0 : W0.cell? ⟨w.heap.size, 0, none⟩ = some (.slice a n c) ∧ W0.cell? ⟨w.heap.size + 1, 0, none⟩ = some (.slice a1 n1 c1) := by rw [hW0]; simp [go_sem]
  have HB0 : Hid (Below w.heap.size w W0) := by show Below _ _ _; rw [hW0]; exact below_a2q _ _ _
  rw [← hW0]
  clear hW0
  obtain ⟨C0, C1⟩ := C0
  refine (goodV_k l a n c S r t W0 (Kd.below H.out HB0.out) hcap).mono ?_
  rintro e w1 ⟨rfl, hb1⟩
  have D0 : w1.cell? ⟨w.heap.size, 0, none⟩ = some (.slice a n c) := (hb1.cell (World.block_lt_of_cell? _ _ C0)).trans C0
  have D1 : w1.cell? ⟨w.heap.size + 1, 0, none⟩ = some (.slice a1 n1 c1) := (hb1.cell (World.block_lt_of_cell? _ _ C1)).trans C1
  have HB1 : Hid (Below w.heap.size w w1) := HB0.out.trans (hb1.mono HB0.out.size)
  clear hb1 C0 C1 HB0
  cases hg : fGoodVoting (l, r, t) with
  | false =>
    have HF : Hid (fWeightIn (l, r, t) s = (0, false)) := fWeight_no1 hg
    go_wp2
    refine bodyPost_ret (v := .tuple #[.int .i64 0, .bool false]) (by simp [results, Try.results20, go_sem]) rfl ?_
    unfold RWeightIn
    rw [HF.out]
    exact ⟨rfl, zero_ok, HB1.out⟩
  | true =>
    have g := (vg_iff _).1 hg
    have hok : okTil l n = true := by rw [HNL.out]; exact g.ok
    have h7 : n ≤ 7 := by rw [HNL.out]; exact g.hi
    have HK : Hid (okTil l n = true) := hok
    have HR := (risingAhead_k s a1 n1 c1 S1 n w1 (Kd.below H1.out HB1.out))
    clear g hok
    cases hs : someOk s n with
    | false =>
      have HF : Hid (fWeightIn (l, r, t) s = (0, false)) := fWeight_no2 (by rw [← hs, HNL.out])
      rw [hs] at HR
      go_wp2_with fail
      refine HR.mono ?_
      rintro e w2 ⟨rfl, rfl⟩
      go_wp2
      refine bodyPost_ret (v := .tuple #[.int .i64 0, .bool false]) (by simp [results, Try.results20, go_sem]) rfl ?_
      unfold RWeightIn
      rw [HF.out]
      exact ⟨rfl, zero_ok, HB1.out⟩
    | true =>
      have hs2 : someOk s l.length = true := by rw [← hs, HNL.out]
      have HF : Hid (fWeightIn (l, r, t) s = (wIn (l, r, t) s, true)) := fWeight_yes hg hs2
      have HWS : Hid (wIn (l, r, t) s = ws (fun k => s.contains (k : Int)) l n) := by show _ = _; rw [wIn_ws (v := (l, r, t)) hs2, HNL.out]
      have HBD : Hid (0 ≤ wIn (l, r, t) s ∧ wIn (l, r, t) s ≤ 70) := wIn_bd hg hs2
      rw [hs] at HR
      go_wp2_with fail
      refine HR.mono ?_
      rintro e w2 ⟨rfl, e2⟩
      rw [e2]
      clear e2 HR hg hs hs2
      go_wp2_with fail
      refine (weigh_k l a n c S 62 #[.pointer (some ⟨w.heap.size + 1, 0, none⟩)] (fun k => s.contains (k : Int)) w1 (fun _ _ => rfl) (Kd.below H.out HB1.out) HK.out h7 (fun W k hb hk => inSome_k s a1 n1 c1 S1 (w.heap.size + 1) k W (Kd.below (Kd.below H1.out HB1.out) hb) ((hb.cell (World.block_lt_of_cell? _ _ D1)).trans D1))).mono ?_
      rintro e w3 ⟨rfl, hb3⟩
      have HB3 : Hid (Below w.heap.size w w3) := HB1.out.trans (hb3.mono HB1.out.size)
      rw [← HWS.out]
      generalize wIn (l, r, t) s = z at *
      go_wp2
      refine bodyPost_ret (v := .tuple #[.int .i64 z, .bool true]) (by simp [results, Try.results20, go_sem]) rfl ?_
      unfold RWeightIn
      rw [HF.out]
      exact ⟨rfl, by have := HBD.out; unfold IntOk; omega, HB3.out⟩
set_option maxRecDepth 100000 in
set_option maxHeartbeats 2000000 in
theorem weightSp_k (l : List DCopy) (a : Option Addr) (n c : Nat) (S : Nat → Prop) (r t : Int) (s : List Int) (a1 : Option Addr) (n1 c1 : Nat) (S1 : Nat → Prop) (w : World) (h : (kRow kCopy).is false w S [.slice a n c] l) (hcap : n ≤ c) (h1 : (kRow kInt).is false w S1 [.slice a1 n1 c1] s) :
    Calls Try.prog 39 #[.agg #[.slice a n c, .int .i64 r, .int .i64 t], .slice a1 n1 c1] w (RWeightIn (l, r, t) s w) := by
  have HNL : Hid (n = l.length) := row_len h
  have HN1 : Hid (n1 = s.length) := row_len h1
  have H : Hid ((kRow kCopy).is false w S [.slice a n c] l) := h
  have H1 : Hid ((kRow kInt).is false w S1 [.slice a1 n1 c1] s) := h1
  clear h h1
  go_enter Try.func39, Try.ntmps39
  go_wp2_with fail
  obtain ⟨W0, hW0⟩ : ∃ W, W = w.alloc (.cells #[.slice a n c, .int .i64 r, .int .i64 t] 25) := ⟨_, rfl⟩
  have C0 : W0.cell? ⟨w.heap.size, 0, none⟩ = some (.slice a n c) ∧ W0.cell? ⟨w.heap.size, 1, none⟩ = some (.int .i64 r) ∧ W0.cell? ⟨w.heap.size, 2, none⟩ = some (.int .i64 t) := by rw [hW0]; simp [go_sem]
  have HB0 : Hid (Below w.heap.size w W0) := by show Below _ _ _; rw [hW0]; exact below_a1q _ _
  rw [← hW0]
  clear hW0
  obtain ⟨C0, C1, C2⟩ := C0
  refine (goodS_k l a n c S r t W0 (Kd.below H.out HB0.out) hcap).mono ?_
  rintro e w1 ⟨rfl, hb1⟩
  have D0 : w1.cell? ⟨w.heap.size, 0, none⟩ = some (.slice a n c) := (hb1.cell (World.block_lt_of_cell? _ _ C0)).trans C0
  have D1 : w1.cell? ⟨w.heap.size, 1, none⟩ = some (.int .i64 r) := (hb1.cell (World.block_lt_of_cell? _ _ C1)).trans C1
  have D2 : w1.cell? ⟨w.heap.size, 2, none⟩ = some (.int .i64 t) := (hb1.cell (World.block_lt_of_cell? _ _ C2)).trans C2
  have HB1 : Hid (Below w.heap.size w w1) := HB0.out.trans (hb1.mono HB0.out.size)
  clear hb1 C0 C1 C2 HB0
  cases hg : fGoodVoting (l, r, t) with
  | false =>
    have HF : Hid (fWeightIn (l, r, t) s = (0, false)) := fWeight_no1 hg
    go_wp2
    refine bodyPost_ret (v := .tuple #[.int .i64 0, .bool false]) (by simp [results, Try.results39, go_sem]) rfl ?_
    unfold RWeightIn
    rw [HF.out]
    exact ⟨rfl, zero_ok, HB1.out⟩
  | true =>
    have g := (vg_iff _).1 hg
    have hok : okTil l n = true := by rw [HNL.out]; exact g.ok
    have h7 : n ≤ 7 := by rw [HNL.out]; exact g.hi
    have HK : Hid (okTil l n = true) := hok
    have HR := (some14_k s a1 n1 c1 S1 n w1 (Kd.below H1.out HB1.out) (by omega))
    clear g hok
    cases hs : someOk s n with
    | false =>
      have HF : Hid (fWeightIn (l, r, t) s = (0, false)) := fWeight_no2 (by rw [← hs, HNL.out])
      rw [hs] at HR
      go_wp2_with fail
      refine HR.mono ?_
      rintro e w2 ⟨rfl, rfl⟩
      go_wp2
      refine bodyPost_ret (v := .tuple #[.int .i64 0, .bool false]) (by simp [results, Try.results39, go_sem]) rfl ?_
      unfold RWeightIn
      rw [HF.out]
      exact ⟨rfl, zero_ok, HB1.out⟩
    | true =>
      have hs2 : someOk s l.length = true := by rw [← hs, HNL.out]
      have HF : Hid (fWeightIn (l, r, t) s = (wIn (l, r, t) s, true)) := fWeight_yes hg hs2
      have HWS : Hid (wIn (l, r, t) s = wS l s n1) := by show wS l s s.length = _; rw [HN1.out]
      have HBD : Hid (0 ≤ wIn (l, r, t) s ∧ wIn (l, r, t) s ≤ 70) := wIn_bd hg hs2
      have HSO : Hid (someOk s n = true) := hs
      rw [hs] at HR
      go_wp2_with fail
      refine HR.mono ?_
      rintro e w2 ⟨rfl, e2⟩
      rw [e2]
      clear e2 HR hg hs hs2
      go_wp2_with fail
      refine (weight14_k l a n c S r t s a1 n1 c1 S1 w1 (Kd.below H.out HB1.out) (Kd.below H1.out HB1.out) h7 HK.out HSO.out).mono ?_
      rintro e w3 ⟨rfl, hb3⟩
      have HB3 : Hid (Below w.heap.size w w3) := HB1.out.trans (hb3.mono HB1.out.size)
      rw [← HWS.out]
      generalize wIn (l, r, t) s = z at *
      go_wp2
      refine bodyPost_ret (v := .tuple #[.int .i64 z, .bool true]) (by simp [results, Try.results39, go_sem]) rfl ?_
      unfold RWeightIn
      rw [HF.out]
      exact ⟨rfl, by have := HBD.out; unfold IntOk; omega, HB3.out⟩
theorem implWeightIn_k (x0 : DVoting) (C0 : List Value) (S0 : Nat → Prop) (x1 : List Int) (a1 : Option Addr) (n1 c1 : Nat) (S1 : Nat → Prop) (w : World) (h0 : kVoting.is true w S0 C0 x0) (z0 : kVoting.sz x0 ≤ 2 ^ 20) (h1 : (kRow kInt).is true w S1 [.slice a1 n1 c1] x1) (z1 : (kRow kInt).sz x1 ≤ 2 ^ 20) :
    Calls Try.prog 20 #[.agg C0.toArray, .slice a1 n1 c1] w (RWeightIn x0 x1 w) := by
  obtain ⟨a, n, c, T, rfl, hn, hr, _, _, _⟩ := vot_open h0
  obtain ⟨l, r, s⟩ := x0
  exact weightI_k l a n c T r s x1 a1 n1 c1 S1 w ((kRow kCopy).read hr) (row_cap hr) ((kRow kInt).read h1)
theorem specWeightIn_k (x0 : DVoting) (C0 : List Value) (S0 : Nat → Prop) (x1 : List Int) (a1 : Option Addr) (n1 c1 : Nat) (S1 : Nat → Prop) (w : World) (h0 : kVoting.is true w S0 C0 x0) (z0 : kVoting.sz x0 ≤ 2 ^ 20) (h1 : (kRow kInt).is true w S1 [.slice a1 n1 c1] x1) (z1 : (kRow kInt).sz x1 ≤ 2 ^ 20) :
    Calls Try.prog 39 #[.agg C0.toArray, .slice a1 n1 c1] w (RWeightIn x0 x1 w) := by
  obtain ⟨a, n, c, T, rfl, hn, hr, _, _, _⟩ := vot_open h0
  obtain ⟨l, r, s⟩ := x0
  exact weightSp_k l a n c T r s x1 a1 n1 c1 S1 w ((kRow kCopy).read hr) (row_cap hr) ((kRow kInt).read h1)
end Go.Proofs.Ytbkdkiodkcpbeaa
