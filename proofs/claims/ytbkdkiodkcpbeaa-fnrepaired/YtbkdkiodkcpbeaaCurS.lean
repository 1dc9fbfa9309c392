/- Choices read from bytes: the specification's cursor. No condition but that it fits in memory. -/
import Derived.Test.YtbkdkiodkcpbeaaKd
import Derived.Test.YtbkdkiodkcpbeaaAp4
import Derived.Test.YtbkdkiodkcpbeaaQb
import Derived.Laws.BitsAllLaws
namespace Go.Proofs.Ytbkdkiodkcpbeaa
open Go.RowKit
set_option linter.unusedVariables false

theorem cell1 {w : World} {b off k : Nat} {v : Value} (h : w.cell? ⟨b, off + k * 1 + 0, none⟩ = some v) : w.cell? ⟨b, off + k, none⟩ = some v := by
  rw [Nat.mul_one, Nat.add_zero] at h
  exact h
def kU8 : Kd Int where
  wd := 1
  is _ _ _ vs d := vs = [.int .u8 d] ∧ 0 ≤ d ∧ d < 256
  sz _ := 0
  cnt _ := 1
  mrk _ k := k
  len h := by rw [h.1]; rfl
  keep h _ _ := h
  read h := h
  tight h _ := h

/-- A cursor in block g, over bytes in blocks of S; at m at most. -/
def CurAt (w : World) (g : Nat) (S : Nat → Prop) (m : Int) : Prop := ∃ (x : List Int) (ca : Option Addr) (cn cc : Nat) (p sd : Int), w.cell? ⟨g, 0, none⟩ = some (.slice ca cn cc) ∧ w.cell? ⟨g, 1, none⟩ = some (.int .i64 p) ∧ w.cell? ⟨g, 2, none⟩ = some (.int .u64 sd) ∧ (∀ o, o < 3 → w.frozen? ⟨g, o, none⟩ = false) ∧ (kRow kU8).is false w S [.slice ca cn cc] x ∧ cn ≤ 9223372036854775807 ∧ (0 ≤ p ∧ p ≤ m) ∧ ¬ S g
theorem CurAt.below {w w' : World} {g : Nat} {S : Nat → Prop} {m : Int} (h : CurAt w g S m) (hb : Below w.heap.size w w') : CurAt w' g S m := by
  obtain ⟨x, ca, cn, cc, p, sd, h0, h1, h2, h3, h4, h5⟩ := h
  have hg := World.block_lt_of_cell? _ _ h0
  exact ⟨x, ca, cn, cc, p, sd, cell_later hb h0, cell_later hb h1, cell_later hb h2, fun o ho => (hb.frozen (p := ⟨g, o, none⟩) hg).trans (h3 o ho), Kd.below h4 hb, h5⟩
theorem CurAt.mono {w : World} {g : Nat} {S : Nat → Prop} {m m' : Int} (h : CurAt w g S m) (hm : m ≤ m') : CurAt w g S m' := by
  obtain ⟨x, ca, cn, cc, p, sd, h0, h1, h2, h3, h4, h5, h6, h7⟩ := h
  exact ⟨x, ca, cn, cc, p, sd, h0, h1, h2, h3, h4, h5, ⟨h6.1, Int.le_trans h6.2 hm⟩, h7⟩
def RNext (w : World) (g : Nat) (S : Nat → Prop) (m n : Int) (e : Ending) (w' : World) : Prop := ∃ b : Int, e = .returned (.int .i64 b) ∧ (0 ≤ b ∧ b < n) ∧ CurAt w' g S m ∧ KeptO (fun k => k = g) w w'
theorem and255 (y : Int) : 0 ≤ bits BinOp.and IntKind.u64 y 255 ∧ bits BinOp.and IntKind.u64 y 255 ≤ 255 := by
  have h1 : bits BinOp.and IntKind.u64 y 255 = IntKind.u64.wrap (((BitVec.ofInt 64 y &&& BitVec.ofInt 64 ((255 : Nat) : Int)).toNat : Nat) : Int) := rfl
  rw [h1, BitVec.toNat_and, ofInt_u64 255 (by omega)]
  have h2 : (BitVec.ofInt 64 y).toNat &&& 255 < 2 ^ 8 := Nat.and_lt_two_pow _ (by omega)
  generalize (BitVec.ofInt 64 y).toNat &&& 255 = r at *
  simp [IntKind.wrap, IntKind.bits, IntKind.signed]
  omega

theorem cur_turn {w w3 : World} {g : Nat} {S : Nat → Prop} {x : List Int} {ca : Option Addr} {cn cc : Nat} {p sd p' s' m' : Int} (hb : Below w.heap.size w w3) (h0 : w3.cell? ⟨g, 0, none⟩ = some (.slice ca cn cc)) (h1 : w3.cell? ⟨g, 1, none⟩ = some (.int .i64 p)) (h2 : w3.cell? ⟨g, 2, none⟩ = some (.int .u64 sd)) (hf : ∀ o, o < 3 → w.frozen? ⟨g, o, none⟩ = false) (hg : g < w.heap.size) (hr : (kRow kU8).is false w S [.slice ca cn cc] x) (hS : ¬ S g) (h5 : cn ≤ 9223372036854775807) (hp : 0 ≤ p' ∧ p' ≤ m') :
    CurAt ((w3.setCell ⟨g, 1, none⟩ (.int .i64 p')).setCell ⟨g, 2, none⟩ (.int .u64 s')) g S m' ∧ KeptO (fun k => k = g) w ((w3.setCell ⟨g, 1, none⟩ (.int .i64 p')).setCell ⟨g, 2, none⟩ (.int .u64 s')) := by
  have hk : KeptO (fun k => k = g) w ((w3.setCell ⟨g, 1, none⟩ (.int .i64 p')).setCell ⟨g, 2, none⟩ (.int .u64 s')) := ⟨hb.os, hb.tape, hb.output, by simpa using hb.size, fun k hk hn => (heap_set_ne hn).trans ((heap_set_ne hn).trans (hb.block k hk))⟩
  refine ⟨⟨x, ca, cn, cc, p', s', set_other (set_other h0 (by decide)) (by decide), set_other (set_same h1) (by decide), set_same (set_other h2 (by decide)), fun o ho => ?_, Kd.kept hr hk (fun k _ h h' => hS (by have e : k = g := h'; rw [← e]; exact h)), h5, hp, hS⟩, hk⟩
  rw [World.frozen?_setCell, World.frozen?_setCell, hb.frozen (p := ⟨g, o, none⟩) hg]
  exact hf o ho

set_option maxRecDepth 100000 in
set_option maxHeartbeats 2000000 in
theorem next_k (w : World) (g : Nat) (S : Nat → Prop) (m : Int) (h : CurAt w g S m) (hm : m ≤ 2 ^ 50) :
    Calls Try.prog 92 #[.pointer (some ⟨g, 0, none⟩)] w (RNext w g S (m + 1) 256) := by
  obtain ⟨x, ca, cn, cc, p, sd, h0, h1, h2, h3, h4, h5, h6, h7⟩ := h
  obtain ⟨p0, p1⟩ := h6
  have f1 := h3 1 (by decide)
  have f2 := h3 2 (by decide)
  have HR : Hid ((kRow kU8).is false w S [.slice ca cn cc] x) := h4
  have HFZ : Hid (∀ o, o < 3 → w.frozen? ⟨g, o, none⟩ = false) := h3
  have HSG : Hid (¬ S g) := h7
  have hcn := row_len h4
  have HCN : Hid (cn = x.length) := hcn
  have hne := belowOf_ne w
  have U0 : ∀ q : BelowOf w, q.v.cell? ⟨g, 0, none⟩ = some (.slice ca cn cc) := BelowOf.cell h0
  have U1 : ∀ q : BelowOf w, q.v.cell? ⟨g, 1, none⟩ = some (.int .i64 p) := BelowOf.cell h1
  clear h3 h4 h7 hcn
  go_enter Try.func92, Try.ntmps92
  go_wp2_with fail
  by_cases hp : p < (cn : Int)
  · obtain ⟨k, rfl⟩ : ∃ k : Nat, p = k := ⟨p.toNat, by omega⟩
    obtain ⟨b, hb⟩ : ∃ b, x[k]? = some b := ⟨_, List.getElem?_eq_getElem (by rw [← HCN.out]; omega)⟩
    obtain ⟨bb, off, B, C, rfl, hbl, _, hi, _, hc⟩ := row_at HR.out hb
    obtain ⟨rfl, b0, b1⟩ := hi
    have A0 : w.cell? ⟨bb, off + k, none⟩ = some (.int .u8 b) := cell1 (hc 0 _ rfl).1
    have kd : decide (k < cn) = true := decide_eq_true (by omega)
    refine region_below (by kernel_rfl) (by kernel_rfl) ?_
    repeat (go_big_quiet_step (fail))
    refine wpQuiet_nil (belowOf_all ?_)
    intro w2 hb2
    have hne2 := belowOf_ne w2
    have V0 : ∀ q : BelowOf w2, q.v.cell? ⟨g, 0, none⟩ = some (.slice (some ⟨bb, off, none⟩) cn cc) := BelowOf.cell (cell_later hb2 h0)
    have V1 : ∀ q : BelowOf w2, q.v.cell? ⟨g, 1, none⟩ = some (.int .i64 k) := BelowOf.cell (cell_later hb2 h1)
    have V2 : ∀ q : BelowOf w2, q.v.cell? ⟨bb, off + k, none⟩ = some (.int .u8 b) := BelowOf.cell (cell_later hb2 A0)
    have k0 : (0 : Int) ≤ (k : Int) := by omega
    have k1 : (k : Int) < (cn : Int) := by omega
    go_wp2_with fail
    refine region_below (by kernel_rfl) (by kernel_rfl) ?_
    repeat (go_big_quiet_step (fail))
    refine wpQuiet_nil (belowOf_all ?_)
    intro w3 hb3
    have hb : Below w.heap.size w w3 := hb2.trans (hb3.mono hb2.size)
    have hgw := World.block_lt_of_cell? _ _ h0
    have G0 := cell_later hb h0
    have G1 := cell_later hb h1
    have G2 := cell_later hb h2
    have G1f : w3.frozen? ⟨g, 1, none⟩ = false := (hb.frozen (p := ⟨g, 1, none⟩) hgw).trans f1
    have G2f : w3.frozen? ⟨g, 2, none⟩ = false := (hb.frozen (p := ⟨g, 2, none⟩) hgw).trans f2
    clear V0 V1 V2 U0 U1 hne hne2 hb2 hb3 hbl hc
    go_wp2_with fail
    generalize IntKind.u64.wrap (IntKind.u64.wrap (IntKind.u64.wrap (sd * 6364136223846793005) + b) + 1442695040888963407) = s2
    obtain ⟨hcur, hkp⟩ := cur_turn (m' := m + 1) (p' := (k : Int) + 1) (s' := s2) hb G0 G1 G2 HFZ.out hgw HR.out HSG.out h5 (by omega)
    obtain ⟨W5, hW5⟩ : ∃ W5, W5 = (w3.setCell ⟨g, 1, none⟩ (.int .i64 ((k : Int) + 1))).setCell ⟨g, 2, none⟩ (.int .u64 s2) := ⟨_, rfl⟩
    have K0 : W5.cell? ⟨g, 0, none⟩ = some (.slice (some ⟨bb, off, none⟩) cn cc) := by rw [hW5]; exact set_other (set_other G0 (by decide)) (by decide)
    have K1 : W5.cell? ⟨g, 1, none⟩ = some (.int .i64 ((k : Int) + 1)) := by rw [hW5]; exact set_other (set_same G1) (by decide)
    have K2 : W5.cell? ⟨g, 2, none⟩ = some (.int .u64 s2) := by rw [hW5]; exact set_same (set_other G2 (by decide))
    rw [← hW5] at hcur hkp ⊢
    have HCU : Hid (CurAt W5 g S (m + 1)) := hcur
    have HKP : Hid (KeptO (fun k => k = g) w W5) := hkp
    have hne5 := belowOf_ne W5
    have T0 : ∀ q : BelowOf W5, q.v.cell? ⟨g, 0, none⟩ = some (.slice (some ⟨bb, off, none⟩) cn cc) := BelowOf.cell K0
    have T1 : ∀ q : BelowOf W5, q.v.cell? ⟨g, 1, none⟩ = some (.int .i64 ((k : Int) + 1)) := BelowOf.cell K1
    have le : (k : Int) + 1 ≤ (cn : Int) := by omega
    clear hW5 hcur hkp G0 G1 G2 G1f G2f hb
    refine region_below (by kernel_rfl) (by kernel_rfl) ?_
    repeat (go_big_quiet_step (fail))
    refine wpQuiet_nil (belowOf_all ?_)
    intro w6 hb6
    have HC6 : Hid (CurAt w6 g S (m + 1)) := HCU.out.below hb6
    have HK6 : Hid (KeptO (fun k => k = g) w w6) := HKP.out.trans (KeptO.of hb6)
    have K26 := cell_later hb6 K2
    clear hb6 T0 T1 hne5
    go_wp2
    go_ret
    exact ⟨b, rfl, ⟨b0, b1⟩, HC6.out, HK6.out⟩
  · have kd : decide (p < (cn : Int)) = false := decide_eq_false hp
    refine region_below (by kernel_rfl) (by kernel_rfl) ?_
    repeat (go_big_quiet_step (fail))
    refine wpQuiet_nil (belowOf_all ?_)
    intro w3 hb
    have hgw := World.block_lt_of_cell? _ _ h0
    have G0 := cell_later hb h0
    have G1 := cell_later hb h1
    have G2 := cell_later hb h2
    have G1f : w3.frozen? ⟨g, 1, none⟩ = false := (hb.frozen (p := ⟨g, 1, none⟩) hgw).trans f1
    have G2f : w3.frozen? ⟨g, 2, none⟩ = false := (hb.frozen (p := ⟨g, 2, none⟩) hgw).trans f2
    clear U0 U1 hne
    go_wp2_with fail
    generalize IntKind.u64.wrap (IntKind.u64.wrap (IntKind.u64.wrap (sd * 6364136223846793005)) + 1442695040888963407) = s2
    obtain ⟨hcur, hkp⟩ := cur_turn (m' := m + 1) (p' := p + 1) (s' := s2) hb G0 G1 G2 HFZ.out hgw HR.out HSG.out h5 (by omega)
    obtain ⟨W5, hW5⟩ : ∃ W5, W5 = (w3.setCell ⟨g, 1, none⟩ (.int .i64 (p + 1))).setCell ⟨g, 2, none⟩ (.int .u64 s2) := ⟨_, rfl⟩
    have K0 : W5.cell? ⟨g, 0, none⟩ = some (.slice ca cn cc) := by rw [hW5]; exact set_other (set_other G0 (by decide)) (by decide)
    have K1 : W5.cell? ⟨g, 1, none⟩ = some (.int .i64 (p + 1)) := by rw [hW5]; exact set_other (set_same G1) (by decide)
    have K2 : W5.cell? ⟨g, 2, none⟩ = some (.int .u64 s2) := by rw [hW5]; exact set_same (set_other G2 (by decide))
    rw [← hW5] at hcur hkp ⊢
    have HCU : Hid (CurAt W5 g S (m + 1)) := hcur
    have HKP : Hid (KeptO (fun k => k = g) w W5) := hkp
    have hne5 := belowOf_ne W5
    have T0 : ∀ q : BelowOf W5, q.v.cell? ⟨g, 0, none⟩ = some (.slice ca cn cc) := BelowOf.cell K0
    have T1 : ∀ q : BelowOf W5, q.v.cell? ⟨g, 1, none⟩ = some (.int .i64 (p + 1)) := BelowOf.cell K1
    have le : decide (p + 1 ≤ (cn : Int)) = false := decide_eq_false (by omega)
    clear hW5 hcur hkp G0 G1 G2 G1f G2f hb
    refine region_below (by kernel_rfl) (by kernel_rfl) ?_
    repeat (go_big_quiet_step (fail))
    refine wpQuiet_nil (belowOf_all ?_)
    intro w6 hb6
    have HC6 : Hid (CurAt w6 g S (m + 1)) := HCU.out.below hb6
    have HK6 : Hid (KeptO (fun k => k = g) w w6) := HKP.out.trans (KeptO.of hb6)
    have K26 := cell_later hb6 K2
    clear hb6 T0 T1 hne5
    go_wp2_with fail
    have h255 := and255 (s2 / 1099511627776)
    generalize bits BinOp.and IntKind.u64 (s2 / 1099511627776) 255 = r at *
    go_ret
    exact ⟨wrap64 r, rfl, by unfold wrap64; omega, HC6.out, HK6.out⟩

set_option maxRecDepth 100000 in
set_option maxHeartbeats 2000000 in
/-- pick(n): some number from 0 to n - 1. -/
theorem pick_k (w : World) (g : Nat) (S : Nat → Prop) (m n : Int) (h : CurAt w g S m) (hm : m ≤ 2 ^ 49) (hn : 1 ≤ n) (hn2 : n ≤ 200) :
    Calls Try.prog 75 #[.pointer (some ⟨g, 0, none⟩), .int .i64 n] w (RNext w g S (m + 1) n) := by
  have H : Hid (CurAt w g S m) := h
  clear h
  by_cases h1 : n ≤ 1
  · obtain rfl : n = 1 := by omega
    go_enter Try.func75, Try.ntmps75
    go_wp2
    go_ret
    exact ⟨0, rfl, by omega, H.out.mono (by omega), KeptO.refl _ _⟩
  · go_enter Try.func75, Try.ntmps75
    go_wp2_with fail
    refine (next_k w g S m H.out (by omega)).mono ?_
    rintro e w1 ⟨b, rfl, ⟨b0, b1⟩, hc, hk⟩
    have HC : Hid (CurAt w1 g S (m + 1)) := hc
    have HK : Hid (KeptO (fun k => k = g) w w1) := hk
    have hn3 : ¬ (200 : Int) < n := by omega
    have hn4 : ¬ n = 0 := by omega
    clear hc hk
    go_wp2
    go_ret
    exact ⟨b % n, rfl, ⟨Int.emod_nonneg _ hn4, Int.emod_lt_of_pos _ (by omega)⟩, HC.out, HK.out⟩

def ROne (w : World) (g : Nat) (S : Nat → Prop) (m : Int) (e : Ending) (w' : World) : Prop := ∃ b : Bool, e = .returned (.bool b) ∧ CurAt w' g S m ∧ KeptO (fun k => k = g) w w'
set_option maxRecDepth 100000 in
set_option maxHeartbeats 1000000 in
theorem one_k (w : World) (g : Nat) (S : Nat → Prop) (m n : Int) (h : CurAt w g S m) (hm : m ≤ 2 ^ 49) (hn : 1 ≤ n) (hn2 : n ≤ 200) :
    Calls Try.prog 76 #[.pointer (some ⟨g, 0, none⟩), .int .i64 n] w (ROne w g S (m + 1)) := by
  have H : Hid (CurAt w g S m) := h
  clear h
  go_enter Try.func76, Try.ntmps76
  go_wp2_with fail
  refine (pick_k w g S m n H.out hm hn hn2).mono ?_
  rintro e w1 ⟨b, rfl, ⟨b0, b1⟩, hc, hk⟩
  have HC : Hid (CurAt w1 g S (m + 1)) := hc
  have HK : Hid (KeptO (fun k => k = g) w w1) := hk
  clear hc hk
  go_wp2
  go_ret
  exact ⟨_, rfl, HC.out, HK.out⟩
def RAmong (w : World) (g : Nat) (S : Nat → Prop) (m : Int) (l : List Int) (e : Ending) (w' : World) : Prop := ∃ y, y ∈ l ∧ e = .returned (.int .i64 y) ∧ CurAt w' g S m ∧ KeptO (fun k => k = g) w w'
set_option maxRecDepth 100000 in
set_option maxHeartbeats 1000000 in
/-- among(list): one of the list. -/
theorem among_k (w : World) (g : Nat) (S : Nat → Prop) (m : Int) (b : Nat) (l : List Int) (h : CurAt w g S m) (hm : m ≤ 2 ^ 49) (hb : b < w.heap.size) (hbg : b ≠ g) (hl : 1 ≤ l.length) (hl2 : l.length ≤ 200) (hc : ∀ j, j < l.length → w.cell? ⟨b, j, none⟩ = some (.int .i64 (l.getD j 0))) :
    Calls Try.prog 87 #[.pointer (some ⟨g, 0, none⟩), .slice (some ⟨b, 0, none⟩) l.length l.length] w (RAmong w g S (m + 1) l) := by
  have H : Hid (CurAt w g S m) := h
  have HC0 : Hid (∀ j, j < l.length → w.cell? ⟨b, j, none⟩ = some (.int .i64 (l.getD j 0))) := hc
  obtain ⟨n, hn⟩ : ∃ n, n = l.length := ⟨_, rfl⟩
  have HN : Hid (n = l.length) := hn
  rw [← hn] at hl hl2 ⊢
  clear h hc hn
  go_enter Try.func87, Try.ntmps87
  go_wp2_with fail
  refine (pick_k w g S m n H.out hm (by omega) (by omega)).mono ?_
  rintro e w1 ⟨x, rfl, ⟨b0, b1⟩, hc, hk⟩
  obtain ⟨j, rfl⟩ : ∃ j : Nat, x = j := ⟨x.toNat, by omega⟩
  have hj : j < n := by omega
  have A0 : w1.cell? ⟨b, j, none⟩ = some (.int .i64 (l.getD j 0)) := cell_keptO hk (HC0.out j (by rw [← HN.out]; exact hj)) hbg
  have HC : Hid (CurAt w1 g S (m + 1)) := hc
  have HK : Hid (KeptO (fun k => k = g) w w1) := hk
  clear hc hk
  have hy : Hid (l.getD j 0 ∈ l) := by
    have hj2 : j < l.length := by rw [← HN.out]; exact hj
    show _ ∈ _
    rw [List.getD_eq_getElem?_getD, List.getElem?_eq_getElem hj2]
    exact List.getElem_mem hj2
  generalize l.getD j 0 = y at *
  go_wp2
  go_ret
  exact ⟨y, hy.out, rfl, HC.out, HK.out⟩
end Go.Proofs.Ytbkdkiodkcpbeaa
