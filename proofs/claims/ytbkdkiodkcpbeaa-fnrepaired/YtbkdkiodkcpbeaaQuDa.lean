/- What chapter 14's laws draw: weights, what a read and a write need, some numbers. No condition but that they fit in memory. -/
import Derived.Test.YtbkdkiodkcpbeaaCuO
import Derived.Test.YtbkdkiodkcpbeaaQuNv
import Derived.Test.YtbkdkiodkcpbeaaQuZ
namespace Go.Proofs.Ytbkdkiodkcpbeaa
open Go.RowKit
set_option linter.unusedVariables false

/-- A number of a row of one's own, written anew. -/
theorem rowN_put {w : World} {S : Nat → Prop} {a : Option Addr} {n c : Nat} {l : List Int} (h : (kRow kInt).is true w S [.slice a n c] l) {k : Nat} (hk : k < n) (y : Int) (hy : IntOk y) :
    ∃ b o v, a = some ⟨b, o, none⟩ ∧ b < w.heap.size ∧ S b ∧ w.cell? ⟨b, o + k, none⟩ = some v ∧ w.frozen? ⟨b, o + k, none⟩ = false ∧ (kRow kInt).is true (w.setCell ⟨b, o + k, none⟩ (.int .i64 y)) S [.slice a n c] (l.set k y) ∧ KeptO S w (w.setCell ⟨b, o + k, none⟩ (.int .i64 y)) := by
  have hl := row_len h
  obtain ⟨b, o, B, C, e, hb, hS, hBb, hi, hBS, hc, hput⟩ := row_put h (getD_at (show k < l.length by omega))
  obtain ⟨rfl, _⟩ := hi
  have c0 := hc 0 _ rfl
  have hwd : kInt.wd = 1 := rfl
  rw [hwd, Nat.mul_one, Nat.add_zero] at c0
  rw [hwd, Nat.mul_one] at hput
  have hon : OnlyO B b (o + k) (o + k + 1) w (w.setCell ⟨b, o + k, none⟩ (.int .i64 y)) := OnlyO.set w _ (Nat.le_refl _) (by omega)
  refine ⟨b, o, _, e, hb, hS, c0.1, c0.2, hput _ y [.int .i64 y] hon ⟨rfl, hy⟩ ?_, ?_⟩
  · intro j v hj
    match j, hj with
    | 0, hj => obtain rfl : Value.int .i64 y = v := by simpa using hj
               exact set_same c0.1
  · exact (hon.to (S' := fun q => q = b ∨ B q) (.inl rfl) (fun q h => .inr h)).mono fun q h => h.elim (fun e => e ▸ hS) (fun h => hBS q h)
/-- Weights. -/
def RWgt (w : World) (g : Nat) (S : Nat → Prop) (m : Int) (e : Ending) (w' : World) : Prop := ∃ (a : Option Addr) (n c : Nat) (T : Nat → Prop) (l : List Int), e = .returned (.slice a n c) ∧ (kRow kInt).is true w' T [.slice a n c] l ∧ (∀ k, T k → w.heap.size ≤ k) ∧ (1 ≤ n ∧ n ≤ 5) ∧ (∀ x ∈ l, 0 ≤ x ∧ x ≤ 11) ∧ CurAt w' g S m ∧ KeptO (fun k => k = g) w w'
set_option maxRecDepth 100000 in
set_option maxHeartbeats 2000000 in
theorem weights_k (w : World) (g : Nat) (S : Nat → Prop) (m : Int) (h : CurAt w g S m) (hm : m ≤ 2 ^ 40) (hg : g < w.heap.size) (hS : ∀ k, S k → k < w.heap.size) :
    Calls Try.prog 67 #[.pointer (some ⟨g, 0, none⟩)] w (RWgt w g S (m + 20)) := by
  have HSL : Hid (∀ k, S k → k < w.heap.size) := hS
  have H : Hid (CurAt w g S m) := h
  clear h hS
  go_enter Try.func67, Try.ntmps67
  go_wp2_with fail
  refine (pick_k w g S m 5 H.out (by omega) (by omega) (by omega)).mono ?_
  rintro e w1 ⟨q, rfl, ⟨hq0, hq1⟩, hc, hk⟩
  have z1 : w.heap.size ≤ w1.heap.size := hk.size
  have HC1 : Hid (CurAt w1 g S (m + 1) ∧ KeptO (fun k => k = g) w w1) := ⟨hc, hk⟩
  obtain ⟨n0, hn0⟩ : ∃ n0 : Nat, (n0 : Int) = 1 + q := ⟨(1 + q).toNat, by omega⟩
  have hq : q = (n0 : Int) - 1 := by omega
  subst hq
  have hn1 : 1 ≤ n0 := by omega
  have hn5 : n0 ≤ 5 := by omega
  clear hc hk hn0 hq0 hq1
  go_wp2_with fail
  go_loopw [3, 4] (fun v iv wr => ∃ (k : Nat) (L : List Int), k ≤ n0 ∧ iv = .int .i64 ((n0 : Int) - k) ∧ Hid (OwnL inC 3 1 wr w.heap.size v L) ∧ L.length = k ∧ Hid (∀ x ∈ L, 0 ≤ x ∧ x ≤ 11) ∧ Hid (CurAt wr g S (m + 1 + k)) ∧ Hid (KeptO (fun k => k = g) w wr)) (fun _ iv _ => (intOf iv).toNat)
  case atStart => exact ⟨0, [], Nat.zero_le _, by go_num, OwnL.nil _ _ _ _ _, rfl, (fun x h => (List.not_mem_nil h).elim), HC1.out.1.mono (by omega), HC1.out.2⟩
  case round =>
    obtain ⟨k, L, hk, rfl, HO, hlen, HL, HC, HK⟩ := hrel
    have zw : w.heap.size ≤ wr.heap.size := HK.out.size
    by_cases hlt : k < n0
    · have i0 : (0 : Int) < (n0 : Int) - (k : Int) := by omega
      go_wp2_with fail
      refine (pick_k wr g S _ 3 HC.out (by omega) (by omega) (by omega)).mono ?_
      rintro e w2 ⟨y, rfl, ⟨hy0, hy1⟩, hc, hkk⟩
      have HC2 : Hid (CurAt w2 g S (m + 1 + k + 1)) := hc
      have HK2 : Hid (KeptO (fun k => k = g) w w2) := HK.out.trans hkk
      have HO2 : Hid (OwnL inC 3 1 w2 w.heap.size _ L) := OwnL.kept HO.out hkk (fun q hq e => by omega)
      have z2 : w.heap.size ≤ w2.heap.size := HK2.out.size
      clear hc hkk HO HC
      go_wp2_with (at_builtin; go_loud (refine app_int rfl _ _ rfl w.heap.size _ L rfl (OwnL.below HO2.out (below_a1q _ _)) _ (1 + y) rfl (by simp [go_sem]) (by omega) (by simp; omega) ?_))
      intro v3 w3 ho3 hb3 _
      have HO3 : Hid (OwnL inC 3 1 w3 w.heap.size v3 (L ++ [1 + y])) := ho3
      have B23 : Below w.heap.size w2 w3 := ((below_a1q w2 _).mono z2).trans hb3
      have HC3 : Hid (CurAt w3 g S (m + 1 + (k + 1 : Nat))) := (HC2.out.up B23 z2 hg HSL.out).mono (by omega)
      have HK3 : Hid (KeptO (fun k => k = g) w w3) := HK2.out.low B23
      have HL3 : Hid (∀ x ∈ L ++ [1 + y], 0 ≤ x ∧ x ≤ 11) := fun x hx => by
        rcases List.mem_append.1 hx with h | h
        · exact HL.out x h
        · have : x = 1 + y := by simpa using h
          omega
      clear ho3 hb3 B23
      go_wp2
      go_roundw
      case rel => exact ⟨k + 1, L ++ [1 + y], by omega, by go_num, HO3, by simp [hlen], HL3, HC3, HK3⟩
      case measure => simp [intOf]; omega
    · obtain rfl : k = n0 := by omega
      have i0 : ¬ (0 : Int) < (k : Int) - (k : Int) := by omega
      obtain ⟨av, cv, hv, hcv⟩ := HO.out.form
      subst hv
      rw [hlen] at hcv ⊢
      have HR : Hid ((kRow kInt).is true wr (fun q => w.heap.size ≤ q) [.slice av k cv] L) := own_intK (by have h := HO.out; rw [hlen] at h; exact h) (by rw [hlen]; omega) (fun x hx => by have := HL.out x hx; unfold IntOk; omega)
      clear HO
      go_wp2_with fail
      refine (one_k wr g S _ 30 HC.out (by omega) (by omega) (by omega)).mono ?_
      rintro e w2 ⟨q, rfl, hc, hkk⟩
      have HC2 : Hid (CurAt w2 g S (m + 1 + k + 1)) := hc
      have HK2 : Hid (KeptO (fun k => k = g) w w2) := HK.out.trans hkk
      have HR2 : Hid ((kRow kInt).is true w2 (fun q => w.heap.size ≤ q) [.slice av k cv] L) := Kd.kept HR.out hkk (fun q _ h e => by omega)
      have z2 : w.heap.size ≤ w2.heap.size := HK2.out.size
      clear hc hkk HC HK HR
      cases q with
      | false =>
        go_wp2
        go_ret
        exact ⟨av, k, cv, _, L, rfl, HR2.out, fun q h => h, ⟨hn1, hn5⟩, HL.out, HC2.out.mono (by omega), HK2.out⟩
      | true =>
        have hkp : (0 : Int) < (k : Int) := by omega
        go_wp2_with fail
        refine (among_at w2 g S _ [0, 10, 11] 3 HC2.out (by omega) (by omega) (by decide) (by decide)).mono ?_
        rintro e w3 ⟨y, hy, rfl, hc, hkk⟩
        have HC3 : Hid (CurAt w3 g S (m + 1 + k + 1 + 1)) := hc
        have HK3 : Hid (KeptO (fun k => k = g) w w3) := HK2.out.trans hkk
        have HR3 : Hid ((kRow kInt).is true w3 (fun q => w.heap.size ≤ q) [.slice av k cv] L) := Kd.kept HR2.out hkk (fun q _ h e => by omega)
        have hyb : 0 ≤ y ∧ y ≤ 11 := by
          rcases List.mem_cons.1 hy with h | h
          · omega
          · rcases List.mem_cons.1 h with h | h
            · omega
            · have : y = 11 := by simpa using h
              omega
        obtain ⟨y0, y1⟩ := hyb
        obtain ⟨b, o, v, rfl, hb, hS, p1, p2, hr, hk4⟩ := rowN_put HR3.out (show 0 < k by omega) y (by unfold IntOk; omega)
        rw [Nat.add_zero] at p1 p2 hr hk4
        have hb' : w.heap.size ≤ b := hS
        have HR4 : Hid ((kRow kInt).is true (w3.setCell ⟨b, o, none⟩ (.int .i64 y)) (fun q => w.heap.size ≤ q) [.slice (some ⟨b, o, none⟩) k cv] (L.set 0 y)) := hr
        have HC4 : Hid (CurAt (w3.setCell ⟨b, o, none⟩ (.int .i64 y)) g S (m + 1 + k + 1 + 1)) := HC3.out.kept hk4 (by omega) (fun q h => by have := HSL.out q h; omega)
        have HK4 : Hid (KeptO (fun k => k = g) w (w3.setCell ⟨b, o, none⟩ (.int .i64 y))) := keptF HK3.out hk4 (fun q h h' => by omega)
        have HL4 : Hid (∀ x ∈ L.set 0 y, 0 ≤ x ∧ x ≤ 11) := fun x hx => by
          rcases List.mem_or_eq_of_mem_set hx with h | h
          · exact HL.out x h
          · omega
        clear hr hk4 hc hkk hy
        go_wp2
        go_ret
        exact ⟨_, k, cv, _, L.set 0 y, rfl, HR4.out, fun q h => h, ⟨hn1, hn5⟩, HL4.out, HC4.out.mono (by omega), HK4.out⟩
/-- What a read and a write need. -/
def RVot (w : World) (g : Nat) (S : Nat → Prop) (m : Int) (e : Ending) (w' : World) : Prop := ∃ r t : Int, e = .returned (.tuple #[.int .i64 r, .int .i64 t]) ∧ (-100 ≤ r ∧ r ≤ 100) ∧ (0 ≤ t ∧ t ≤ 100) ∧ CurAt w' g S m ∧ KeptO (fun k => k = g) w w'
def sumI (l : List Int) : Nat → Int
  | 0 => 0
  | k + 1 => sumI l k + l.getD k 0
theorem sumI_bd {l : List Int} (h : ∀ x ∈ l, 0 ≤ x ∧ x ≤ 11) : ∀ k : Nat, 0 ≤ sumI l k ∧ sumI l k ≤ 11 * (k : Int)
  | 0 => by simp [sumI]
  | k + 1 => by
    have h1 := sumI_bd h k
    have h2 : 0 ≤ l.getD k 0 ∧ l.getD k 0 ≤ 11 := by
      rw [List.getD_eq_getElem?_getD]
      cases e : l[k]? with
      | none => simp
      | some x => exact h x (List.mem_of_getElem? e)
    unfold sumI
    omega
set_option maxRecDepth 100000 in
set_option maxHeartbeats 2000000 in
theorem votes_k (w : World) (g : Nat) (S : Nat → Prop) (m : Int) (l : List Int) (a : Option Addr) (n c : Nat) (T : Nat → Prop) (h : CurAt w g S m) (hm : m ≤ 2 ^ 40) (hr : (kRow kInt).is false w T [.slice a n c] l) (hn5 : n ≤ 5) (hl : ∀ x ∈ l, 0 ≤ x ∧ x ≤ 11) :
    Calls Try.prog 68 #[.pointer (some ⟨g, 0, none⟩), .slice a n c] w (RVot w g S (m + 5)) := by
  have H : Hid (CurAt w g S m) := h
  have HR : Hid ((kRow kInt).is false w T [.slice a n c] l) := hr
  have HL : Hid (∀ x ∈ l, 0 ≤ x ∧ x ≤ 11) := hl
  clear h hr hl
  go_enter Try.func68, Try.ntmps68
  go_wp2_with fail
  go_loopw [6, 13] (fun v iv wr => ∃ k : Nat, k ≤ n ∧ iv = .int .i64 k ∧ v = .int .i64 (sumI l k) ∧ wr = w) (fun _ iv _ => n - (intOf iv).toNat)
  case atStart => exact ⟨0, Nat.zero_le _, rfl, rfl, rfl⟩
  case round =>
    obtain ⟨k, hk, rfl, rfl, rfl⟩ := hrel
    obtain ⟨z0, z1⟩ := sumI_bd HL.out k
    by_cases hlt : k < n
    · obtain ⟨b, o, rfl, hb, A0, _⟩ := rowN_at HR.out hlt
      have HW : Hid (sumI l (k + 1) = sumI l k + l.getD k 0) := rfl
      obtain ⟨y0, y1⟩ : 0 ≤ l.getD k 0 ∧ l.getD k 0 ≤ 11 := HL.out _ (List.mem_of_getElem? (getD_at (show k < l.length by rw [← row_len HR.out]; exact hlt)))
      generalize sumI l k = z at *
      generalize l.getD k 0 = y at *
      have i0 : (k : Int) < (n : Int) := by omega
      have i1 : (0 : Int) ≤ (k : Int) := by omega
      have z2 : z ≤ 60 := by omega
      go_wp2
      go_roundw
      case rel => exact ⟨k + 1, by omega, by go_num, by rw [HW.out], trivial⟩
      case measure => simp [intOf]; omega
    · obtain rfl : k = n := by omega
      have i0 : ¬ (k : Int) < (k : Int) := by omega
      have z2 : sumI l k ≤ 55 := by omega
      generalize sumI l k = z at *
      have hb0 : 0 ≤ z / 2 := by omega
      have hb1 : z / 2 ≤ 30 := by omega
      go_wp2_with fail
      refine (pick_k wr g S m 2 H.out (by omega) (by omega) (by omega)).mono ?_
      rintro e w2 ⟨y1, rfl, ⟨p0, p1⟩, hc, hkk⟩
      have HC2 : Hid (CurAt w2 g S (m + 1) ∧ KeptO (fun k => k = g) wr w2) := ⟨hc, hkk⟩
      clear hc hkk
      go_wp2_with fail
      refine (pick_k w2 g S _ 2 HC2.out.1 (by omega) (by omega) (by omega)).mono ?_
      rintro e w3 ⟨y2, rfl, ⟨p2, p3⟩, hc, hkk⟩
      have HC3 : Hid (CurAt w3 g S (m + 1 + 1) ∧ KeptO (fun k => k = g) wr w3) := ⟨hc, HC2.out.2.trans hkk⟩
      clear hc hkk
      go_wp2_with fail
      refine (one_k w3 g S _ 12 HC3.out.1 (by omega) (by omega) (by omega)).mono ?_
      rintro e w4 ⟨q, rfl, hc, hkk⟩
      have HC4 : Hid (CurAt w4 g S (m + 1 + 1 + 1) ∧ KeptO (fun k => k = g) wr w4) := ⟨hc, HC3.out.2.trans hkk⟩
      clear hc hkk
      cases q with
      | false =>
        go_wp2
        refine bodyPost_ret (v := .tuple #[.int .i64 (z - (z / 2 + 1 + y1) + 1 + y2), .int .i64 (z / 2 + 1 + y1)]) (by simp [results, Try.results68, go_sem]) rfl ?_
        exact ⟨_, _, rfl, by omega, by omega, HC4.out.1.mono (by omega), HC4.out.2⟩
      | true =>
        go_wp2_with fail
        refine (pick_k w4 g S _ 4 HC4.out.1 (by omega) (by omega) (by omega)).mono ?_
        rintro e w5 ⟨y3, rfl, ⟨p4, p5⟩, hc, hkk⟩
        have HC5 : Hid (CurAt w5 g S (m + 1 + 1 + 1 + 1) ∧ KeptO (fun k => k = g) wr w5) := ⟨hc, HC4.out.2.trans hkk⟩
        clear hc hkk
        go_wp2
        refine bodyPost_ret (v := .tuple #[.int .i64 y3, .int .i64 (z / 2 + 1 + y1)]) (by simp [results, Try.results68, go_sem]) rfl ?_
        exact ⟨_, _, rfl, by omega, by omega, HC5.out.1.mono (by omega), HC5.out.2⟩
/-- Some numbers. -/
def RSom (w : World) (g : Nat) (S : Nat → Prop) (m : Int) (e : Ending) (w' : World) : Prop := ∃ (a : Option Addr) (n c : Nat) (T : Nat → Prop) (l : List Int), e = .returned (.slice a n c) ∧ (kRow kInt).is true w' T [.slice a n c] l ∧ (∀ k, T k → w.heap.size ≤ k) ∧ n ≤ 10 ∧ CurAt w' g S m ∧ KeptO (fun k => k = g) w w'
set_option maxRecDepth 100000 in
set_option maxHeartbeats 2000000 in
theorem some_k (w : World) (g : Nat) (S : Nat → Prop) (m : Int) (n0 : Nat) (h : CurAt w g S m) (hm : m ≤ 2 ^ 40) (hg : g < w.heap.size) (hS : ∀ k, S k → k < w.heap.size) (hn7 : n0 ≤ 7) :
    Calls Try.prog 43 #[.pointer (some ⟨g, 0, none⟩), .int .i64 n0] w (RSom w g S (m + 10)) := by
  have HSL : Hid (∀ k, S k → k < w.heap.size) := hS
  have H : Hid (CurAt w g S m) := h
  clear h hS
  go_enter Try.func43, Try.ntmps43
  go_wp2_with fail
  go_loopw [5, 6] (fun v iv wr => ∃ (k : Nat) (L : List Int), k ≤ n0 ∧ iv = .int .i64 k ∧ Hid (OwnL inC 3 1 wr w.heap.size v L) ∧ L.length ≤ k ∧ Hid (∀ x ∈ L, 0 ≤ x ∧ x ≤ 11) ∧ Hid (CurAt wr g S (m + k)) ∧ Hid (KeptO (fun k => k = g) w wr)) (fun _ iv _ => n0 - (intOf iv).toNat)
  case atStart => exact ⟨0, [], Nat.zero_le _, rfl, OwnL.nil _ _ _ _ _, Nat.le_refl _, (fun x h => (List.not_mem_nil h).elim), H.out.mono (by omega), KeptO.refl _ _⟩
  case round =>
    obtain ⟨k, L, hk, rfl, HO, hlen, HL, HC, HK⟩ := hrel
    have zw : w.heap.size ≤ wr.heap.size := HK.out.size
    by_cases hlt : k < n0
    · have i0 : (k : Int) < (n0 : Int) := by omega
      have i1 : (0 : Int) ≤ (k : Int) := by omega
      go_wp2_with fail
      refine (one_k wr g S _ 3 HC.out (by omega) (by omega) (by omega)).mono ?_
      rintro e w2 ⟨q, rfl, hc, hkk⟩
      have HC2 : Hid (CurAt w2 g S (m + (k + 1 : Nat))) := hc.mono (by omega)
      have HK2 : Hid (KeptO (fun k => k = g) w w2) := HK.out.trans hkk
      have HO2 : Hid (OwnL inC 3 1 w2 w.heap.size _ L) := OwnL.kept HO.out hkk (fun q hq e => by omega)
      have z2 : w.heap.size ≤ w2.heap.size := HK2.out.size
      clear hc hkk HO HC
      cases q with
      | true =>
        go_wp2
        go_roundw
        case rel => exact ⟨k + 1, L, by omega, by go_num, HO2, by omega, HL, HC2, HK2⟩
        case measure => simp [intOf]; omega
      | false =>
        go_wp2_with (at_builtin; go_loud (refine app_int rfl _ _ rfl w.heap.size _ L rfl (OwnL.below HO2.out (below_a1q _ _)) _ (k : Int) rfl (by simp [go_sem]) (by omega) (by simp; omega) ?_))
        intro v3 w3 ho3 hb3 _
        have HO3 : Hid (OwnL inC 3 1 w3 w.heap.size v3 (L ++ [(k : Int)])) := ho3
        have B23 : Below w.heap.size w2 w3 := ((below_a1q w2 _).mono z2).trans hb3
        have HC3 : Hid (CurAt w3 g S (m + (k + 1 : Nat))) := HC2.out.up B23 z2 hg HSL.out
        have HK3 : Hid (KeptO (fun k => k = g) w w3) := HK2.out.low B23
        have HL3 : Hid (∀ x ∈ L ++ [(k : Int)], 0 ≤ x ∧ x ≤ 11) := fun x hx => by
          rcases List.mem_append.1 hx with h | h
          · exact HL.out x h
          · have : x = (k : Int) := by simpa using h
            omega
        clear ho3 hb3 B23
        go_wp2
        go_roundw
        case rel => exact ⟨k + 1, L ++ [(k : Int)], by omega, by go_num, HO3, by simp; omega, HL3, HC3, HK3⟩
        case measure => simp [intOf]; omega
    · obtain rfl : k = n0 := by omega
      have i0 : ¬ (k : Int) < (k : Int) := by omega
      go_wp2_with fail
      refine (one_k wr g S _ 30 HC.out (by omega) (by omega) (by omega)).mono ?_
      rintro e w2 ⟨q, rfl, hc, hkk⟩
      have HC2 : Hid (CurAt w2 g S (m + 10)) := hc.mono (by omega)
      have HK2 : Hid (KeptO (fun k => k = g) w w2) := HK.out.trans hkk
      have HO2 : Hid (OwnL inC 3 1 w2 w.heap.size _ L) := OwnL.kept HO.out hkk (fun q hq e => by omega)
      have z2 : w.heap.size ≤ w2.heap.size := HK2.out.size
      clear hc hkk HO HC
      cases q with
      | false =>
        obtain ⟨av, cv, hv, hcv⟩ := HO2.out.form
        subst hv
        have HR : Hid ((kRow kInt).is true w2 (fun q => w.heap.size ≤ q) [.slice av L.length cv] L) := own_intK HO2.out (by omega) (fun x hx => by have := HL.out x hx; unfold IntOk; omega)
        have hl10 : L.length ≤ 10 := by omega
        clear HO2
        go_wp2
        go_ret
        exact ⟨av, _, cv, _, L, rfl, HR.out, fun q h => h, hl10, HC2.out, HK2.out⟩
      | true =>
        go_wp2_with (at_builtin; go_loud (refine app_int rfl _ _ rfl w.heap.size _ L rfl (OwnL.below HO2.out (below_a1q _ _)) _ (k : Int) rfl (by simp [go_sem]) (by omega) (by simp; omega) ?_))
        intro v3 w3 ho3 hb3 _
        have B23 : Below w.heap.size w2 w3 := ((below_a1q w2 _).mono z2).trans hb3
        have HC3 : Hid (CurAt w3 g S (m + 10)) := HC2.out.up B23 z2 hg HSL.out
        have HK3 : Hid (KeptO (fun k => k = g) w w3) := HK2.out.low B23
        have HL3 : Hid (∀ x ∈ L ++ [(k : Int)], 0 ≤ x ∧ x ≤ 11) := fun x hx => by
          rcases List.mem_append.1 hx with h | h
          · exact HL.out x h
          · have : x = (k : Int) := by simpa using h
            omega
        obtain ⟨av, cv, hv, hcv⟩ := ho3.form
        subst hv
        have hl10 : (L ++ [(k : Int)]).length ≤ 10 := by simp; omega
        have HR : Hid ((kRow kInt).is true w3 (fun q => w.heap.size ≤ q) [.slice av (L ++ [(k : Int)]).length cv] (L ++ [(k : Int)])) := own_intK ho3 (by omega) (fun x hx => by have := HL3.out x hx; unfold IntOk; omega)
        clear ho3 hb3 B23
        generalize (L ++ [(k : Int)]) = L3 at *
        go_wp2
        go_ret
        exact ⟨av, _, cv, _, L3, rfl, HR.out, fun q h => h, hl10, HC3.out, HK3.out⟩
end Go.Proofs.Ytbkdkiodkcpbeaa
