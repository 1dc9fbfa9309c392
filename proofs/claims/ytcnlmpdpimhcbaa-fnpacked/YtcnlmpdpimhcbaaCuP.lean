/- Postings that are drawn: some list of few. No condition but that it fits in memory. -/
import Derived.Test.YtcnlmpdpimhcbaaCur
import Derived.Test.YtcnlmpdpimhcbaaUpJ
import Derived.Test.YtcnlmpdpimhcbaaAp2
namespace Go.Proofs.Ytcnlmpdpimhcbaa
open Go.RowKit
set_option linter.unusedVariables false

/-- Some few postings in memory of their own. -/
def RPd (w : World) (g : Nat) (S : Nat → Prop) (m : Int) (e : Ending) (w' : World) : Prop := ∃ (a : Option Addr) (n c : Nat) (T : Nat → Prop) (l : List DPosting), e = .returned (.slice a n c) ∧ (kRow kPosting).is true w' T [.slice a n c] l ∧ (∀ k, T k → w.heap.size ≤ k) ∧ l.length ≤ 6 ∧ CurAt w' g S m ∧ KeptO (fun k => k = g) w w'
theorem ints_of {w : World} {vs : List Int} {T : TypeId} (W : World) (hW : W = w.alloc (.cells ((vs.map fun y => Value.int .i64 y).toArray) T)) : ∀ j, j < vs.length → W.cell? ⟨w.heap.size, j, none⟩ = some (.int .i64 (vs.getD j 0)) := by
  intro j hj
  rw [hW, World.cell?_alloc_new]
  simp [hj]

theorem CurAt.kept {w w' : World} {g : Nat} {S S' : Nat → Prop} {m : Int} (h : CurAt w g S m) (hk : KeptO S' w w') (hg : ¬ S' g) (hS : ∀ k, S k → ¬ S' k) : CurAt w' g S m := by
  obtain ⟨x, ca, cn, cc, p, sd, h0, h1, h2, h3, h4, h5⟩ := h
  have hgw := World.block_lt_of_cell? _ _ h0
  refine ⟨x, ca, cn, cc, p, sd, cell_keptO hk h0 hg, cell_keptO hk h1 hg, cell_keptO hk h2 hg, fun o ho => ?_, Kd.kept h4 hk (fun k _ h h' => hS k h h'), h5⟩
  match o, ho with
  | 0, ho => exact frozen_keptO hk h0 (h3 0 ho) hg
  | 1, ho => exact frozen_keptO hk h1 (h3 1 ho) hg
  | 2, ho => exact frozen_keptO hk h2 (h3 2 ho) hg
theorem KeptO.low {S : Nat → Prop} {w w' w'' : World} (h : KeptO S w w') (hb : Below w.heap.size w' w'') : KeptO S w w'' := ⟨hb.os.trans h.os, hb.tape.trans h.tape, hb.output.trans h.output, Nat.le_trans h.size hb.size, fun k hk hn => (hb.block k hk).trans (h.block k hk hn)⟩
/-- among of a list that is written out. -/
theorem among_at (w : World) (g : Nat) (S : Nat → Prop) (m : Int) (l : List Int) (T : TypeId) (h : CurAt w g S m) (hm : m ≤ 2 ^ 49) (hg : g < w.heap.size) (hl : 1 ≤ l.length) (hl2 : l.length ≤ 200) :
    Calls Try.prog 113 #[.pointer (some ⟨g, 0, none⟩), .slice (some ⟨w.heap.size, 0, none⟩) l.length l.length] (w.alloc (.cells ((l.map fun y => Value.int .i64 y).toArray) T)) (RAmong w g S (m + 1) l) := by
  refine (among_k _ g S m w.heap.size l (h.below (below_a1' _ _)) hm (by simp) (by omega) hl hl2 (ints_of _ rfl)).mono ?_
  rintro e w' ⟨y, hy, rfl, hc, hk⟩
  exact ⟨y, hy, rfl, hc, (KeptO.of (below_a1' _ _)).trans hk⟩

set_option maxRecDepth 100000 in
set_option maxHeartbeats 4000000 in
theorem postings_k (w : World) (g : Nat) (S : Nat → Prop) (m : Int) (h : CurAt w g S m) (hm : m ≤ 2 ^ 40) (hg : g < w.heap.size) (hS : ∀ k, S k → k < w.heap.size) :
    Calls Try.prog 61 #[.pointer (some ⟨g, 0, none⟩)] w (RPd w g S (m + 20)) := by
  have H : Hid (CurAt w g S m) := h
  clear h
  go_enter Try.func61, Try.ntmps61
  go_wp2_with fail
  refine (pick_k w g S m 7 H.out (by omega) (by omega) (by omega)).mono ?_
  rintro e w1 ⟨n0, rfl, ⟨n00, n01⟩, hc, hk⟩
  obtain ⟨n, rfl⟩ : ∃ n : Nat, n0 = n := ⟨n0.toNat, by omega⟩
  have HC1 : Hid (CurAt w1 g S (m + 1)) := hc
  have HK1 : Hid (KeptO (fun k => k = g) w w1) := hk
  have z1 : w.heap.size ≤ w1.heap.size := hk.size
  clear hc hk
  go_wp2_with fail
  go_loopw [3, 4, 5] (fun lv av nv wr => ∃ (k : Nat) (L : List DPosting) (p : Int), k ≤ n ∧ L.length + k = n ∧ nv = .int .i64 k ∧ av = .int .i64 p ∧ (-1 ≤ p ∧ p ≤ 2001 * (n - k)) ∧ Hid (OwnL poC 84 2 wr w1.heap.size lv L) ∧ Hid (smallP L) ∧ Hid (CurAt wr g S (m + 1 + 2 * (n - k))) ∧ Hid (KeptO (fun q => q = g) w1 wr)) (fun _ _ nv _ => (intOf nv).toNat)
  case atStart => exact ⟨n, [], -1, Nat.le_refl _, by simp, rfl, rfl, by omega, OwnL.nil _ _ _ _ _, fun x hx => by simp at hx, HC1.out.mono (by omega), KeptO.refl _ _⟩
  case round =>
    obtain ⟨k, L, p, hk, hLk, rfl, rfl, hp, HO, HSm, HC, HK⟩ := hrel
    obtain ⟨p0, p1⟩ := hp
    obtain ⟨oa, oc, hov, _⟩ := HO.out.form
    subst hov
    have zr : w1.heap.size ≤ wr.heap.size := HK.out.size
    by_cases h0 : k = 0
    · obtain rfl : k = 0 := h0
      have HKw : Hid (KeptO (fun q => q = g) w wr) := HK1.out.trans HK.out
      by_cases hL0 : L.length = 0
      · have : ¬ (0 : Int) < (L.length : Int) := by omega
        have HP : Hid ((kRow kPosting).is true wr (fun k => w1.heap.size ≤ k) [.slice oa 0 oc] L) := by have := post_is HO.out (by omega) HSm.out; rw [hL0] at this; exact this
        go_wp2
        go_ret
        exact ⟨oa, _, oc, _, L, rfl, HP.out, fun k hk => Nat.le_trans z1 hk, by omega, HC.out.mono (by omega), HKw.out⟩
      · have hLp : (0 : Int) < (L.length : Int) := by omega
        go_wp2_with fail
        refine (one_k wr g S _ 20 HC.out (by omega) (by omega) (by omega)).mono ?_
        rintro e w2 ⟨b, rfl, hc2, hk2⟩
        have HC2 : Hid (CurAt w2 g S (m + 1 + 2 * (n - (0 : Nat)) + 1)) := hc2
        have HK2 : Hid (KeptO (fun q => q = g) w w2) := HKw.out.trans hk2
        have HP : Hid ((kRow kPosting).is true w2 (fun k => w1.heap.size ≤ k) [.slice oa L.length oc] L) := post_is (HO.out.kept hk2 (fun k hk e => by have e' : k = g := e; omega)) (by omega) HSm.out
        have z2 : wr.heap.size ≤ w2.heap.size := hk2.size
        clear hc2 hk2 HC HK HKw HO
        cases b
        · go_wp2
          go_ret
          exact ⟨oa, _, oc, _, L, rfl, HP.out, fun k hk => Nat.le_trans z1 hk, by omega, HC2.out.mono (by omega), HK2.out⟩
        · go_wp2_with fail
          refine (among_at w2 g S _ [0, 100, 101] _ HC2.out (by omega) (by omega) (by simp) (by simp)).mono ?_
          rintro e w3 ⟨y, hy, rfl, hc3, hk3⟩
          have hy2 : 0 ≤ y ∧ y ≤ 101 := by simp at hy; omega
          have HC3 : Hid (CurAt w3 g S (m + 1 + 2 * (n - (0 : Nat)) + 1 + 1)) := hc3
          have HK3 : Hid (KeptO (fun q => q = g) w w3) := HK2.out.trans hk3
          have HP3 : Hid ((kRow kPosting).is true w3 (fun k => w1.heap.size ≤ k) [.slice oa L.length oc] L) := Kd.kept HP.out hk3 (fun k _ h h' => by have e : k = g := h'; omega)
          obtain ⟨x, hx⟩ : ∃ x, L[0]? = some x := ⟨_, List.getElem?_eq_getElem (by omega)⟩
          obtain ⟨b, off, B, C, rfl, hb, hSb, hnb, hi, hBS, hc, hput⟩ := row_put HP3.out hx
          obtain ⟨x0, x1⟩ := x
          obtain ⟨rfl, g0, g1⟩ := kPosting_open hi
          have A1 : w3.cell? ⟨b, off + 1, none⟩ = some (.int .i64 x1) := by have := (hc 1 _ rfl).1; rw [Nat.zero_mul] at this; exact this
          have F1 : w3.frozen? ⟨b, off + 1, none⟩ = false := by have := (hc 1 _ rfl).2; rw [Nat.zero_mul] at this; exact this
          have A0 : w3.cell? ⟨b, off + 0 * 2, none⟩ = some (.int .i64 x0) := (hc 0 _ rfl).1
          have HPUT : Hid (∀ w' x' C', OnlyO B b (off + 0 * 2) (off + 0 * 2 + 2) w3 w' → kPosting.is true w' B C' x' → (∀ j v, C'[j]? = some v → w'.cell? ⟨b, off + 0 * 2 + j, none⟩ = some v) → (kRow kPosting).is true w' (fun k => w1.heap.size ≤ k) [.slice (some ⟨b, off, none⟩) L.length oc] (L.set 0 x')) := hput
          clear hc3 hk3 hy hc hput hi hx HP HC2 HK2
          have bg : b ≠ g := by omega
          go_wp2_with fail
          have hfin := HPUT.out (w3.setCell ⟨b, off + 1, none⟩ (.int .i64 y)) (x0, y) [.int .i64 x0, .int .i64 y] ((OnlyO.refl _ _ _ _ _).thenSet (o := off + 1) (v := .int .i64 y) (by omega) (by omega)) (kPosting_shut g0 ⟨by omega, by omega⟩) (cells_cons (P := fun j u => World.cell? _ ⟨b, off + 0 * 2 + j, none⟩ = some u) (set_other A0 (by omega)) (cells_cons (by show World.cell? _ ⟨b, off + 0 * 2 + 1, none⟩ = _; rw [Nat.zero_mul]; exact set_same A1) cells_nil))
          have hks : KeptO (fun k => k = b) w3 (w3.setCell ⟨b, off + 1, none⟩ (.int .i64 y)) := ⟨rfl, rfl, rfl, by simp, fun k _ hn => heap_set_ne hn⟩
          have hcs := HC3.out.kept hks (fun e => bg e.symm) (fun k hk e => by have e' : k = b := e; have := hS k hk; omega)
          go_ret
          exact ⟨_, _, oc, _, _, rfl, hfin, fun k hk => Nat.le_trans z1 hk, by simp; omega, hcs.mono (by omega), HK3.out.low ⟨hks.os, hks.tape, hks.output, hks.size, fun k hk => hks.block k (by have := HK3.out.size; omega) (by omega)⟩⟩
    · obtain ⟨j, rfl⟩ : ∃ j, k = j + 1 := ⟨k - 1, by omega⟩
      have hjp : (0 : Int) < ((j + 1 : Nat) : Int) := by omega
      go_wp2_with fail
      refine (among_at wr g S _ [0, 0, 1, 5, 126, 127, 128, 2000] _ HC.out (by omega) (by omega) (by simp) (by simp)).mono ?_
      rintro e w2 ⟨y, hy, rfl, hc2, hk2⟩
      have hy2 : 0 ≤ y ∧ y ≤ 2000 := by simp at hy; omega
      have HC2 : Hid (CurAt w2 g S (m + 1 + 2 * (n - (j + 1 : Nat)) + 1)) := hc2
      have HK2 : Hid (KeptO (fun q => q = g) w1 w2) := HK.out.trans hk2
      have HO2 : Hid (OwnL poC 84 2 w2 w1.heap.size (.slice oa L.length oc) L) := HO.out.kept hk2 (fun k hk e => by have e' : k = g := e; omega)
      have z2 : wr.heap.size ≤ w2.heap.size := hk2.size
      clear hc2 hk2 HC HK HO hy
      go_wp2_with fail
      refine (pick_k w2 g S _ 100 HC2.out (by omega) (by omega) (by omega)).mono ?_
      rintro e w3 ⟨t, rfl, ⟨t0, t1⟩, hc3, hk3⟩
      have HC3 : Hid (CurAt w3 g S (m + 1 + 2 * (n - (j + 1 : Nat)) + 1 + 1)) := hc3
      have HK3 : Hid (KeptO (fun q => q = g) w1 w3) := HK2.out.trans hk3
      have HO3 : Hid (OwnL poC 84 2 w3 w1.heap.size (.slice oa L.length oc) L) := HO2.out.kept hk3 (fun k hk e => by have e' : k = g := e; omega)
      have z3 : w2.heap.size ≤ w3.heap.size := hk3.size
      clear hc3 hk3 HC2 HK2 HO2
      have HSm2 : Hid (smallP (L ++ [(p + (1 + y), 1 + t)])) := HSm.out.snoc (by omega) (by omega) (by omega) (by omega)
      go_wp2_with (at_builtin; refine app_post rfl _ _ rfl w1.heap.size _ L rfl (OwnL.below HO3.out (below_a1' _ _)) _ (p + (1 + y), 1 + t) rfl (cell_b1 _ _ _ _).1 (cell_b1 _ _ _ _).2 (by omega) (by simp; omega) ?_)
      intro v4 w4 ho4 hb4 hz4
      have HO4 : Hid (OwnL poC 84 2 w4 w1.heap.size v4 (L ++ [(p + (1 + y), 1 + t)])) := ho4
      have HK4 : Hid (KeptO (fun q => q = g) w1 w4) := HK3.out.low (((below_a1' w3 _).mono (by omega)).trans hb4)
      have HC4 : Hid (CurAt w4 g S (m + 1 + 2 * (n - (j + 1 : Nat)) + 1 + 1)) := (HC3.out.below (below_a1' w3 _)).kept hz4.kept (HO3.out.ne (.inl (by omega))) (fun k hk => HO3.out.ne (.inl (by have := hS k hk; omega)))
      clear ho4 hb4 hz4
      go_wp2
      go_roundw
      case rel => exact ⟨j, L ++ [(p + (1 + y), 1 + t)], p + (1 + y), by omega, by simp; omega, by congr 1, rfl, by omega, HO4, HSm2, HC4.out.mono (by omega), HK4⟩
      case measure => simp [intOf]
end Go.Proofs.Ytcnlmpdpimhcbaa
