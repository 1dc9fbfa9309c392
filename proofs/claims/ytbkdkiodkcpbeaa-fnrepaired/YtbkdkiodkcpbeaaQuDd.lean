/- What chapter 14's laws draw. No condition but that it fits in memory. -/
import Derived.Test.YtbkdkiodkcpbeaaQuDb
namespace Go.Proofs.Ytbkdkiodkcpbeaa
open Go.RowKit
set_option linter.unusedVariables false

/-- A voting and some numbers. -/
def RDrW (w : World) (e : Ending) (w' : World) : Prop := ∃ (a : Option Addr) (n c : Nat) (r t : Int) (L : List DCopy) (T : Nat → Prop) (sa : Option Addr) (sn sc : Nat) (sT : Nat → Prop) (sl : List Int), e = .returned (.tuple #[.agg #[.slice a n c, .int .i64 r, .int .i64 t], .slice sa sn sc]) ∧ (kRow kCopy).is true w' T [.slice a n c] L ∧ (∀ k, T k → w.heap.size ≤ k) ∧ (IntOk r ∧ IntOk t) ∧ (1 ≤ n ∧ n ≤ 7) ∧ (kRow kInt).is true w' sT [.slice sa sn sc] sl ∧ (∀ k, sT k → w.heap.size ≤ k) ∧ Below w.heap.size w w'
/-- A voting, some numbers and a text. -/
def RDrT (w : World) (e : Ending) (w' : World) : Prop := ∃ (a : Option Addr) (n c : Nat) (r t : Int) (L : List DCopy) (T : Nat → Prop) (sa : Option Addr) (sn sc : Nat) (sT : Nat → Prop) (sl : List Int) (y : ByteArray), e = .returned (.tuple #[.agg #[.slice a n c, .int .i64 r, .int .i64 t], .slice sa sn sc, .string y]) ∧ (kRow kCopy).is true w' T [.slice a n c] L ∧ (∀ k, T k → w.heap.size ≤ k) ∧ (IntOk r ∧ IntOk t) ∧ (1 ≤ n ∧ n ≤ 7) ∧ (kRow kInt).is true w' sT [.slice sa sn sc] sl ∧ (∀ k, sT k → w.heap.size ≤ k) ∧ y.size ≤ 13 ∧ Below w.heap.size w w'
set_option maxRecDepth 100000 in
set_option maxHeartbeats 8000000 in
theorem drawWeightIn_k (w : World) (x : List Int) (a : Option Addr) (n c : Nat) (h : (kRow kU8).is false w (fun _ => True) [.slice a n c] x) (hn : n ≤ 9223372036854775807) :
    Calls Try.prog 66 #[.slice a n c] w (RDrW w) := by
  have H : Hid ((kRow kU8).is false w (fun _ => True) [.slice a n c] x) := h
  clear h
  obtain ⟨W0, hW0⟩ : ∃ W, W = w.alloc (.cells #[.slice none 0 0, .int .i64 0, .int .i64 0] 25) := ⟨_, rfl⟩
  have HB0 : Hid (Below w.heap.size w W0) := by show Below _ _ _; rw [hW0]; exact below_a1q _ _
  have hz0 : W0.heap.size = w.heap.size + 1 := by rw [hW0]; simp
  have HR0 : Hid (Tri W0 w.heap.size (.slice none 0 0) (.int .i64 0) (.int .i64 0)) := by show Tri _ _ _ _ _; rw [hW0]; exact alloc_tri w _ _ _ _
  obtain ⟨W1, hW1⟩ : ∃ W, W = W0.alloc (.cells #[.slice a n c, .int .i64 0, .int .u64 0] 68) := ⟨_, rfl⟩
  have HCU : Hid (CurAt W1 W0.heap.size (fun k => k < W0.heap.size) 0) := by show CurAt _ _ _ _; rw [hW1]; exact cur_new (Kd.below H.out HB0.out) hn
  have hb01 : Below W0.heap.size W0 W1 := by rw [hW1]; exact below_a1q _ _
  have HB1 : Hid (Below w.heap.size w W1) := HB0.out.trans (hb01.mono (by omega))
  have HR1 : Hid (Tri W1 w.heap.size (.slice none 0 0) (.int .i64 0) (.int .i64 0)) := HR0.out.below hb01
  have hz1 : W1.heap.size = w.heap.size + 2 := by rw [hW1]; simp [hz0]
  go_enter Try.func66, Try.ntmps66
  go_wp2_with fail
  rw [show (w.alloc (.cells #[.slice none 0 0, .int .i64 0, .int .i64 0] 25)).alloc (.cells #[.slice a n c, .int .i64 0, .int .u64 0] 68) = W1 by rw [hW1, hW0]]
  clear hW1 hW0 hb01 HR0 HB0
  rw [hz0] at HCU
  obtain ⟨g, hge⟩ : ∃ g, g = w.heap.size + 1 := ⟨_, rfl⟩
  rw [← hge] at HCU ⊢
  obtain ⟨S, hSe⟩ : ∃ S : Nat → Prop, S = fun k => k < g := ⟨_, rfl⟩
  have HSS : Hid (∀ q, S q → q < w.heap.size + 1) := fun q h => by rw [hSe] at h; have h' : q < g := h; omega
  rw [← hSe] at HCU
  have hgw : w.heap.size < g := by omega
  have hg2 : g < w.heap.size + 2 := by omega
  clear hge hSe hz0
  refine (voting_k W1 g S 0 HCU.out (by omega) (by omega) (fun q h => by have := HSS.out q h; omega)).mono ?_
  rintro e w2 ⟨a, n, c, r, t, L, T, rfl, hrow, hT, hio, ⟨hn1, hn7⟩, hcu, hkp⟩
  have HIO : Hid (IntOk r ∧ IntOk t) := hio
  have HL2 : Hid ((kRow kCopy).is true w2 T [.slice a n c] L) := hrow
  have HTL : Hid (∀ q, T q → w.heap.size + 2 ≤ q) := fun q h => by have := hT q h; omega
  have HC2 : Hid (CurAt w2 g S 200) := hcu.mono (by omega)
  have HK2 : Hid (KeptO (fun q => q = g) W1 w2) := hkp
  have HR2 : Hid (Tri w2 w.heap.size (.slice none 0 0) (.int .i64 0) (.int .i64 0)) := HR1.out.keep (hkp.block _ (by omega) (by omega))
  have hz2 : w.heap.size + 2 ≤ w2.heap.size := by have := hkp.size; omega
  clear hrow hT hio hcu hkp HCU HR1
  obtain ⟨w3, hw3e⟩ : ∃ W, W = w2.alloc (.cells #[.slice a n c, .int .i64 r, .int .i64 t] 25) := ⟨_, rfl⟩
  obtain ⟨gv, hgve⟩ : ∃ gv, gv = w2.heap.size := ⟨_, rfl⟩
  have hb23 : Below w2.heap.size w2 w3 := by rw [hw3e]; exact below_a1q _ _
  have HX3 : Hid (Tri w3 gv (.slice a n c) (.int .i64 r) (.int .i64 t)) := by show Tri _ _ _ _ _; rw [hw3e, hgve]; exact alloc_tri w2 _ _ _ _
  have HL3 : Hid ((kRow kCopy).is true w3 T [.slice a n c] L) := Kd.below HL2.out hb23
  have HC3 : Hid (CurAt w3 g S 200) := HC2.out.below hb23
  have HK3 : Hid (KeptO (fun q => q = g) W1 w3) := HK2.out.low (hb23.mono (by omega))
  have HR3 : Hid (Tri w3 w.heap.size (.slice none 0 0) (.int .i64 0) (.int .i64 0)) := HR2.out.below hb23
  have hgvg : g < gv := by omega
  have hgv3 := HX3.out.lt
  have hw3 := HR3.out.lt
  have hg3 : g < w3.heap.size := by omega
  have hs3 : w.heap.size + 1 ≤ w3.heap.size := by omega
  go_upto_region 3 with fail
  rw [← hw3e, ← hgve]
  clear hw3e hgve hb23 HL2 HC2 HK2 HR2 hz2
  obtain ⟨D0, D1, D2, _, _, _⟩ := HX3.out
  obtain ⟨R0, R1, R2, RF0, RF1, RF2⟩ := HR3.out
  have hgne : gv ≠ w.heap.size := by omega
  have hgne2 : w.heap.size ≠ gv := by omega
  go_region_with (first | (go_at_call 43; go_fit (some_k w3.drew g S 200 n HC3.out.drew (by omega) (by show g < w3.heap.size; exact hg3) (fun q h => Nat.lt_of_lt_of_le (HSS.out q h) hs3) hn7); rintro e w4 ⟨sa, sn, sc, sT, sl, rfl, hr, hT, hn, hc, hkk⟩; have hkk' : KeptO (fun q => q = g) w3 w4 := (KeptO.of ((Below.refl w3.heap.size w3).drew)).trans hkk; have HC4 : Hid (CurAt w4 g S 210) := hc; have HX4 : Hid (Tri w4 gv (.slice a n c) (.int .i64 r) (.int .i64 t)) := HX3.out.keep (hkk'.block _ hgv3 (by omega)); have HR4 : Hid (Tri w4 w.heap.size (.slice none 0 0) (.int .i64 0) (.int .i64 0)) := HR3.out.keep (hkk'.block _ (by omega) (by omega)); have HL4 : Hid ((kRow kCopy).is true w4 T [.slice a n c] L) := Kd.kept HL3.out hkk' (fun q _ h e => by have := HTL.out q h; omega); have HS4 : Hid ((kRow kInt).is true w4 sT [.slice sa sn sc] sl) := hr; have hTs : Hid (∀ q, sT q → w3.heap.size ≤ q) := hT; have HK4 : Hid (KeptO (fun q => q = g) W1 w4) := HK3.out.trans hkk'; obtain ⟨X0, X1, X2, _, _, _⟩ := HX4.out; obtain ⟨Y0, Y1, Y2, YF0, YF1, YF2⟩ := HR4.out; have z4 : w3.heap.size ≤ w4.heap.size := hkk'.size; have hgv4 : gv < w4.heap.size := Nat.lt_of_lt_of_le hgv3 z4; have hw4 : w.heap.size < w4.heap.size := Nat.lt_of_lt_of_le hw3 z4; clear hr hT hc hkk hkk'))
  all_goals
    have hkp := put3_kept w4 w.heap.size (.slice a n c) (.int .i64 r) (.int .i64 t)
    have HFR : Hid ((kRow kCopy).is true (put3 w4 w.heap.size (.slice a n c) (.int .i64 r) (.int .i64 t)) T [.slice a n c] L ∧ (kRow kInt).is true (put3 w4 w.heap.size (.slice a n c) (.int .i64 r) (.int .i64 t)) sT [.slice sa sn sc] sl ∧ Below w.heap.size w (put3 w4 w.heap.size (.slice a n c) (.int .i64 r) (.int .i64 t))) := ⟨Kd.kept HL4.out hkp (fun q _ h e => by have := HTL.out q h; omega), Kd.kept HS4.out hkp (fun q _ h e => by have := hTs.out q h; omega), below_put3 (HB1.out.trans (HK4.out.below (by omega) (fun q hq e => by omega))) (Nat.le_refl _) _ _ _⟩
    have hq := HR4.out.put (.slice a n c) (.int .i64 r) (.int .i64 t)
    obtain ⟨Q0, Q1, Q2, _, _, _⟩ := hq
    unfold put3 at Q0 Q1 Q2 HFR
    clear hkp
    go_wp2
    refine bodyPost_ret (v := .tuple #[.agg #[.slice a n c, .int .i64 r, .int .i64 t], .slice sa sn sc]) (by simp [results, Try.results66, go_sem, Q0, Q1, Q2]) rfl ?_
    exact ⟨a, n, c, r, t, L, T, sa, sn, sc, sT, sl, rfl, HFR.out.1, fun q h => by have := HTL.out q h; omega, HIO.out, ⟨hn1, hn7⟩, HFR.out.2.1, fun q h => by have := hTs.out q h; omega, HFR.out.2.2⟩
set_option maxRecDepth 100000 in
set_option maxHeartbeats 2000000 in
theorem drawReadText_k (w : World) (x : List Int) (a : Option Addr) (n c : Nat) (h : (kRow kU8).is false w (fun _ => True) [.slice a n c] x) (hn : n ≤ 9223372036854775807) :
    Calls Try.prog 23 #[.slice a n c] w (RDrW w) := by
  have H : Hid ((kRow kU8).is false w (fun _ => True) [.slice a n c] x) := h
  clear h
  obtain ⟨W0, hW0⟩ : ∃ W, W = w.alloc (.cells #[.slice none 0 0, .int .i64 0, .int .i64 0] 25) := ⟨_, rfl⟩
  have HB0 : Hid (Below w.heap.size w W0) := by show Below _ _ _; rw [hW0]; exact below_a1q _ _
  have HR0 : Hid (Tri W0 w.heap.size (.slice none 0 0) (.int .i64 0) (.int .i64 0)) := by show Tri _ _ _ _ _; rw [hW0]; exact alloc_tri w _ _ _ _
  have hz0 : W0.heap.size = w.heap.size + 1 := by rw [hW0]; simp
  go_enter Try.func23, Try.ntmps23
  go_wp2_with fail
  rw [← hW0]
  clear hW0
  refine (drawWeightIn_k W0 x a n c (Kd.below H.out HB0.out) hn).mono ?_
  rintro e w4 ⟨a, n, c, r, t, L, T, sa, sn, sc, sT, sl, rfl, hrow, hT, hio, hn17, hs, hsT, hb⟩
  have HL4 : Hid ((kRow kCopy).is true w4 T [.slice a n c] L ∧ (∀ q, T q → W0.heap.size ≤ q)) := ⟨hrow, hT⟩
  have HS4 : Hid ((kRow kInt).is true w4 sT [.slice sa sn sc] sl ∧ (∀ q, sT q → W0.heap.size ≤ q)) := ⟨hs, hsT⟩
  have HIO : Hid ((IntOk r ∧ IntOk t) ∧ (1 ≤ n ∧ n ≤ 7)) := ⟨hio, hn17⟩
  have HR4 : Hid (Tri w4 w.heap.size (.slice none 0 0) (.int .i64 0) (.int .i64 0)) := HR0.out.below hb
  have HB4 : Hid (Below w.heap.size w w4) := HB0.out.trans (hb.mono (by omega))
  clear hrow hT hio hs hsT hb hn17
  obtain ⟨R0, R1, R2, RF0, RF1, RF2⟩ := HR4.out
  have hkp := put3_kept w4 w.heap.size (.slice a n c) (.int .i64 r) (.int .i64 t)
  have HFR : Hid ((kRow kCopy).is true (put3 w4 w.heap.size (.slice a n c) (.int .i64 r) (.int .i64 t)) T [.slice a n c] L ∧ (kRow kInt).is true (put3 w4 w.heap.size (.slice a n c) (.int .i64 r) (.int .i64 t)) sT [.slice sa sn sc] sl ∧ Below w.heap.size w (put3 w4 w.heap.size (.slice a n c) (.int .i64 r) (.int .i64 t))) := ⟨Kd.kept HL4.out.1 hkp (fun q _ h e => by have := HL4.out.2 q h; omega), Kd.kept HS4.out.1 hkp (fun q _ h e => by have := HS4.out.2 q h; omega), below_put3 HB4.out (Nat.le_refl _) _ _ _⟩
  have hq := HR4.out.put (.slice a n c) (.int .i64 r) (.int .i64 t)
  obtain ⟨Q0, Q1, Q2, _, _, _⟩ := hq
  unfold put3 at Q0 Q1 Q2 HFR
  clear hkp
  go_wp2
  refine bodyPost_ret (v := .tuple #[.agg #[.slice a n c, .int .i64 r, .int .i64 t], .slice sa sn sc]) (by simp [results, Try.results23, go_sem, Q0, Q1, Q2]) rfl ?_
  exact ⟨a, n, c, r, t, L, T, sa, sn, sc, sT, sl, rfl, HFR.out.1, fun q h => by have := HL4.out.2 q h; omega, HIO.out.1, HIO.out.2, HFR.out.2.1, fun q h => by have := HS4.out.2 q h; omega, HFR.out.2.2⟩
set_option maxRecDepth 100000 in
set_option maxHeartbeats 2000000 in
theorem drawRepairCopies_k (w : World) (x : List Int) (a : Option Addr) (n c : Nat) (h : (kRow kU8).is false w (fun _ => True) [.slice a n c] x) (hn : n ≤ 9223372036854775807) :
    Calls Try.prog 25 #[.slice a n c] w (RDrW w) := by
  have H : Hid ((kRow kU8).is false w (fun _ => True) [.slice a n c] x) := h
  clear h
  obtain ⟨W0, hW0⟩ : ∃ W, W = w.alloc (.cells #[.slice none 0 0, .int .i64 0, .int .i64 0] 25) := ⟨_, rfl⟩
  have HB0 : Hid (Below w.heap.size w W0) := by show Below _ _ _; rw [hW0]; exact below_a1q _ _
  have HR0 : Hid (Tri W0 w.heap.size (.slice none 0 0) (.int .i64 0) (.int .i64 0)) := by show Tri _ _ _ _ _; rw [hW0]; exact alloc_tri w _ _ _ _
  have hz0 : W0.heap.size = w.heap.size + 1 := by rw [hW0]; simp
  go_enter Try.func25, Try.ntmps25
  go_wp2_with fail
  rw [← hW0]
  clear hW0
  refine (drawWeightIn_k W0 x a n c (Kd.below H.out HB0.out) hn).mono ?_
  rintro e w4 ⟨a, n, c, r, t, L, T, sa, sn, sc, sT, sl, rfl, hrow, hT, hio, hn17, hs, hsT, hb⟩
  have HL4 : Hid ((kRow kCopy).is true w4 T [.slice a n c] L ∧ (∀ q, T q → W0.heap.size ≤ q)) := ⟨hrow, hT⟩
  have HS4 : Hid ((kRow kInt).is true w4 sT [.slice sa sn sc] sl ∧ (∀ q, sT q → W0.heap.size ≤ q)) := ⟨hs, hsT⟩
  have HIO : Hid ((IntOk r ∧ IntOk t) ∧ (1 ≤ n ∧ n ≤ 7)) := ⟨hio, hn17⟩
  have HR4 : Hid (Tri w4 w.heap.size (.slice none 0 0) (.int .i64 0) (.int .i64 0)) := HR0.out.below hb
  have HB4 : Hid (Below w.heap.size w w4) := HB0.out.trans (hb.mono (by omega))
  clear hrow hT hio hs hsT hb hn17
  obtain ⟨R0, R1, R2, RF0, RF1, RF2⟩ := HR4.out
  have hkp := put3_kept w4 w.heap.size (.slice a n c) (.int .i64 r) (.int .i64 t)
  have HFR : Hid ((kRow kCopy).is true (put3 w4 w.heap.size (.slice a n c) (.int .i64 r) (.int .i64 t)) T [.slice a n c] L ∧ (kRow kInt).is true (put3 w4 w.heap.size (.slice a n c) (.int .i64 r) (.int .i64 t)) sT [.slice sa sn sc] sl ∧ Below w.heap.size w (put3 w4 w.heap.size (.slice a n c) (.int .i64 r) (.int .i64 t))) := ⟨Kd.kept HL4.out.1 hkp (fun q _ h e => by have := HL4.out.2 q h; omega), Kd.kept HS4.out.1 hkp (fun q _ h e => by have := HS4.out.2 q h; omega), below_put3 HB4.out (Nat.le_refl _) _ _ _⟩
  have hq := HR4.out.put (.slice a n c) (.int .i64 r) (.int .i64 t)
  obtain ⟨Q0, Q1, Q2, _, _, _⟩ := hq
  unfold put3 at Q0 Q1 Q2 HFR
  clear hkp
  go_wp2
  refine bodyPost_ret (v := .tuple #[.agg #[.slice a n c, .int .i64 r, .int .i64 t], .slice sa sn sc]) (by simp [results, Try.results25, go_sem, Q0, Q1, Q2]) rfl ?_
  exact ⟨a, n, c, r, t, L, T, sa, sn, sc, sT, sl, rfl, HFR.out.1, fun q h => by have := HL4.out.2 q h; omega, HIO.out.1, HIO.out.2, HFR.out.2.1, fun q h => by have := HS4.out.2 q h; omega, HFR.out.2.2⟩
set_option maxRecDepth 100000 in
set_option maxHeartbeats 8000000 in
theorem drawWriteText_k (w : World) (x : List Int) (a : Option Addr) (n c : Nat) (h : (kRow kU8).is false w (fun _ => True) [.slice a n c] x) (hn : n ≤ 9223372036854775807) :
    Calls Try.prog 13 #[.slice a n c] w (RDrT w) := by
  have H : Hid ((kRow kU8).is false w (fun _ => True) [.slice a n c] x) := h
  clear h
  obtain ⟨W0, hW0⟩ : ∃ W, W = w.alloc (.cells #[.slice none 0 0, .int .i64 0, .int .i64 0] 25) := ⟨_, rfl⟩
  have HB0 : Hid (Below w.heap.size w W0) := by show Below _ _ _; rw [hW0]; exact below_a1q _ _
  have hz0 : W0.heap.size = w.heap.size + 1 := by rw [hW0]; simp
  have HR0 : Hid (Tri W0 w.heap.size (.slice none 0 0) (.int .i64 0) (.int .i64 0)) := by show Tri _ _ _ _ _; rw [hW0]; exact alloc_tri w _ _ _ _
  obtain ⟨W1, hW1⟩ : ∃ W, W = W0.alloc (.cells #[.slice a n c, .int .i64 0, .int .u64 0] 68) := ⟨_, rfl⟩
  have HCU : Hid (CurAt W1 W0.heap.size (fun k => k < W0.heap.size) 0) := by show CurAt _ _ _ _; rw [hW1]; exact cur_new (Kd.below H.out HB0.out) hn
  have hb01 : Below W0.heap.size W0 W1 := by rw [hW1]; exact below_a1q _ _
  have HB1 : Hid (Below w.heap.size w W1) := HB0.out.trans (hb01.mono (by omega))
  have HR1 : Hid (Tri W1 w.heap.size (.slice none 0 0) (.int .i64 0) (.int .i64 0)) := HR0.out.below hb01
  have hz1 : W1.heap.size = w.heap.size + 2 := by rw [hW1]; simp [hz0]
  go_enter Try.func13, Try.ntmps13
  go_wp2_with fail
  rw [show (w.alloc (.cells #[.slice none 0 0, .int .i64 0, .int .i64 0] 25)).alloc (.cells #[.slice a n c, .int .i64 0, .int .u64 0] 68) = W1 by rw [hW1, hW0]]
  clear hW1 hW0 hb01 HR0 HB0
  rw [hz0] at HCU
  obtain ⟨g, hge⟩ : ∃ g, g = w.heap.size + 1 := ⟨_, rfl⟩
  rw [← hge] at HCU ⊢
  obtain ⟨S, hSe⟩ : ∃ S : Nat → Prop, S = fun k => k < g := ⟨_, rfl⟩
  have HSS : Hid (∀ q, S q → q < w.heap.size + 1) := fun q h => by rw [hSe] at h; have h' : q < g := h; omega
  rw [← hSe] at HCU
  have hgw : w.heap.size < g := by omega
  have hg2 : g < w.heap.size + 2 := by omega
  clear hge hSe hz0
  refine (voting_k W1 g S 0 HCU.out (by omega) (by omega) (fun q h => by have := HSS.out q h; omega)).mono ?_
  rintro e w2 ⟨a, n, c, r, t, L, T, rfl, hrow, hT, hio, ⟨hn1, hn7⟩, hcu, hkp⟩
  have HIO : Hid (IntOk r ∧ IntOk t) := hio
  have HL2 : Hid ((kRow kCopy).is true w2 T [.slice a n c] L) := hrow
  have HTL : Hid (∀ q, T q → w.heap.size + 2 ≤ q) := fun q h => by have := hT q h; omega
  have HC2 : Hid (CurAt w2 g S 200) := hcu.mono (by omega)
  have HK2 : Hid (KeptO (fun q => q = g) W1 w2) := hkp
  have HR2 : Hid (Tri w2 w.heap.size (.slice none 0 0) (.int .i64 0) (.int .i64 0)) := HR1.out.keep (hkp.block _ (by omega) (by omega))
  have hz2 : w.heap.size + 2 ≤ w2.heap.size := by have := hkp.size; omega
  clear hrow hT hio hcu hkp HCU HR1
  obtain ⟨w3, hw3e⟩ : ∃ W, W = w2.alloc (.cells #[.slice a n c, .int .i64 r, .int .i64 t] 25) := ⟨_, rfl⟩
  obtain ⟨gv, hgve⟩ : ∃ gv, gv = w2.heap.size := ⟨_, rfl⟩
  have hb23 : Below w2.heap.size w2 w3 := by rw [hw3e]; exact below_a1q _ _
  have HX3 : Hid (Tri w3 gv (.slice a n c) (.int .i64 r) (.int .i64 t)) := by show Tri _ _ _ _ _; rw [hw3e, hgve]; exact alloc_tri w2 _ _ _ _
  have HL3 : Hid ((kRow kCopy).is true w3 T [.slice a n c] L) := Kd.below HL2.out hb23
  have HC3 : Hid (CurAt w3 g S 200) := HC2.out.below hb23
  have HK3 : Hid (KeptO (fun q => q = g) W1 w3) := HK2.out.low (hb23.mono (by omega))
  have HR3 : Hid (Tri w3 w.heap.size (.slice none 0 0) (.int .i64 0) (.int .i64 0)) := HR2.out.below hb23
  have hgvg : g < gv := by omega
  have hgv3 := HX3.out.lt
  have hw3 := HR3.out.lt
  have hg3 : g < w3.heap.size := by omega
  have hs3 : w.heap.size + 1 ≤ w3.heap.size := by omega
  go_upto_region 3 with fail
  rw [← hw3e, ← hgve]
  clear hw3e hgve hb23 HL2 HC2 HK2 HR2 hz2
  obtain ⟨D0, D1, D2, _, _, _⟩ := HX3.out
  obtain ⟨R0, R1, R2, RF0, RF1, RF2⟩ := HR3.out
  have hgne : gv ≠ w.heap.size := by omega
  have hgne2 : w.heap.size ≠ gv := by omega
  have LSM : ∀ y ∈ ([⟨#[97]⟩, ⟨#[110, 101, 119]⟩, ⟨#[49, 50, 51, 52, 53, 54, 55, 56, 57, 48, 49, 50, 51]⟩] : List ByteArray), y.size ≤ 13 := by decide
  go_region_with (first | (go_at_call 43; go_fit (some_k w3.drew g S 200 n HC3.out.drew (by omega) (by show g < w3.heap.size; exact hg3) (fun q h => Nat.lt_of_lt_of_le (HSS.out q h) hs3) hn7); rintro e w4 ⟨sa, sn, sc, sT, sl, rfl, hr, hT, hn, hc, hkk⟩; have hkk' : KeptO (fun q => q = g) w3 w4 := (KeptO.of ((Below.refl w3.heap.size w3).drew)).trans hkk; have HC4 : Hid (CurAt w4 g S 210) := hc; have HX4 : Hid (Tri w4 gv (.slice a n c) (.int .i64 r) (.int .i64 t)) := HX3.out.keep (hkk'.block _ hgv3 (by omega)); have HR4 : Hid (Tri w4 w.heap.size (.slice none 0 0) (.int .i64 0) (.int .i64 0)) := HR3.out.keep (hkk'.block _ (by omega) (by omega)); have HL4 : Hid ((kRow kCopy).is true w4 T [.slice a n c] L) := Kd.kept HL3.out hkk' (fun q _ h e => by have := HTL.out q h; omega); have HS4 : Hid ((kRow kInt).is true w4 sT [.slice sa sn sc] sl) := hr; have hTs : Hid (∀ q, sT q → w3.heap.size ≤ q) := hT; have HK4 : Hid (KeptO (fun q => q = g) W1 w4) := HK3.out.trans hkk'; obtain ⟨X0, X1, X2, _, _, _⟩ := HX4.out; obtain ⟨Y0, Y1, Y2, YF0, YF1, YF2⟩ := HR4.out; have z4 : w3.heap.size ≤ w4.heap.size := hkk'.size; have hgv4 : gv < w4.heap.size := Nat.lt_of_lt_of_le hgv3 z4; have hw4 : w.heap.size < w4.heap.size := Nat.lt_of_lt_of_le hw3 z4; clear hr hT hc hkk hkk') | (go_at_call 43; go_fit (some_k (w3.alloc (.cells #[.string ⟨#[97]⟩, .string ⟨#[110, 101, 119]⟩, .string ⟨#[49, 50, 51, 52, 53, 54, 55, 56, 57, 48, 49, 50, 51]⟩] 9)).drew g S 200 n (HC3.out.below (below_a1q _ _)).drew (by omega) (by show g < (w3.alloc _).heap.size; simp; omega) (fun q h => by have := HSS.out q h; show q < (w3.alloc _).heap.size; simp; omega) hn7); rintro e w4 ⟨sa, sn, sc, sT, sl, rfl, hr, hT, hn, hc, hkk⟩; have hkk' : KeptO (fun q => q = g) w3 w4 := (KeptO.of ((below_a1q w3 (.cells #[.string ⟨#[97]⟩, .string ⟨#[110, 101, 119]⟩, .string ⟨#[49, 50, 51, 52, 53, 54, 55, 56, 57, 48, 49, 50, 51]⟩] 9)).drew)).trans hkk; have HC4 : Hid (CurAt w4 g S 210) := hc; have HX4 : Hid (Tri w4 gv (.slice a n c) (.int .i64 r) (.int .i64 t)) := HX3.out.keep (hkk'.block _ hgv3 (by omega)); have HR4 : Hid (Tri w4 w.heap.size (.slice none 0 0) (.int .i64 0) (.int .i64 0)) := HR3.out.keep (hkk'.block _ (by omega) (by omega)); have HL4 : Hid ((kRow kCopy).is true w4 T [.slice a n c] L) := Kd.kept HL3.out hkk' (fun q _ h e => by have := HTL.out q h; omega); have HS4 : Hid ((kRow kInt).is true w4 sT [.slice sa sn sc] sl) := hr; have hTs : Hid (∀ q, sT q → w3.heap.size ≤ q) := fun q h => (by have h1 : (w3.alloc _).heap.size ≤ q := hT q h; simp at h1; omega); have HK4 : Hid (KeptO (fun q => q = g) W1 w4) := HK3.out.trans hkk'; obtain ⟨X0, X1, X2, _, _, _⟩ := HX4.out; obtain ⟨Y0, Y1, Y2, YF0, YF1, YF2⟩ := HR4.out; have z4 : w3.heap.size ≤ w4.heap.size := hkk'.size; have hgv4 : gv < w4.heap.size := Nat.lt_of_lt_of_le hgv3 z4; have hw4 : w.heap.size < w4.heap.size := Nat.lt_of_lt_of_le hw3 z4; have HLS : Hid (∀ j, j < ([⟨#[97]⟩, ⟨#[110, 101, 119]⟩, ⟨#[49, 50, 51, 52, 53, 54, 55, 56, 57, 48, 49, 50, 51]⟩] : List ByteArray).length → w4.cell? ⟨w3.heap.size, j, none⟩ = some (.string (([⟨#[97]⟩, ⟨#[110, 101, 119]⟩, ⟨#[49, 50, 51, 52, 53, 54, 55, 56, 57, 48, 49, 50, 51]⟩] : List ByteArray).getD j ⟨#[]⟩))) := fun j hj => (hkk.cell (g := w3.heap.size) (by show w3.heap.size < (w3.alloc _).heap.size; simp) (by omega)).trans (strs_of (vs := [⟨#[97]⟩, ⟨#[110, 101, 119]⟩, ⟨#[49, 50, 51, 52, 53, 54, 55, 56, 57, 48, 49, 50, 51]⟩]) (T := 9) _ rfl j hj); have hz34 : w3.heap.size < w4.heap.size := (by have := hkk.size; simp at this; omega); clear hr hT hc hkk hkk') | (go_at_call 44; go_fit (of_at w4 g S 210 [⟨#[97]⟩, ⟨#[110, 101, 119]⟩, ⟨#[49, 50, 51, 52, 53, 54, 55, 56, 57, 48, 49, 50, 51]⟩] 9 HC4.out (by omega) (by omega) (by decide) (by decide)); rintro e w6 ⟨y, hy, rfl, hc, hk6⟩; have HX6 : Hid (Tri w6 gv (.slice a n c) (.int .i64 r) (.int .i64 t)) := HX4.out.keep (hk6.block _ hgv4 (by omega)); have HR6 : Hid (Tri w6 w.heap.size (.slice none 0 0) (.int .i64 0) (.int .i64 0)) := HR4.out.keep (hk6.block _ hw4 (by omega)); have HL6 : Hid ((kRow kCopy).is true w6 T [.slice a n c] L) := Kd.kept HL4.out hk6 (fun q _ h e => by have := HTL.out q h; omega); have HS6 : Hid ((kRow kInt).is true w6 sT [.slice sa sn sc] sl) := Kd.kept HS4.out hk6 (fun q _ h e => by have := hTs.out q h; omega); have HK6 : Hid (KeptO (fun q => q = g) W1 w6) := HK4.out.trans hk6; have HY : Hid (y.size ≤ 13) := LSM y hy; obtain ⟨P0, P1, P2, _, _, _⟩ := HX6.out; obtain ⟨O0, O1, O2, OF0, OF1, OF2⟩ := HR6.out; have z6 : w4.heap.size ≤ w6.heap.size := hk6.size; have hgv6 : gv < w6.heap.size := Nat.lt_of_lt_of_le hgv4 z6; have hw6 : w.heap.size < w6.heap.size := Nat.lt_of_lt_of_le hw4 z6; clear hc hk6 hy) | (go_at_call 44; go_fit (of_k w4 g S 210 w3.heap.size [⟨#[97]⟩, ⟨#[110, 101, 119]⟩, ⟨#[49, 50, 51, 52, 53, 54, 55, 56, 57, 48, 49, 50, 51]⟩] HC4.out (by omega) hz34 (by omega) (by decide) (by decide) HLS.out); rintro e w6 ⟨y, hy, rfl, hc, hk6⟩; have HX6 : Hid (Tri w6 gv (.slice a n c) (.int .i64 r) (.int .i64 t)) := HX4.out.keep (hk6.block _ hgv4 (by omega)); have HR6 : Hid (Tri w6 w.heap.size (.slice none 0 0) (.int .i64 0) (.int .i64 0)) := HR4.out.keep (hk6.block _ hw4 (by omega)); have HL6 : Hid ((kRow kCopy).is true w6 T [.slice a n c] L) := Kd.kept HL4.out hk6 (fun q _ h e => by have := HTL.out q h; omega); have HS6 : Hid ((kRow kInt).is true w6 sT [.slice sa sn sc] sl) := Kd.kept HS4.out hk6 (fun q _ h e => by have := hTs.out q h; omega); have HK6 : Hid (KeptO (fun q => q = g) W1 w6) := HK4.out.trans hk6; have HY : Hid (y.size ≤ 13) := LSM y hy; obtain ⟨P0, P1, P2, _, _, _⟩ := HX6.out; obtain ⟨O0, O1, O2, OF0, OF1, OF2⟩ := HR6.out; have z6 : w4.heap.size ≤ w6.heap.size := hk6.size; have hgv6 : gv < w6.heap.size := Nat.lt_of_lt_of_le hgv4 z6; have hw6 : w.heap.size < w6.heap.size := Nat.lt_of_lt_of_le hw4 z6; clear hc hk6 hy))
  all_goals
    have hkp := put3_kept w6 w.heap.size (.slice a n c) (.int .i64 r) (.int .i64 t)
    have HFR : Hid ((kRow kCopy).is true (put3 w6 w.heap.size (.slice a n c) (.int .i64 r) (.int .i64 t)) T [.slice a n c] L ∧ (kRow kInt).is true (put3 w6 w.heap.size (.slice a n c) (.int .i64 r) (.int .i64 t)) sT [.slice sa sn sc] sl ∧ Below w.heap.size w (put3 w6 w.heap.size (.slice a n c) (.int .i64 r) (.int .i64 t))) := ⟨Kd.kept HL6.out hkp (fun q _ h e => by have := HTL.out q h; omega), Kd.kept HS6.out hkp (fun q _ h e => by have := hTs.out q h; omega), below_put3 (HB1.out.trans (HK6.out.below (by omega) (fun q hq e => by omega))) (Nat.le_refl _) _ _ _⟩
    have hq := HR6.out.put (.slice a n c) (.int .i64 r) (.int .i64 t)
    obtain ⟨Q0, Q1, Q2, _, _, _⟩ := hq
    unfold put3 at Q0 Q1 Q2 HFR
    clear hkp
    go_wp2
    refine bodyPost_ret (v := .tuple #[.agg #[.slice a n c, .int .i64 r, .int .i64 t], .slice sa sn sc, .string y]) (by simp [results, Try.results13, go_sem, Q0, Q1, Q2]) rfl ?_
    exact ⟨a, n, c, r, t, L, T, sa, sn, sc, sT, sl, y, rfl, HFR.out.1, fun q h => by have := HTL.out q h; omega, HIO.out, ⟨hn1, hn7⟩, HFR.out.2.1, fun q h => by have := hTs.out q h; omega, HY.out, HFR.out.2.2⟩
end Go.Proofs.Ytbkdkiodkcpbeaa
