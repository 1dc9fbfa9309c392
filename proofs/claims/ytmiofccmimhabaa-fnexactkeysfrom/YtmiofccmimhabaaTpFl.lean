/- FnExactKeysFrom answers true at every treap and keys: KeysFrom answers as the specification, writes into nothing, and its answer is its own. -/
import Derived.Test.YtmiofccmimhabaaTpFs
import Derived.Test.YtmiofccmimhabaaTpKs
import Derived.Test.YtmiofccmimhabaaTpMk
import Derived.Test.YtmiofccmimhabaaStrsM
namespace Go.Proofs.Ytmiofccmimhabaa
open Go.RowKit
set_option linter.unusedVariables false

theorem own_rowK {w : World} {B : Nat} {v : Value} {l : List ByteArray} (h : w.ownsRow B 9 1 v l.length (keyCells l)) (hl : l.length ≤ 2 ^ 30) : ∃ g, B ≤ g ∧ OwnS w g v l.length (fun j => l.getD j ⟨#[]⟩) := by
  have hlt := h.lt
  have hcells := @World.ownsRow.cells _ _ _ _ _ _ _ h
  obtain ⟨_, h0 | ⟨g, cap, cur, hv, hg, hh, _⟩⟩ := h
  · obtain ⟨hv, hx⟩ := h0
    refine ⟨B, Nat.le_refl _, none, 0, by rw [hx]; exact hv, hl, .inl hx⟩
  · refine ⟨g, hg, _, _, hv, hl, .inr ⟨rfl, (hlt g (by rw [hv]; rfl)).2, fun j hj => ⟨?_, ?_⟩⟩⟩
    · have := hcells (g := g) (by rw [hv]; rfl) j (.string (l.getD j ⟨#[]⟩)) (by simp [keyCells, List.getElem?_eq_getElem hj, List.getD_eq_getElem?_getD])
      rw [show ((⟨g, 0, none⟩ : Addr).add j) = ⟨g, j, none⟩ by unfold Addr.add; split <;> simp_all] at this
      exact this
    · simp [World.frozen?, hh]
theorem OwnS.formK {w : World} {g : Nat} {v : Value} {n : Nat} {f : Nat → ByteArray} (h : OwnS w g v n f) : ∃ a c, v = .slice a n c := by
  obtain ⟨a, c, rfl, _⟩ := h
  exact ⟨a, c, rfl⟩
theorem OwnS.ltK {w : World} {g : Nat} {v : Value} {n : Nat} {f : Nat → ByteArray} (h : OwnS w g v n f) (hn : n ≠ 0) : g < w.heap.size := by
  obtain ⟨a, c, rfl, _, h0 | ⟨_, hlt, _⟩⟩ := h
  · exact absurd h0 hn
  · exact hlt
theorem OwnS.but2K {w w' : World} {b g : Nat} {v : Value} {n : Nat} {f : Nat → ByteArray} (h : OwnS w g v n f) (hb : BelowBut w.heap.size b w w') (hne : n ≠ 0 → g ≠ b) : OwnS w' g v n f := by
  by_cases h0 : n = 0
  · obtain ⟨a, c, rfl, hn, _⟩ := h
    exact ⟨a, c, rfl, hn, .inl h0⟩
  · exact h.but hb (hne h0)

set_option maxRecDepth 100000 in
set_option maxHeartbeats 4000000 in
theorem keysFrom_law (a : Option Addr) (c n : Nat) (N : Nat → Lb) (lo hi : ByteArray) (w : World) (hn : n ≤ maxLen) (h : ArgR w a n N) (hz : ∀ i, i < n → (N i).key.size ≤ maxLen ∧ (N i).val.size ≤ maxLen) (hlo : lo.size ≤ maxLen) (hhi : hi.size ≤ maxLen) :
    Calls Try.prog 8 #[.agg #[.slice a n c], .string lo, .string hi] w fun e w' => e = .returned (.bool true) ∧ Below w.heap.size w w' := by
  have HZ : Hid (∀ i, i < n → (N i).key.size ≤ maxLen ∧ (N i).val.size ≤ maxLen) := hz
  have H : Hid (ArgR w a n N) := h
  clear hz h
  unfold maxLen at hlo hhi
  by_cases hk20 : lo.size ≤ 1048576
  case neg =>
    have hk' : (1048576 : Int) < (lo.size : Int) := by omega
    go_enter Try.func8, Try.ntmps8
    go_wp2_with fail
    go_ret
    exact ⟨rfl, by go_grown⟩
  have hk' : ¬ (1048576 : Int) < (lo.size : Int) := by omega
  by_cases hv20 : hi.size ≤ 1048576
  case neg =>
    have hv' : (1048576 : Int) < (hi.size : Int) := by omega
    go_enter Try.func8, Try.ntmps8
    go_wp2_with fail
    go_ret
    exact ⟨rfl, by go_grown⟩
  have hv' : ¬ (1048576 : Int) < (hi.size : Int) := by omega
  go_enter Try.func8, Try.ntmps8
  go_wp2_with fail
  have hbl0 : ∀ o, Below w.heap.size w (w.alloc o) := fun o => (Below.refl _ _).alloc (Nat.le_refl _) o
  refine (szTreap_any a c n N _ hn (H.out.below (hbl0 _)) HZ.out).mono ?_
  rintro e w1 ⟨r, rfl, hr, hb1⟩
  have x1 : w1.cell? ⟨w.heap.size, 0, none⟩ = some (.slice a n c) := by rw [hb1.cell (by simp)]; simp [go_sem]
  have HB1 : Hid (Below w.heap.size w w1) := (hbl0 _).trans (hb1.mono (by simp))
  have z1 : w.heap.size < w1.heap.size := by have := hb1.size; simp at this; omega
  clear hb1 hbl0
  rcases hr with rfl | ⟨r0, hsm⟩
  · go_wp2
    go_ret
    exact ⟨rfl, HB1.out⟩
  have HSM : Hid (SmallR n N) := hsm
  have n20 : n ≤ 2 ^ 20 := hsm.1
  have r1 : ¬ r < 0 := by omega
  clear hsm
  go_wp2_with fail
  refine (toTreap_any a c n N _ n20 (H.out.below HB1.out)).mono ?_
  rintro e w2 ⟨b2, a2, c2, rfl, l2, m2, ho2, hb2⟩
  have x2 : w2.cell? ⟨w.heap.size, 0, none⟩ = some (.slice a n c) := (hb2.cell z1).trans x1
  have HB2 : Hid (Below w.heap.size w w2) := HB1.out.trans (hb2.mono HB1.out.size)
  have z2 : w.heap.size < w2.heap.size := by have := hb2.size; omega
  have HO2 : Hid (OwnR w2 b2 (.slice a2 n c2) n N) := ho2
  clear ho2 hb2 l2 m2
  go_wp2_with fail
  refine (specKeys_any n c2 a2 N lo hi _ HO2.out.row HSM.out).mono ?_
  rintro e w3 ⟨v3, q, L, rfl, hq, hrow3, hb3⟩
  have HQ : Hid (KfTold (lbs n N) lo hi q L) := hq
  obtain ⟨g3, hg3, ho3⟩ := own_rowK hrow3 (by have := hq.len; omega)
  have x3 : w3.cell? ⟨w.heap.size, 0, none⟩ = some (.slice a n c) := (hb3.cell z2).trans x2
  have HB3 : Hid (Below w.heap.size w w3) := HB2.out.trans (hb3.mono HB2.out.size)
  have z3 : w.heap.size < w3.heap.size := by have := hb3.size; omega
  obtain ⟨m, hm⟩ : ∃ m, m = L.length := ⟨_, rfl⟩
  obtain ⟨f, hf⟩ : ∃ f : Nat → ByteArray, f = fun j => L.getD j ⟨#[]⟩ := ⟨_, rfl⟩
  have HIP : Hid (∀ (W : World) (aa : Option Addr) (cc : Nat), RowIs W W.heap.size (.slice aa n cc) n N → Calls Try.prog 27 #[.agg #[.slice aa n cc], .string lo, .string hi] W fun e W' => ∃ v g, e = .returned (.tuple #[v, .bool q]) ∧ W.heap.size ≤ g ∧ OwnS W' g v m f ∧ Below W.heap.size W W') := fun W aa cc hr => by
    refine (implKeys_any n cc aa N lo hi W hr HSM.out (by omega) (by omega)).mono ?_
    rintro e W' ⟨v, q', L', rfl, hq', hrow', hb'⟩
    obtain ⟨rfl, rfl⟩ := hq'.same HQ.out
    obtain ⟨g, hg, ho⟩ := own_rowK hrow' (by have := hq'.len; omega)
    exact ⟨v, g, rfl, hg, by rw [hm, hf]; exact ho, hb'⟩
  rw [← hm, ← hf] at ho3
  obtain ⟨a3, c3, rfl⟩ := ho3.formK
  have hm60 : m ≤ 60 := by rw [hm]; exact hq.len
  have HK3 : Hid (OwnS w3 g3 (.slice a3 m c3) m f) := ho3
  have HL3 : Hid (m ≠ 0 → g3 < w3.heap.size) := fun h => ho3.ltK h
  clear hb3 hq HO2 hm hf hrow3 ho3 hg3 HQ
  go_wp2_with fail
  refine (toTreap_any a c n N _ n20 (H.out.below HB3.out)).mono ?_
  rintro e w4 ⟨b4, a4, c4, rfl, l4, m4, ho4, hb4⟩
  have x4 : w4.cell? ⟨w.heap.size, 0, none⟩ = some (.slice a n c) := (hb4.cell z3).trans x3
  have HB4 : Hid (Below w.heap.size w w4) := HB3.out.trans (hb4.mono HB3.out.size)
  have z34 := hb4.size
  have z4 : w.heap.size < w4.heap.size := by omega
  have HO4 : Hid (OwnR w4 b4 (.slice a4 n c4) n N) := ho4
  have HK4 : Hid (OwnS w4 g3 (.slice a3 m c3) m f) := HK3.out.below hb4
  clear ho4 hb4 HK3
  go_wp2_with fail
  have hal : ∀ o, Below w4.heap.size w4 (w4.alloc o) := fun o => (Below.refl _ _).alloc (Nat.le_refl _) o
  refine (HIP.out _ a4 c4 (HO4.out.below (hal _)).row).mono ?_
  rintro e w5 ⟨v5, g5, rfl, hg5, ho5, hb5⟩
  obtain ⟨a5, c5, rfl⟩ := ho5.formK
  have x5 : w5.cell? ⟨w.heap.size, 0, none⟩ = some (.slice a n c) := by rw [hb5.cell (by simp; omega)]; simp [World.cell?_alloc_past, z4, x4]
  have y5 : w5.cell? ⟨w4.heap.size, 0, none⟩ = some (.slice a4 n c4) := by rw [hb5.cell (by simp)]; simp [World.cell?_alloc_new]
  have hbb : Below w4.heap.size w4 w5 := (hal _).trans (hb5.mono (by simp))
  have HB5 : Hid (Below w.heap.size w w5) := HB4.out.trans (hbb.mono HB4.out.size)
  have z5 : w4.heap.size < w5.heap.size := by have := hb5.size; simp at this; omega
  have z5' : w.heap.size < w5.heap.size := by omega
  have HO5 : Hid (OwnR w5 b4 (.slice a4 n c4) n N) := HO4.out.below hbb
  have HK5 : Hid (OwnS w5 g3 (.slice a3 m c3) m f) := HK4.out.below hbb
  have HG5 : Hid (OwnS w5 g5 (.slice a5 m c5) m f) := ho5
  have hg5' : w4.heap.size < g5 := by simp at hg5; omega
  clear hb5 hbb hal HO4 HK4 ho5 hg5
  go_wp2_with fail
  refine (eqStringS_any _ _ g5 g3 m f _ HG5.out HK5.out).mono ?_
  rintro e w6 ⟨rfl, hb6⟩
  have z56 := hb6.size
  have x6 : w6.cell? ⟨w.heap.size, 0, none⟩ = some (.slice a n c) := (hb6.cell z5').trans x5
  have y6 : w6.cell? ⟨w4.heap.size, 0, none⟩ = some (.slice a4 n c4) := (hb6.cell z5).trans y5
  have z6 : w4.heap.size < w6.heap.size := by omega
  have z6' : w.heap.size < w6.heap.size := by omega
  have HB6 : Hid (Below w.heap.size w w6) := HB5.out.trans (hb6.mono HB5.out.size)
  have HO6 : Hid (OwnR w6 b4 (.slice a4 n c4) n N) := HO5.out.below hb6
  have HK6 : Hid (OwnS w6 g3 (.slice a3 m c3) m f) := HK5.out.below hb6
  have HG6 : Hid (OwnS w6 g5 (.slice a5 m c5) m f) := HG5.out.below hb6
  clear hb6 HO5 HK5 HG5 x5 y5
  go_wp2_with fail
  go_region_held3 (fun w' => w'.cell? ⟨w.heap.size, 0, none⟩ = some (.slice a n c) ∧ w'.cell? ⟨w4.heap.size, 0, none⟩ = some (.slice a4 n c4)) (first | exact ⟨x6, y6⟩ | exact ⟨(hc8 _ _ (Nat.lt_of_lt_of_le z6' zz7)).trans ((hc7 _ _ z6').trans x6), (hc8 _ _ (Nat.lt_of_lt_of_le z6 zz7)).trans ((hc7 _ _ z6).trans y6)⟩ | exact ⟨(hc7 _ _ z6').trans x6, (hc7 _ _ z6).trans y6⟩)
    (first | (go_at_call 15; refine (toTreap_any a c n N _ n20 (H.out.below (HB6.out.drew))).mono ?_; rintro e w7 ⟨b7, a7, c7, rfl, l7, m7, ho7, hb7⟩; obtain ⟨hc7, hf7⟩ := bcell hb7; have zz7 := hb7.size) | (go_at_call 17; refine (eqTreap_any _ _ n N _ ((HO6.out.below ((Below.drew (Below.refl w6.heap.size w6)).trans (hb7.mono (Nat.le_refl w6.heap.size)))).row) ho7.row).mono ?_; rintro e w8 ⟨rfl, hb8⟩; obtain ⟨hc8, hf8⟩ := bcell hb8))
  have B68 : Below w6.heap.size w6 w8 := ((Below.drew (Below.refl w6.heap.size w6)).trans (hb7.mono (Nat.le_refl w6.heap.size))).trans (hb8.mono zz7)
  have x8 : w8.cell? ⟨w.heap.size, 0, none⟩ = some (.slice a n c) := (B68.cell z6').trans x6
  have y8 : w8.cell? ⟨w4.heap.size, 0, none⟩ = some (.slice a4 n c4) := (B68.cell z6).trans y6
  have z68 := B68.size
  have HB8 : Hid (Below w.heap.size w w8) := HB6.out.trans (B68.mono HB6.out.size)
  have HO8 : Hid (OwnR w8 b4 (.slice a4 n c4) n N) := HO6.out.below B68
  have HK8 : Hid (OwnS w8 g3 (.slice a3 m c3) m f) := HK6.out.below B68
  have HG8 : Hid (OwnS w8 g5 (.slice a5 m c5) m f) := HG6.out.below B68
  clear hb7 hb8 hc7 hf7 hc8 hf8 zz7 B68 ho7 HO6 HK6 HG6 x6 y6 l7 m7
  go_wp2_with fail
  refine (markTreap_any _ b4 n N 1 _ (by omega) (by omega) (by omega) HO8.out).mono ?_
  rintro e w9 ⟨rfl, hb9, ho9⟩
  have z89 := hb9.size
  have x9 : w9.cell? ⟨w.heap.size, 0, none⟩ = some (.slice a n c) := (hb9.cell (by omega) (by omega)).trans x8
  have HB9 : Hid (Below w.heap.size w w9) := HB8.out.trans (hb9.below HB8.out.size (by omega))
  have HK9 : Hid (OwnS w9 g3 (.slice a3 m c3) m f) := HK8.out.but2K hb9 (fun h => by have := HL3.out h; omega)
  have HG9 : Hid (OwnS w9 g5 (.slice a5 m c5) m f) := HG8.out.but2K hb9 (fun h => by omega)
  clear hb9 ho9 HO8 HK8 HG8 x8 y8
  go_wp2_with fail
  refine (eqStringS_any _ _ g5 g3 m f _ HG9.out HK9.out).mono ?_
  rintro e w10 ⟨rfl, hb10⟩
  have z910 := hb10.size
  have x10 : w10.cell? ⟨w.heap.size, 0, none⟩ = some (.slice a n c) := (hb10.cell (by show w.heap.size < _; omega)).trans x9
  have HB10 : Hid (Below w.heap.size w w10) := HB9.out.trans (hb10.mono HB9.out.size)
  have HK10 : Hid (OwnS w10 g3 (.slice a3 m c3) m f) := HK9.out.below hb10
  have HG10 : Hid (OwnS w10 g5 (.slice a5 m c5) m f) := HG9.out.below hb10
  clear hb10 HK9 HG9 x9
  go_wp2_with fail
  refine (markStringS_any _ g5 m f _ HG10.out).mono ?_
  rintro e w11 ⟨rfl, hb11, ho11⟩
  have z1011 := hb11.size
  have x11 : w11.cell? ⟨w.heap.size, 0, none⟩ = some (.slice a n c) := (hb11.cell (by omega) (by omega)).trans x10
  have HB11 : Hid (Below w.heap.size w w11) := HB10.out.trans (hb11.below HB10.out.size (by omega))
  have HK11 : Hid (OwnS w11 g3 (.slice a3 m c3) m f) := HK10.out.but2K hb11 (fun h => by have := HL3.out h; omega)
  have HG11 : Hid (OwnS w11 g5 (.slice a5 m c5) m (fun i => mtext (1 + i))) := ho11
  clear hb11 ho11 HK10 HG10 x10
  go_wp2_with fail
  refine (heldStringS_any _ g5 m _ HG11.out).mono ?_
  rintro e w12 ⟨rfl, hb12⟩
  have z1112 := hb12.size
  have x12 : w12.cell? ⟨w.heap.size, 0, none⟩ = some (.slice a n c) := (hb12.cell (by show w.heap.size < _; omega)).trans x11
  have HB12 : Hid (Below w.heap.size w w12) := HB11.out.trans (hb12.mono HB11.out.size)
  have HK12 : Hid (OwnS w12 g3 (.slice a3 m c3) m f) := HK11.out.below hb12
  have HG12 : Hid (OwnS w12 g5 (.slice a5 m c5) m (fun i => mtext (1 + i))) := HG11.out.below hb12
  clear hb12 HK11 HG11 x11
  go_wp2_with fail
  refine (toTreap_any a c n N _ n20 (H.out.below HB12.out)).mono ?_
  rintro e w13 ⟨b13, a13, c13, rfl, l13, m13, ho13, hb13⟩
  have z1213 := hb13.size
  have HB13 : Hid (Below w.heap.size w w13) := HB12.out.trans (hb13.mono HB12.out.size)
  have HO13 : Hid (OwnR w13 b13 (.slice a13 n c13) n N) := ho13
  have HK13 : Hid (OwnS w13 g3 (.slice a3 m c3) m f) := HK12.out.below hb13
  have HG13 : Hid (OwnS w13 g5 (.slice a5 m c5) m (fun i => mtext (1 + i))) := HG12.out.below hb13
  clear hb13 ho13 HK12 HG12 x12 l13 m13
  go_wp2_with fail
  refine (HIP.out _ a13 c13 HO13.out.row).mono ?_
  rintro e w14 ⟨v14, g14, rfl, hg14, ho14, hb14⟩
  obtain ⟨a14, c14, rfl⟩ := ho14.formK
  have HB14 : Hid (Below w.heap.size w w14) := HB13.out.trans (hb14.mono HB13.out.size)
  have HK14 : Hid (OwnS w14 g3 (.slice a3 m c3) m f) := HK13.out.below hb14
  have HG14 : Hid (OwnS w14 g5 (.slice a5 m c5) m (fun i => mtext (1 + i))) := HG13.out.below hb14
  have HH14 : Hid (OwnS w14 g14 (.slice a14 m c14) m f) := ho14
  clear hb14 ho14 HK13 HG13 hg14 HO13
  go_wp2_with fail
  refine (eqStringS_any _ _ g14 g3 m f _ HH14.out HK14.out).mono ?_
  rintro e w15 ⟨rfl, hb15⟩
  have HB15 : Hid (Below w.heap.size w w15) := HB14.out.trans (hb15.mono HB14.out.size)
  have HG15 : Hid (OwnS w15 g5 (.slice a5 m c5) m (fun i => mtext (1 + i))) := HG14.out.below hb15
  clear hb15 HK14 HG14 HH14
  go_wp2_with fail
  refine (heldStringS_any _ g5 m _ HG15.out).mono ?_
  rintro e w16 ⟨rfl, hb16⟩
  have HB16 : Hid (Below w.heap.size w w16) := HB15.out.trans (hb16.mono HB15.out.size)
  clear hb16 HG15
  go_wp2
  go_ret
  exact ⟨rfl, HB16.out⟩

end Go.Proofs.Ytmiofccmimhabaa
