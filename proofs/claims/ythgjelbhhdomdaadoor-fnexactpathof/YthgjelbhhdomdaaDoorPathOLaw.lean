/- FnExactPathOf answers true at every text: PathOf answers as the specification, and its answer owns its memory. -/
import Derived.Test.YthgjelbhhdomdaaDoorPathS
import Derived.Test.YthgjelbhhdomdaaDoorStrsM
namespace Go.Proofs.YthgjelbhhdomdaaDoor
open Go.RowKit
set_option linter.unusedVariables false

theorem OwnS.form {w : World} {g : Nat} {v : Value} {n : Nat} {f : Nat → ByteArray} (h : OwnS w g v n f) : ∃ a c, v = .slice a n c := by
  obtain ⟨a, c, rfl, _⟩ := h
  exact ⟨a, c, rfl⟩
theorem OwnS.lt {w : World} {g : Nat} {v : Value} {n : Nat} {f : Nat → ByteArray} (h : OwnS w g v n f) (hn : n ≠ 0) : g < w.heap.size := by
  obtain ⟨a, c, rfl, _, h0 | ⟨_, hlt, _⟩⟩ := h
  · exact absurd h0 hn
  · exact hlt
theorem OwnS.but2 {w w' : World} {b g : Nat} {v : Value} {n : Nat} {f : Nat → ByteArray} (h : OwnS w g v n f) (hb : BelowBut w.heap.size b w w') (hne : n ≠ 0 → g ≠ b) : OwnS w' g v n f := by
  by_cases h0 : n = 0
  · obtain ⟨a, c, rfl, hn, _⟩ := h
    exact ⟨a, c, rfl, hn, .inl h0⟩
  · exact h.but hb (hne h0)

set_option maxHeartbeats 1000000 in
theorem specPathOf_any (s : ByteArray) (w : World) (hs : s.size ≤ 2 ^ 20) :
    Calls Tryd.prog 21 #[.string s] w (NamesIs s.data.toList w) := by
  have hl : s.data.toList.length ≤ 2 ^ 20 := by rw [Array.length_toList]; exact hs
  go_enter Tryd.func21, Tryd.ntmps21
  go_wp2_with fail
  refine (show Calls Tryd.prog 51 #[.string s] w (NamesIs s.data.toList w) from l3Path_any s.data.toList w hl).mono ?_
  rintro e w1 ⟨v, g, rfl, hg, ho, hb⟩
  obtain ⟨a, c, rfl⟩ := ho.form
  have HO : Hid (OwnS w1 g (.slice a (namesN s.data.toList) c) (namesN s.data.toList) (namesF s.data.toList)) := ho
  have HB : Hid (Below w.heap.size w w1) := hb
  have HG : Hid (w.heap.size ≤ g) := hg
  clear ho hb hg
  go_wp2
  exact bodyPost_ret (v := .tuple #[.slice a (namesN s.data.toList) c, .bool (namesL s.data.toList).isSome]) (by simp [results, Tryd.results21, go_sem]) rfl ⟨_, g, rfl, HG.out, HO.out, HB.out⟩

set_option maxRecDepth 100000 in
set_option maxHeartbeats 4000000 in
theorem pathOf_law (s : ByteArray) (w : World) (hz : s.size ≤ maxLen) (hml : ML w) :
    Calls Tryd.prog 6 #[.string s] w fun e w' => e = .returned (.bool true) ∧ Below w.heap.size w w' := by
  have HML : Hid (ML w) := hml
  clear hml
  unfold maxLen at hz
  by_cases h20 : 1048576 < s.size
  · go_enter Tryd.func6, Tryd.ntmps6
    go_wp2
    go_ret
    exact ⟨rfl, Below.refl _ _⟩
  have h20' : s.size ≤ 2 ^ 20 := by omega
  obtain ⟨m, hm⟩ : ∃ m, m = namesN s.data.toList := ⟨_, rfl⟩
  obtain ⟨f, hf⟩ : ∃ f, f = namesF s.data.toList := ⟨_, rfl⟩
  obtain ⟨q, hq⟩ : ∃ q, q = (namesL s.data.toList).isSome := ⟨_, rfl⟩
  have HSP : Hid (∀ W : World, Calls Tryd.prog 21 #[.string s] W fun e W' => ∃ v g, e = .returned (.tuple #[v, .bool q]) ∧ W.heap.size ≤ g ∧ OwnS W' g v m f ∧ Below W.heap.size W W') := fun W => by rw [hm, hf, hq]; exact specPathOf_any s W h20'
  have HIP : Hid (∀ W : World, ML W → Calls Tryd.prog 22 #[.string s] W fun e W' => ∃ v g, e = .returned (.tuple #[v, .bool q]) ∧ W.heap.size ≤ g ∧ OwnS W' g v m f ∧ Below W.heap.size W W') := fun W hW => by rw [hm, hf, hq]; exact implPathOf_any s W hW
  clear hm hf hq
  go_enter Tryd.func6, Tryd.ntmps6
  go_wp2_with fail
  refine (HSP.out _).mono ?_
  rintro e w1 ⟨v1, g1, rfl, hg1, ho1, hb1⟩
  obtain ⟨a1, c1, rfl⟩ := ho1.form
  have HB1 : Hid (Below w.heap.size w w1) := hb1
  have HK1 : Hid (OwnS w1 g1 (.slice a1 m c1) m f) := ho1
  have HL1 : Hid (m ≠ 0 → g1 < w1.heap.size) := fun h => ho1.lt h
  clear hb1 ho1
  go_wp2_with fail
  refine (HIP.out _ (HML.out.below HB1.out)).mono ?_
  rintro e w2 ⟨v2, g2, rfl, hg2, ho2, hb2⟩
  obtain ⟨a2, c2, rfl⟩ := ho2.form
  have HB2 : Hid (Below w.heap.size w w2) := HB1.out.trans (hb2.mono HB1.out.size)
  have HK2 : Hid (OwnS w2 g1 (.slice a1 m c1) m f) := HK1.out.below hb2
  have HG2 : Hid (OwnS w2 g2 (.slice a2 m c2) m f) := ho2
  have z1 := HB1.out.size
  clear hb2 ho2 HK1
  go_wp2_with fail
  refine (eqStringS_any _ _ g2 g1 m f _ HG2.out HK2.out).mono ?_
  rintro e w3 ⟨rfl, hb3⟩
  have HB3 : Hid (Below w.heap.size w w3) := HB2.out.trans (hb3.mono HB2.out.size)
  have HK3 : Hid (OwnS w3 g1 (.slice a1 m c1) m f) := HK2.out.below hb3
  have HG3 : Hid (OwnS w3 g2 (.slice a2 m c2) m f) := HG2.out.below hb3
  clear hb3 HK2 HG2
  go_wp2_with fail
  refine (markStringS_any _ g2 m f _ HG3.out).mono ?_
  rintro e w4 ⟨rfl, hb4, ho4⟩
  have HB4 : Hid (Below w.heap.size w w4) := HB3.out.trans (hb4.below HB3.out.size (by omega))
  have HK4 : Hid (OwnS w4 g1 (.slice a1 m c1) m f) := HK3.out.but2 hb4 (fun h => by have := HL1.out h; omega)
  have HG4 : Hid (OwnS w4 g2 (.slice a2 m c2) m (fun i => mtext (1 + i))) := ho4
  clear hb4 ho4 HK3 HG3
  go_wp2_with fail
  refine (heldStringS_any _ g2 m _ HG4.out).mono ?_
  rintro e w5 ⟨rfl, hb5⟩
  have HB5 : Hid (Below w.heap.size w w5) := HB4.out.trans (hb5.mono HB4.out.size)
  have HK5 : Hid (OwnS w5 g1 (.slice a1 m c1) m f) := HK4.out.below hb5
  have HG5 : Hid (OwnS w5 g2 (.slice a2 m c2) m (fun i => mtext (1 + i))) := HG4.out.below hb5
  clear hb5 HK4 HG4
  go_wp2_with fail
  refine (HIP.out _ (HML.out.below HB5.out)).mono ?_
  rintro e w6 ⟨v6, g6, rfl, hg6, ho6, hb6⟩
  obtain ⟨a6, c6, rfl⟩ := ho6.form
  have HB6 : Hid (Below w.heap.size w w6) := HB5.out.trans (hb6.mono HB5.out.size)
  have HK6 : Hid (OwnS w6 g1 (.slice a1 m c1) m f) := HK5.out.below hb6
  have HG6 : Hid (OwnS w6 g2 (.slice a2 m c2) m (fun i => mtext (1 + i))) := HG5.out.below hb6
  have HH6 : Hid (OwnS w6 g6 (.slice a6 m c6) m f) := ho6
  clear hb6 ho6 HK5 HG5
  go_wp2_with fail
  refine (eqStringS_any _ _ g6 g1 m f _ HH6.out HK6.out).mono ?_
  rintro e w7 ⟨rfl, hb7⟩
  have HB7 : Hid (Below w.heap.size w w7) := HB6.out.trans (hb7.mono HB6.out.size)
  have HG7 : Hid (OwnS w7 g2 (.slice a2 m c2) m (fun i => mtext (1 + i))) := HG6.out.below hb7
  clear hb7 HK6 HG6 HH6
  go_wp2_with fail
  refine (heldStringS_any _ g2 m _ HG7.out).mono ?_
  rintro e w8 ⟨rfl, hb8⟩
  have HB8 : Hid (Below w.heap.size w w8) := HB7.out.trans (hb8.mono HB7.out.size)
  clear hb8 HG7
  go_wp2
  go_ret
  exact ⟨rfl, HB8.out⟩

end Go.Proofs.YthgjelbhhdomdaaDoor
