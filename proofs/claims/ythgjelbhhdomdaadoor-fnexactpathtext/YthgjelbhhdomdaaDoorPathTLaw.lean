/- FnExactPathText answers true at every list of texts: PathText answers as the specification and writes into nothing. -/
import Derived.Test.YthgjelbhhdomdaaDoorPathTO
import Derived.Test.YthgjelbhhdomdaaDoorStrsTo
namespace Go.Proofs.YthgjelbhhdomdaaDoor
open Go.RowKit
set_option linter.unusedVariables false

set_option maxRecDepth 100000 in
set_option maxHeartbeats 2000000 in
theorem pathText_law (a : Option Addr) (c n : Nat) (f : Nat → ByteArray) (w : World) (hn : n ≤ maxLen) (h : ArgS w a n f) (hz : ∀ i, i < n → (f i).size ≤ maxLen) (hml : ML w) :
    Calls Tryd.prog 7 #[.slice a n c] w fun e w' => e = .returned (.bool true) ∧ Below w.heap.size w w' := by
  have HZ : Hid (∀ i, i < n → (f i).size ≤ maxLen) := hz
  have H : Hid (ArgS w a n f) := h
  have HML : Hid (ML w) := hml
  clear hz h hml
  go_enter Tryd.func7, Tryd.ntmps7
  go_wp2_with fail
  refine (szStringS_any a c n f _ hn H.out HZ.out).mono ?_
  rintro e w1 ⟨r, rfl, hr, hb1⟩
  have HB1 : Hid (Below w.heap.size w w1) := hb1
  clear hb1
  rcases hr with rfl | ⟨r0, hsm⟩
  · go_wp2
    go_ret
    exact ⟨rfl, HB1.out⟩
  have HSM : Hid (SmallS n f) := hsm
  have n20 : n ≤ 2 ^ 20 := hsm.1
  have r1 : ¬ r < 0 := by omega
  clear hsm
  go_wp2_with fail
  refine (toStringS_any a c n f _ n20 (H.out.below HB1.out)).mono ?_
  rintro e w2 ⟨v2, rfl, ho2, m2, hb2⟩
  obtain ⟨a2, c2, rfl, -, -⟩ := id ho2
  have HB2 : Hid (Below w.heap.size w w2) := HB1.out.trans (hb2.mono HB1.out.size)
  have HO2 : Hid (ArgS w2 a2 n f) := ho2.arg
  clear ho2 hb2 m2
  go_wp2_with fail
  refine (specPathText_any a2 c2 n f _ HO2.out HSM.out).mono ?_
  rintro e w3 ⟨s, q, rfl, hq, hb3⟩
  have HQ : Hid (TxTold f n s q) := hq
  have HB3 : Hid (Below w.heap.size w w3) := HB2.out.trans (hb3.mono HB2.out.size)
  clear hb3 hq HO2
  go_wp2_with fail
  refine (toStringS_any a c n f _ n20 (H.out.below HB3.out)).mono ?_
  rintro e w4 ⟨v4, rfl, ho4, m4, hb4⟩
  obtain ⟨a4, c4, rfl, -, -⟩ := id ho4
  have HB4 : Hid (Below w.heap.size w w4) := HB3.out.trans (hb4.mono HB3.out.size)
  have HO4 : Hid (OwnS w4 w3.heap.size (.slice a4 n c4) n f) := ho4
  clear ho4 hb4 m4
  go_wp2_with fail
  refine (implPathText_any a4 c4 n f _ HO4.out.arg HSM.out (HML.out.below HB4.out)).mono ?_
  rintro e w5 ⟨s', g, rfl, hg, hb5⟩
  obtain ⟨hss, hgq⟩ : s' = s ∧ g = q := hg.same HQ.out
  subst hss hgq
  have HB5 : Hid (Below w.heap.size w w5) := HB4.out.trans (hb5.mono HB4.out.size)
  have HO5 : Hid (OwnS w5 w3.heap.size (.slice a4 n c4) n f) := HO4.out.below hb5
  clear hb5 hg HO4
  go_wp2_with fail
  refine (toStringS_any a c n f _ n20 (H.out.below HB5.out)).mono ?_
  rintro e w6 ⟨v6, rfl, ho6, m6, hb6⟩
  obtain ⟨a6, c6, rfl, -, -⟩ := id ho6
  have HB6 : Hid (Below w.heap.size w w6) := HB5.out.trans (hb6.mono HB5.out.size)
  have HO6 : Hid (OwnS w6 w5.heap.size (.slice a6 n c6) n f) := ho6
  have HO56 : Hid (OwnS w6 w3.heap.size (.slice a4 n c4) n f) := HO5.out.below hb6
  clear ho6 hb6 m6
  go_wp2_with fail
  refine (eqStringS_any _ _ _ _ n f _ HO56.out HO6.out).mono ?_
  rintro e w7 ⟨rfl, hb7⟩
  have HB7 : Hid (Below w.heap.size w w7) := HB6.out.trans (hb7.mono HB6.out.size)
  clear hb7
  go_wp2
  go_ret
  exact ⟨rfl, HB7.out⟩

end Go.Proofs.YthgjelbhhdomdaaDoor
