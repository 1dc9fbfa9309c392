/- Whether a value is good: the program and the specification answer the same. -/
import Derived.Test.YtjbjgkkkkghcgaaGreatDoorAppP
import Derived.Test.YtjbjgkkkkghcgaaGreatDoorShape
namespace Go.Proofs.YtjbjgkkkkghcgaaGreatDoor
open Go.RowKit
set_option linter.unusedVariables false

/-- A good value. -/
def GoodV (N : Nat → Nd) (n : Nat) : Prop := ShapeOK N n ∧ (T N n 0).length ≤ 300

theorem content_bounds {x : Nd} (h : contentB x = true) : (1 ≤ x.kind ∧ x.kind ≤ 7) ∧ (-1000000000 ≤ x.num ∧ x.num ≤ 1000000000) ∧ x.text.size ≤ 24 := by
  have hp : ∀ t, plainB t = true → t.size ≤ 24 := fun t h => by
    unfold plainB at h
    simp only [Bool.and_eq_true, decide_eq_true_eq] at h
    exact h.1
  unfold contentB at h
  by_cases h4 : x.kind = 4
  · rw [if_pos h4] at h
    simp only [Bool.and_eq_true, decide_eq_true_eq] at h
    exact ⟨by omega, h.1, hp _ (plain_of_noText h.2)⟩
  · rw [if_neg h4] at h
    by_cases h5 : x.kind = 5
    · rw [if_pos h5] at h
      simp only [Bool.and_eq_true, decide_eq_true_eq] at h
      exact ⟨by omega, by omega, hp _ h.2⟩
    · rw [if_neg h5] at h
      by_cases hk : x.kind = 1 ∨ x.kind = 2 ∨ x.kind = 3 ∨ x.kind = 6 ∨ x.kind = 7
      · rw [if_pos hk] at h
        simp only [Bool.and_eq_true, decide_eq_true_eq] at h
        exact ⟨by omega, by omega, hp _ (plain_of_noText h.2)⟩
      · rw [if_neg hk] at h
        simp at h

theorem tok_of_shape {N : Nat → Nd} {n : Nat} (h : ∀ i, i < n → contentB (N i) = true ∧ PlaceOK N i) : TOK N n := by
  have hb := fun i hi => content_bounds (h i hi).1
  refine ⟨⟨pre_of_place fun i hi => (h i hi).2, fun i h0 hi => ?_, fun i hi => ?_, fun i hi => (hb i hi).2.2, fun i hi => ?_⟩, fun i hi => (hb i hi).1, fun i hi => (hb i hi).2.1⟩
  · rcases (h i hi).2 with ⟨e, _⟩ | ⟨_, _, _, _, hn⟩
    · omega
    · rcases hn with ⟨h, _⟩ | ⟨h, _⟩
      · exact .inl h
      · exact .inr h
  · have := (hb i hi).2.1
    have := Lib.itoa_length_le (N i).num (by omega) (by omega)
    omega
  · have := name_plain (h i hi).2
    unfold plainB at this
    simp only [Bool.and_eq_true, decide_eq_true_eq] at this
    exact this.1

theorem Tab.up {w W : World} (h : Tab w.heap.size w) (hb : Below w.heap.size w W) : Tab W.heap.size W := fun w' hw => h w' (hb.trans (hw.mono hb.size))

theorem OwnsB.conv {w : World} {B : Nat} {v : Value} {l : List UInt8} (h : OwnsB w B v l) : (convert 73 9 v).run Tryz.prog w = .ok (.string (strL l)) w := by
  have hcells := @World.ownsRow.cells _ _ _ _ _ _ _ h
  obtain ⟨_, h0 | ⟨g, cap, cur, hv, hg, hh, _⟩⟩ := h
  · obtain ⟨hv, hx⟩ := h0
    have hl : l = [] := by simpa [Lib.byteCells] using hx
    subst hl
    subst hv
    exact run_convert_bytes_nil w 73 5 Tryz.underlying73 Tryz.underlying5 _ _ 9 Tryz.underlying9
  · subst hv
    exact run_convert_bytes_back w 73 9 5 ⟨g, 0, none⟩ cap l Tryz.underlying73 Tryz.underlying5 Tryz.underlying9 (fun j hj => hcells (g := g) rfl j _ (by simp [Lib.byteCells, List.getElem?_eq_getElem hj]))

set_option maxHeartbeats 1000000 in
theorem tellNodes_any (b off c n : Nat) (N : Nat → Nd) (w : World) (hn : n ≤ 80) (h0 : 0 < n) (hb : b < w.heap.size) (hat : NodesAt w b off n N) (ht : TOK N n) (htab : Tab w.heap.size w) :
    Calls Tryz.prog 63 #[.slice (some ⟨b, off, none⟩) n c] w fun e w' => e = .returned (.string (strL (T N n 0))) ∧ Below w.heap.size w w' := by
  have H0 : Hid (OwnsB w w.heap.size (.slice none 0 0) []) := World.ownsRow_nil _ _ _ _
  have hnode := appendNode_any N n hn ht n 0 rfl h0
  have HN : Hid (NodeSaid N n 0) := hnode
  have HAT : Hid (NodesAt w b off n N) := hat
  have HTB : Hid (Tab w.heap.size w) := htab
  clear hnode hat htab ht
  go_enter Tryz.func63, Tryz.ntmps63
  go_wp2_with fail
  refine (HN.out w.heap.size b off c _ [] _ H0.out (Nat.le_refl _) hb HAT.out HTB.out (by simp; omega)).mono ?_
  rintro e w1 ⟨v1, en, rfl, ho1, he1, hb1⟩
  have hcv := ho1.conv
  simp only [List.nil_append] at hcv
  have HB1 : Hid (Below w.heap.size w w1) := hb1
  clear ho1 hb1 he1
  go_wp2
  go_ret
  exact ⟨rfl, HB1.out⟩

set_option maxRecDepth 100000 in
set_option maxHeartbeats 1000000 in
theorem specGood_some (b off c n : Nat) (N : Nat → Nd) (w : World) (hb : b < w.heap.size) (hat : NodesAt w b off n N) (hsm : SmallN n N) :
    Calls Tryz.prog 24 #[.agg #[.slice (some ⟨b, off, none⟩) n c]] w (BoolIs (GoodV N n) w) := by
  have HAT : Hid (NodesAt w b off n N) := hat
  have HSM : Hid (SmallN n N) := hsm
  clear hat hsm
  have hbl : ∀ o, Below w.heap.size w (w.alloc o) := fun o => (Below.refl _ _).alloc (Nat.le_refl _) o
  go_enter Tryz.func24, Tryz.ntmps24
  go_wp2_with fail
  refine (l1Shape_some b off c n N _ (by simp; omega) (HAT.out.below (hbl _) hb) HSM.out.1 HSM.out).mono ?_
  rintro e w1 ⟨q, rfl, hq, hb1⟩
  have hx : w1.cell? ⟨w.heap.size, 0, none⟩ = some (.slice (some ⟨b, off, none⟩) n c) := by rw [hb1.cell (by simp)]; simp [go_sem]
  have hb2 : Below w.heap.size w w1 := (hbl _).trans (hb1.mono (by simp))
  have z1 := hb1.size
  simp at z1
  have HB1 : Hid (Below w.heap.size w w1) := hb2
  cases q with
  | false =>
    have HN : Hid (¬ GoodV N n) := fun h => by have := hq.2 h.1; simp at this
    clear hb1 hb2 hq hbl
    go_wp2_with fail
    go_ret
    exact BoolIs.no HN.out HB1.out
  | true =>
    have hs : ShapeOK N n := hq.1 rfl
    have ht : TOK N n := tok_of_shape fun i hi => ⟨(hs.2.2 i hi).1, (hs.2.2 i hi).2.1⟩
    have HG : Hid (GoodV N n ↔ (T N n 0).length ≤ 300) := ⟨fun h => h.2, fun h => ⟨hs, h⟩⟩
    have HTX : Hid (TextSaid N n 0) := l1Text_any N n hs.2.1 ht n 0 rfl hs.1
    have HSZ : Hid ((strL (T N n 0)).size = (T N n 0).length) := strL_size _
    have HAR : Hid (ArgIs w1 (some ⟨b, off, none⟩) n N) := .inr ⟨b, off, rfl, by omega, HAT.out.below hb2 hb⟩
    clear hb1 hb2 hq hbl hs ht
    go_wp2_with fail
    refine (HTX.out _ _ _ HAR.out).mono ?_
    rintro e w2 ⟨rfl, hb3⟩
    have HB3 : Hid (Below w.heap.size w w2) := HB1.out.trans (hb3.mono HB1.out.size)
    clear hb3
    go_wp2
    go_ret
    refine BoolIs.of ?_ HB3.out
    rw [decide_eq_true_eq, HG.out, HSZ.out]
    omega

set_option maxRecDepth 100000 in
set_option maxHeartbeats 1000000 in
theorem specGood_none (a : Option Addr) (c : Nat) (N : Nat → Nd) (w : World) :
    Calls Tryz.prog 24 #[.agg #[.slice a 0 c]] w (BoolIs (GoodV N 0) w) := by
  have HN : Hid (¬ GoodV N 0) := fun h => by have := h.1.1; omega
  go_enter Tryz.func24, Tryz.ntmps24
  go_wp2_with fail
  refine (l1Shape_none a c N _).mono ?_
  rintro e w1 ⟨q, rfl, hq, hb1⟩
  cases q with
  | true => exact absurd (hq.1 rfl).1 (by omega)
  | false =>
    have HB1 : Hid (Below w.heap.size w w1) := (show Below w.heap.size w _ by go_grown).trans (hb1.mono (by simp))
    clear hb1 hq
    go_wp2_with fail
    go_ret
    exact BoolIs.no HN.out HB1.out

end Go.Proofs.YtjbjgkkkkghcgaaGreatDoor
