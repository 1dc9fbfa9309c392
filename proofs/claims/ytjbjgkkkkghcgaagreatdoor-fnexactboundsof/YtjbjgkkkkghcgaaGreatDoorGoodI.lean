/- Whether a value is good: the program's answer. -/
import Derived.Test.YtjbjgkkkkghcgaaGreatDoorGood
namespace Go.Proofs.YtjbjgkkkkghcgaaGreatDoor
open Go.RowKit
set_option linter.unusedVariables false

theorem goodContent_is (x : Nd) (v : Bool) (w : World) (ht : x.text.size ≤ 2 ^ 40) (h : contentB x = v) :
    Calls Tryz.prog 60 #[.agg #[.int .i64 x.kind, .int .i64 x.num, .string x.text, .string x.name, .int .i64 x.up]] w fun e w' => e = .returned (.bool v) ∧ Below w.heap.size w w' := by
  subst h
  exact goodContent_any x w ht

theorem not_content {N : Nat → Nd} {n i : Nat} (hi : i < n) (h : contentB (N i) = false) : ¬ GoodV N n := fun ⟨⟨_, _, hs⟩, _⟩ => by
  rw [(hs i hi).1] at h
  simp at h
theorem not_place {N : Nat → Nd} {n i : Nat} (hi : i < n) (h : ¬ PlaceOK N i) : ¬ GoodV N n := fun ⟨⟨_, _, hs⟩, _⟩ => h (hs i hi).2.1

set_option maxRecDepth 100000 in
set_option maxHeartbeats 4000000 in
theorem implGood_some (b off c n : Nat) (N : Nat → Nd) (w : World) (hb : b < w.heap.size) (hat : NodesAt w b off n N) (hsm : SmallN n N) (htab : Tab w.heap.size w) (h0 : 0 < n) :
    Calls Tryz.prog 45 #[.agg #[.slice (some ⟨b, off, none⟩) n c]] w (BoolIs (GoodV N n) w) := by
  have n0 : ((n : Int) == 0) = false := by simp; omega
  by_cases hn : n ≤ 80
  · have HAT : Hid (NodesAt w b off n N) := hat
    have HSM : Hid (SmallN n N) := hsm
    have HTB : Hid (Tab w.heap.size w) := htab
    have n1 : decide ((80 : Int) < (n : Int)) = false := decide_eq_false (by omega)
    clear hat hsm htab
    go_enter Tryz.func45, Tryz.ntmps45
    go_wp2_with fail
    go_loopw [18] (fun i wr => ∃ k : Nat, k ≤ n ∧ i = .int .i64 k ∧ Hid (∀ j, j < k → contentB (N j) = true ∧ PlaceOK N j) ∧ Below (w.heap.size + 1) (w.alloc (.cells #[.slice (some ⟨b, off, none⟩) n c] 60)) wr) (fun i _ => n - (intOf i).toNat)
    case atStart => exact ⟨0, Nat.zero_le _, rfl, fun j hj => by omega, Below.refl _ _⟩
    case round =>
      obtain ⟨k, hk, rfl, HJ, hnx⟩ := hrel
      have hbx : wr.cell? ⟨w.heap.size, 0, none⟩ = some (.slice (some ⟨b, off, none⟩) n c) := by rw [hnx.cell (by show w.heap.size < _; omega)]; simp [go_sem]
      have hz : w.heap.size + 1 ≤ wr.heap.size := by have := hnx.size; simpa using this
      have hww : w.heap.size < wr.heap.size := by omega
      have HB : Hid (Below w.heap.size w wr) := (show Below w.heap.size w _ by go_grown).trans (hnx.mono (by omega))
      have hbw : b < wr.heap.size := by omega
      have HATr : Hid (NodesAt wr b off n N) := HAT.out.below HB.out hb
      by_cases hlt : k < n
      · obtain ⟨a0, a1, a2, a3, a4⟩ := HATr.out k hlt
        have i0 : (0 : Int) ≤ (k : Int) := by omega
        have i1 : (k : Int) < (n : Int) := by omega
        have ts := HSM.out.2 k hlt
        cases hc : contentB (N k) with
        | false =>
          as_aux_lemma =>
          have HC : Hid (contentB (N k) = false) := hc
          have HN : Hid (¬ GoodV N n) := not_content hlt hc
          clear hc
          go_wp2_with fail
          refine (goodContent_is (N k) false _ (by omega) HC.out).mono ?_
          rintro e w1 ⟨rfl, hb1⟩
          have HB1 : Hid (Below w.heap.size w w1) := (HB.out.alloc HB.out.size _).trans (hb1.mono (by simp; omega))
          clear hb1
          go_wp2_with fail
          go_ret
          exact BoolIs.no HN.out HB1.out
        | true =>
          as_aux_lemma =>
          have HC : Hid (contentB (N k) = true) := hc
          clear hc
          go_wp2_with fail
          refine (goodContent_is (N k) true _ (by omega) HC.out).mono ?_
          rintro e w1 ⟨rfl, hb1⟩
          have hx1 : w1.cell? ⟨w.heap.size, 0, none⟩ = some (.slice (some ⟨b, off, none⟩) n c) := by rw [hb1.cell (by simp; omega)]; simp [World.cell?_alloc_past, hww, hbx]
          have hnx1 : Below (w.heap.size + 1) (w.alloc (.cells #[.slice (some ⟨b, off, none⟩) n c] 60)) w1 := (hnx.alloc hz _).trans (hb1.mono (by simp; omega))
          have z1 := hb1.size
          simp at z1
          have hn1 : NodesAt w1 b off n N := HAT.out.below ((HB.out.alloc HB.out.size _).trans (hb1.mono (by simp; omega))) hb
          have HX1 : Hid (Below (w.heap.size + 1) (w.alloc (.cells #[.slice (some ⟨b, off, none⟩) n c] 60)) w1) := hnx1
          have HN1 : Hid (NodesAt w1 b off n N) := hn1
          clear hb1 hnx1 hn1 a0 a1 a2 a3 a4
          go_wp2_with fail
          refine (goodPlace_any b off c n k N _ (by omega) HN1.out hlt (by omega) (fun j hj => (HJ.out j hj).2) (by omega)).mono ?_
          rintro e w2 ⟨q, rfl, hq, hb2⟩
          have HX2 : Hid (Below (w.heap.size + 1) (w.alloc (.cells #[.slice (some ⟨b, off, none⟩) n c] 60)) w2) := HX1.out.trans (hb2.mono (by omega))
          cases q with
          | false =>
            have HN : Hid (¬ GoodV N n) := not_place hlt (fun h => by have := hq.2 h; simp at this)
            clear hb2 hq
            go_wp2_with fail
            go_ret
            exact BoolIs.no HN.out ((show Below w.heap.size w _ by go_grown).trans (HX2.out.mono (by omega)))
          | true =>
            have HJ2 : Hid (∀ j, j < k + 1 → contentB (N j) = true ∧ PlaceOK N j) := fun j hj => by
              by_cases e : j = k
              · subst e; exact ⟨HC.out, hq.1 rfl⟩
              · exact HJ.out j (by omega)
            clear hb2 hq
            go_wp2_with fail
            go_roundw
            case rel => exact ⟨k + 1, by omega, by go_num, HJ2, HX2.out⟩
            case measure => simp [intOf]; omega
      · obtain rfl : k = n := by omega
        have ht : TOK N k := tok_of_shape HJ.out
        have HT : Hid (TOK N k) := ht
        clear ht hnx
        go_wp2_with fail
        refine (deepest_any b off c k N _ hbw HATr.out hn HT.out.tb.pre).mono ?_
        rintro e w1 ⟨rfl, hb1⟩
        have hx1 : w1.cell? ⟨w.heap.size, 0, none⟩ = some (.slice (some ⟨b, off, none⟩) k c) := by rw [hb1.cell (by show w.heap.size < _; omega)]; exact hbx
        have hb1' : Below w.heap.size w w1 := HB.out.trans (hb1.mono HB.out.size)
        have z1 := hb1.size
        have HB1 : Hid (Below w.heap.size w w1) := hb1'
        have HN1 : Hid (NodesAt w1 b off k N) := HAT.out.below hb1' hb
        clear hb1 hb1'
        by_cases hd : deepTo N k ≤ 6
        · have hdI : decide (((deepTo N k : Nat) : Int) ≤ 6) = true := decide_eq_true (by omega)
          have hs : ShapeOK N k := ⟨h0, hn, fun j hj => ⟨(HJ.out j hj).1, (HJ.out j hj).2, (deepTo_le N 6 k).1 hd j hj⟩⟩
          have HG : Hid (GoodV N k ↔ (T N k 0).length ≤ 300) := ⟨fun h => h.2, fun h => ⟨hs, h⟩⟩
          have HSZ : Hid ((strL (T N k 0)).size = (T N k 0).length) := strL_size _
          clear hs
          go_wp2_with fail
          refine (tellNodes_any b off c k N _ hn h0 (by omega) HN1.out HT.out (HTB.out.up HB1.out)).mono ?_
          rintro e w2 ⟨rfl, hb2⟩
          have HB2 : Hid (Below w.heap.size w w2) := HB1.out.trans (hb2.mono HB1.out.size)
          clear hb2
          go_wp2
          go_ret
          refine BoolIs.of ?_ HB2.out
          rw [decide_eq_true_eq, HG.out, HSZ.out]
          omega
        · have hdI : decide (((deepTo N k : Nat) : Int) ≤ 6) = false := decide_eq_false (by omega)
          have HN : Hid (¬ GoodV N k) := fun h => hd ((deepTo_le N 6 k).2 fun j hj => (h.1.2.2 j hj).2.2)
          go_wp2_with fail
          go_ret
          exact BoolIs.no HN.out HB1.out
  · have n1 : (80 : Int) < (n : Int) := by omega
    have HN : Hid (¬ GoodV N n) := fun h => hn h.1.2.1
    clear hat hsm htab hn
    go_enter Tryz.func45, Tryz.ntmps45
    go_wp2_with fail
    go_ret
    exact BoolIs.no HN.out (by go_grown)

set_option maxHeartbeats 1000000 in
theorem implGood_none (a : Option Addr) (c : Nat) (N : Nat → Nd) (w : World) :
    Calls Tryz.prog 45 #[.agg #[.slice a 0 c]] w (BoolIs (GoodV N 0) w) := by
  have HN : Hid (¬ GoodV N 0) := fun h => by have := h.1.1; omega
  go_enter Tryz.func45, Tryz.ntmps45
  go_wp2_with fail
  go_ret
  exact BoolIs.no HN.out (by go_grown)

end Go.Proofs.YtjbjgkkkkghcgaaGreatDoor
