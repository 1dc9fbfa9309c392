/- The names of a path, one by one: the program's iterator namesIn. -/
import Derived.Test.YtjohocnfcnjciaaGreatDoorReadN
import Derived.RangeFuncNested
import Derived.RangeFuncBound
import Derived.RangeFuncCalls
import Derived.RangeFuncLeaves
import Derived.RangeFuncBox
import Derived.Shelf.Abstract
import Derived.Shelf.RegionOpen
import Derived.WalkKit
import Derived.OwnWalkIn
import Derived.TacticsInMore
import Derived.LoopNIn
import Derived.LoopIn
namespace Go.Proofs.YtjohocnfcnjciaaGreatDoor
open Go.RowKit Go.Shelf
set_option linter.unusedVariables false
attribute [local go_sem] Oper.semAt_some

theorem grow_of {W W' : World} (h : Below W.heap.size W W') : W.grownBy W' none := ⟨h.os, h.tape, h.output, h.size, fun k hk _ => h.block k hk⟩
theorem abide_on {β : Type} {B : Nat} {J : β → World → Prop} (h : AbidesFrom B J) {s : β} {W W' : World} (hs : J s W) (hb : Below W.heap.size W W') : J s W' :=
  h s W W' none hs (grow_of hb) (fun r e => by cases e)

/-- What the iterator hands on: a name, and whether it is one. -/
def encNB (x : List UInt8 × Bool) : Array Value := #[.string (strL x.1), .bool x.2]

/-- How much is still to come, read off the slots. -/
def strSz : Value → Nat
  | .string s => s.size
  | _ => 0
def boolN : Value → Nat
  | .bool true => 1
  | _ => 0

def pairOf (g : List UInt8) : List UInt8 × Bool := (readN g, okP g)

theorem prefix_snoc {α : Type} {a b : List α} {x : α} {r : List α} (h : b = a ++ x :: r) : a ++ [x] <+: b := ⟨r, by rw [h]; simp⟩

set_option maxRecDepth 100000 in
set_option maxHeartbeats 2000000 in
theorem namesIn1_in (n l Bs n₀ : Nat) (s : List UInt8) (hn : 1 ≤ n) (hlen : s.length ≤ 60) (J Jx : List (List UInt8 × Bool) → World → Prop)
    (hY : ∀ pre x W1, J pre W1 → pre.length < 61 → YieldAt Fence.wide (n - 1) Tryz.prog l (encNB x) W1 fun e W' =>
      (e = .returned (.bool true) ∧ J (pre ++ [x]) W' ∧ Below n₀ W1 W') ∨ (e = .returned (.bool false) ∧ Jx (pre ++ [x]) W'))
    (W : World) (hJ : AbidesFrom W.heap.size J) (hBs : W.cell? ⟨Bs, 0, none⟩ = some (.string (strL s))) (hml : ML W) (hg : 1 < n₀) (hn0 : n₀ ≤ W.heap.size) (h0 : J [] W) :
    CallsIn Fence.wide n Tryz.prog 105 #[.func (.yield l) #[] #[], .pointer (some ⟨Bs, 0, none⟩)] W fun e W' => (∃ v, e = .returned v) ∧
      ((∃ ys, ys = pairsL s ∧ J ys W') ∨ (∃ pre, pre <+: pairsL s ∧ Jx pre W')) := by
  have HML : Hid (ML W) := hml
  have HL : Hid (∀ W', Below n₀ W W' → ML W') := fun W' hb => by
    obtain ⟨m, hm⟩ := HML.out
    exact ⟨m, (hb.cell hg).trans hm⟩
  clear hml
  refine callsIn_of_wp Tryz.func105 rfl trivial ?_ rfl
  simp only [Tryz.ntmps105, List.size_toArray, List.length_cons, List.length_nil, Nat.reduceAdd, Nat.reduceSub, Array.replicate_succ, Array.replicate_zero, List.push_toArray, List.append_toArray, List.nil_append, List.cons_append]
  by_cases hs0 : s = []
  · subst hs0
    have he : (strL []).toList.isEmpty = true := by rw [Lib.toList_data]; rfl
    gi_wp2
    refine bodyPost_ret (results_none rfl _ _ _) rfl ?_
    exact ⟨⟨_, rfl⟩, .inl ⟨[], rfl, h0⟩⟩
  have he : (strL s).toList.isEmpty = false := by
    rw [Lib.toList_data]
    cases s with
    | nil => exact absurd rfl hs0
    | cons b t => rfl
  by_cases h47 : s.head? = some 47
  · obtain ⟨t, rfl⟩ : ∃ t, s = 47 :: t := by
      cases s with
      | nil => exact absurd rfl hs0
      | cons b t => exact ⟨t, by simp at h47; rw [h47]⟩
    have HPR : Hid (pairsL (47 :: t) = (segs t).map pairOf) := by
      show _ = _
      unfold pairsL
      rw [if_neg hs0, if_pos h47]
      rfl
    gi_wp2_with fail
    refine ⟨trivial, (callsIn_wide.2 (Tryz.strings_CutPrefix (strL (47 :: t)) ⟨#[47]⟩ _)).mono ?_⟩
    rintro e w0 ⟨rfl, hw0⟩
    have hw := hw0.symm
    subst hw
    clear hw0
    rw [show Lib.hasPrefix (strL (47 :: t)).data.toList (⟨#[47]⟩ : ByteArray).data.toList = true from by simp [Lib.hasPrefix, strL, List.isPrefixOf], show (⟨(Lib.trimPrefix (strL (47 :: t)).data.toList (⟨#[47]⟩ : ByteArray).data.toList).toArray⟩ : ByteArray) = strL t from by simp [Lib.trimPrefix, Lib.hasPrefix, strL, List.isPrefixOf]]
    clear h47 he hs0
    have hlt : t.length ≤ 59 := by simpa using hlen
    gi_wp2_with fail
    gi_loopw [3, 4] (fun r m wr => ∃ (done : List (List UInt8 × Bool)) (u : List UInt8) (mo : Bool), r = .string (strL u) ∧ m = .bool mo ∧ done.length + (if mo then u.length + 1 else 0) ≤ 60 ∧ Hid ((segs t).map pairOf = done ++ (if mo then (segs u).map pairOf else []) ∧ J done wr ∧ Below n₀ W wr))
      (fun r m _ => boolN m * (strSz r + 1))
    case atStart => exact ⟨[], t, true, rfl, rfl, by simp; omega, by simp, h0, Below.refl _ _⟩
    case round =>
      obtain ⟨done, u, mo, rfl, rfl, hl, HR⟩ := hrel
      cases mo with
      | false =>
        gi_wp2
        go_end0
        obtain ⟨h1, h2, h3⟩ := HR.out
        exact ⟨⟨_, rfl⟩, .inl ⟨done, by rw [HPR.out, h1]; simp, h2⟩⟩
      | true =>
        have hl' : done.length + (u.length + 1) ≤ 60 := by simpa using hl
        obtain ⟨g, hg47, hu⟩ := segs_first u
        obtain ⟨c2, c3, HC, HU, hc2⟩ : ∃ (c2 : List UInt8) (c3 : Bool), Hid (Lib.cut u [47] = (g, c2, c3)) ∧ Hid ((segs u).map pairOf = pairOf g :: (if c3 then (segs c2).map pairOf else [])) ∧ g.length + (if c3 then c2.length + 1 else 0) ≤ u.length := by
          rcases hu with ⟨rfl, e⟩ | ⟨v, rfl, e⟩
          · exact ⟨[], false, cut_none hg47, by show _ = _; rw [e]; rfl, by simp⟩
          · exact ⟨v, true, cut_some hg47 v, by show _ = _; rw [e]; rfl, by simp⟩
        have HB0 : Hid (Below n₀ W wr) := HR.out.2.2
        have HM0 : Hid (ML wr) := HL.out wr HB0.out
        clear hu hl
        gi_wp2_with fail
        obtain ⟨m, hm⟩ := HM0.out
        refine ⟨trivial, (callsIn_wide.2 (Tryz.strings_Cut (strL u) ⟨#[47]⟩ m _ (by rw [strL_size]; omega) hm)).mono ?_⟩
        rintro e w1 ⟨rfl, q, rfl⟩
        clear hm
        rw [show Lib.cut (strL u).data.toList (⟨#[47]⟩ : ByteArray).data.toList = (g, c2, c3) from HC.out]
        have B1 : Below wr.heap.size wr (wr.drewN q) := ⟨rfl, rfl, rfl, Nat.le_refl _, fun _ _ => rfl⟩
        have hz0 := HB0.out.size
        have HB1 : Hid (Below n₀ W (wr.drewN q)) := HB0.out.trans (B1.mono (by omega))
        have HJ1 : Hid (J done (wr.drewN q)) := abide_on hJ HR.out.2.1 B1
        have HM1 : Hid (ML (wr.drewN q)) := HL.out _ HB1.out
        clear B1
        dsimp only
        gi_wp2_with fail
        refine ⟨trivial, (callsIn_wide.2 (readName_any (strL g) _ (by rw [strL_size]; omega) HM1.out)).mono ?_⟩
        rintro e w2 ⟨rfl, hb2⟩
        have HB2 : Hid (Below n₀ W w2) := HB1.out.trans (hb2.mono (by show n₀ ≤ wr.heap.size; omega))
        have HJ2 : Hid (J done w2) := abide_on hJ HJ1.out hb2
        clear hb2
        obtain ⟨fn, tmps, assign, body, hy, hR⟩ := hY done (pairOf g) w2 HJ2.out (by omega)
        dsimp only [encNB, pairOf] at hy
        have hy' : Sem.run Tryz.prog (Instr.yield l #[Value.string (strL (readN (strL g).data.toList)), Value.bool (okP (strL g).data.toList)]) w2 = Result.ok (Next.round l fn tmps assign body) w2 := hy
        clear hy
        gi_wp2
        refine hR.mono ?_
        rintro e w3 (⟨rfl, hJ3, hk3⟩ | ⟨rfl, hJx3⟩)
        · have HB3 : Hid (Below n₀ W w3) := HB2.out.trans hk3
          have HJ3 : Hid (J (done ++ [pairOf g]) w3) := hJ3
          have HS : Hid ((segs t).map pairOf = (done ++ [pairOf g]) ++ (if c3 then (segs c2).map pairOf else [])) := by
            show _ = _
            rw [HR.out.1, if_pos trivial, HU.out]
            simp
          clear hJ3 hk3
          gi_wp2
          go_roundw
          case rel => exact ⟨done ++ [pairOf g], c2, c3, rfl, rfl, by rw [List.length_append]; simp only [List.length_cons, List.length_nil]; omega, HS.out, HJ3.out, HB3.out⟩
          case measure =>
            have e1 : strSz (Value.string ⟨c2.toArray⟩) = c2.length := strL_size c2
            have e2 : strSz (Value.string (strL u)) = u.length := strL_size u
            rw [e1, e2]
            cases c3 with
            | false => simp [boolN]
            | true => simp [boolN]; simp at hc2; omega
        · have HX : Hid (done ++ [pairOf g] <+: pairsL (47 :: t)) := prefix_snoc (by rw [HPR.out, HR.out.1, if_pos trivial, HU.out])
          gi_wp2
          refine bodyPost_ret (results_none rfl _ _ _) rfl ?_
          exact ⟨⟨_, rfl⟩, .inr ⟨_, HX.out, hJx3⟩⟩
  · have HPR : Hid (pairsL s = [([], false)]) := by
      show _ = _
      unfold pairsL
      rw [if_neg hs0, if_neg h47]
    have hpf : Lib.hasPrefix (strL s).data.toList (⟨#[47]⟩ : ByteArray).data.toList = false := by
      cases s with
      | nil => exact absurd rfl hs0
      | cons b t =>
        have : (47 : UInt8) ≠ b := fun e => h47 (by rw [← e]; rfl)
        simp [Lib.hasPrefix, strL, List.isPrefixOf, this]
    gi_wp2_with fail
    refine ⟨trivial, (callsIn_wide.2 (Tryz.strings_CutPrefix (strL s) ⟨#[47]⟩ _)).mono ?_⟩
    rintro e w0 ⟨rfl, hw0⟩
    have hw := hw0.symm
    subst hw
    clear hw0
    rw [hpf]
    obtain ⟨fn, tmps, assign, body, hy, hR⟩ := hY [] ([], false) W h0 (by decide)
    have hy' : Sem.run Tryz.prog (Instr.yield l #[Value.string ⟨#[]⟩, Value.bool false]) W = Result.ok (Next.round l fn tmps assign body) W := hy
    clear hy
    gi_wp2
    refine hR.mono ?_
    rintro e w3 (⟨rfl, hJ3, hk3⟩ | ⟨rfl, hJx3⟩)
    · gi_wp2
      refine bodyPost_ret (results_none rfl _ _ _) rfl ?_
      exact ⟨⟨_, rfl⟩, .inl ⟨_, HPR.out.symm, hJ3⟩⟩
    · gi_wp2
      refine bodyPost_ret (results_none rfl _ _ _) rfl ?_
      exact ⟨⟨_, rfl⟩, .inr ⟨_, by rw [HPR.out]; exact List.prefix_rfl, hJx3⟩⟩

set_option maxHeartbeats 1000000 in
/-- namesIn: the text is boxed; the function value captures the box. -/
theorem namesIn_in (n : Nat) (s : ByteArray) (w : World) :
    CallsIn Fence.wide n Tryz.prog 102 #[.string s] w fun e w' => e = .returned (.func (.func 105) #[] #[.pointer (some ⟨w.heap.size, 0, none⟩)]) ∧ w' = w.alloc (.cells #[.string s] 9) := by
  refine callsIn_of_wp Tryz.func102 rfl trivial ?_ rfl
  simp only [Tryz.ntmps102, List.size_toArray, List.length_cons, List.length_nil, Nat.reduceAdd, Nat.reduceSub, Array.replicate_succ, Array.replicate_zero, List.push_toArray, List.append_toArray, List.nil_append, List.cons_append]
  gi_wp2
  go_ret
  exact ⟨rfl, rfl⟩

/-- THE ITERATOR's CONTRACT. -/
theorem names_stops (n Bs n₀ : Nat) (hn : 1 ≤ n) (s : List UInt8) (hlen : s.length ≤ 60) (w : World) (hBs : Bs < w.heap.size) (hg : 1 < n₀) (hn0 : n₀ ≤ w.heap.size) (hc : w.cell? ⟨Bs, 0, none⟩ = some (.string (strL s))) (hml : ML w) :
    SeqStopsK Fence.wide n Tryz.prog 105 #[.pointer (some ⟨Bs, 0, none⟩)] encNB (Below n₀) (fun ys => ys = pairsL s) (fun pre => pre <+: pairsL s) 61 w := fun l J Jx W hW hJ _ hY h0 =>
  namesIn1_in n l Bs n₀ s hn hlen J Jx hY W hJ ((hW.cell (p := ⟨Bs, 0, none⟩) hBs).trans hc) (hml.below hW) hg (Nat.le_trans hn0 hW.size) h0

end Go.Proofs.YtjohocnfcnjciaaGreatDoor
