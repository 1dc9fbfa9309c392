/- A name read from what is written in a path: the program's readName. The names of a path, one by one: the program's iterator namesIn. The names of a path: the program's PathOf. The names of a path: the specification. -/
import Derived.Test.YtnmbnebofbdmfaaGreatDoorQPathT0
import Derived.RangeFuncNested
import Derived.RangeFuncBound
import Derived.RangeFuncCalls
import Derived.RangeFuncLeaves
import Derived.RangeFuncBox
import Derived.Shelf.Abstract
import Derived.Shelf.RegionOpen
import Derived.WalkKit
import Derived.OwnWalkIn
import Derived.TacticsInMore
import Derived.LoopNIn
import Derived.LoopIn
import Derived.Test.YtnmbnebofbdmfaaGreatDoorStrs0
import Derived.Maps.AppendAt
import Derived.Test.YtnmbnebofbdmfaaGreatDoorQuote
namespace Go.Proofs.YtnmbnebofbdmfaaGreatDoor
open Go.RowKit
set_option linter.unusedVariables false

set_option maxHeartbeats 1000000 in
theorem clone_any (s : ByteArray) (w : World) (h : s.size ≤ 2 ^ 40) : Calls Tryz.prog 62 #[.string s] w fun e w' => e = .returned (.string s) ∧ Below w.heap.size w w' := by
  go_enter Tryz.func62, Tryz.ntmps62
  go_wp2_with fail
  refine (Tryz.stringslite_Clone s _ (by omega)).mono ?_
  rintro e w1 ⟨rfl, hb1⟩
  have HB : Hid (Below w.heap.size w w1) := hb1
  clear hb1
  go_wp2
  go_ret
  exact ⟨rfl, HB.out⟩

theorem plain_okL (n : List UInt8) : plainB (strL n) = okL n := by
  unfold plainB okL plainTo
  rw [strL_size]
  congr 1
  show ((List.toArray n).toList.take n.length).all okByte = _
  rw [List.toList_toArray, List.take_length]
  rfl

theorem rep_len {old new : List UInt8} (h0 : old ≠ []) (hne : old ≠ new) (hl : new.length ≤ old.length) : ∀ (k : Nat) (s : List UInt8), s.length ≤ k → (Lib.replaceAll s old new).length ≤ s.length := by
  intro k
  induction k with
  | zero =>
    intro s hs
    obtain rfl : s = [] := List.eq_nil_of_length_eq_zero (by omega)
    rw [rep_nil h0 hne]
    exact Nat.le_refl _
  | succ k ih =>
    intro s hs
    cases hp : old.isPrefixOf s with
    | true =>
      obtain ⟨r, rfl⟩ := List.isPrefixOf_iff_prefix.1 hp
      have hpos : 0 < old.length := by cases old with | nil => exact absurd rfl h0 | cons a t => simp
      rw [rep_hit h0 hne, List.length_append, List.length_append]
      rw [List.length_append] at hs
      have := ih r (by omega)
      omega
    | false =>
      cases s with
      | nil => rw [rep_nil h0 hne]; exact Nat.le_refl _
      | cons b l =>
        rw [rep_miss h0 hne b l hp, List.length_cons, List.length_cons]
        simp at hs
        have := ih l hs
        omega
theorem mid_len (s : List UInt8) : (Lib.replaceAll s [126, 49] [47]).length ≤ s.length := rep_len (by decide) (by decide) (by decide) _ s (Nat.le_refl _)
theorem readN_len (s : List UInt8) : (readN s).length ≤ s.length :=
  Nat.le_trans (rep_len (by decide) (by decide) (by decide) _ _ (Nat.le_refl _)) (mid_len s)

theorem eq_lists (a b : ByteArray) : (a.toList == b.toList) = decide (a.data.toList = b.data.toList) := by
  rw [Lib.toList_data, Lib.toList_data]
  rw [Bool.eq_iff_iff]
  simp

set_option maxRecDepth 100000 in
set_option maxHeartbeats 1000000 in
theorem readName_any (g : ByteArray) (w : World) (hs : g.size ≤ 2 ^ 20) (hm : ML w) :
    Calls Tryz.prog 53 #[.string g] w fun e w' => e = .returned (.tuple #[.string (strL (readN g.data.toList)), .bool (okP g.data.toList)]) ∧ Below w.heap.size w w' := by
  have HML : Hid (ML w) := hm
  have hl : g.data.toList.length = g.size := Array.length_toList
  have H1 : Hid ((strL (Lib.replaceAll g.data.toList [126, 49] [47])).size ≤ 2 ^ 20) := by
    show _ ≤ _
    rw [strL_size]
    have := mid_len g.data.toList
    omega
  have H2 : Hid ((strL (readN g.data.toList)).size ≤ 2 ^ 20) := by
    show _ ≤ _
    rw [strL_size]
    have := readN_len g.data.toList
    omega
  clear hm hl
  go_enter Tryz.func53, Tryz.ntmps53
  go_wp2_with fail
  obtain ⟨m, hm⟩ := HML.out
  refine (Tryz.strings_ReplaceAll g ⟨#[126, 49]⟩ ⟨#[47]⟩ m _ (by omega) hm (by decide) (room _ _ _ (by decide) (by decide) (by omega))).mono ?_
  rintro e w1 ⟨rfl, hb1⟩
  have HB1 : Hid (Below w.heap.size w w1) := hb1
  have HM1 : Hid (ML w1) := HML.out.below hb1
  clear hb1 hm
  go_wp2_with fail
  obtain ⟨m1, hm1⟩ := HM1.out
  refine (Tryz.strings_ReplaceAll (strL (Lib.replaceAll g.data.toList [126, 49] [47])) ⟨#[126, 48]⟩ ⟨#[126]⟩ m1 _ (by have := H1.out; omega) hm1 (by decide) (room _ _ _ (by decide) (by decide) (by have := H1.out; omega))).mono ?_
  rintro e w2 ⟨rfl, hb2⟩
  have HB2 : Hid (Below w.heap.size w w2) := HB1.out.trans (hb2.mono HB1.out.size)
  have HM2 : Hid (ML w2) := HM1.out.below hb2
  clear hb2 hm1
  rw [show (⟨(Lib.replaceAll (strL (Lib.replaceAll g.data.toList [126, 49] [47])).data.toList (⟨#[126, 48]⟩ : ByteArray).data.toList (⟨#[126]⟩ : ByteArray).data.toList).toArray⟩ : ByteArray) = strL (readN g.data.toList) from rfl]
  go_wp2_with fail
  refine (clone_any _ _ (by have := H2.out; omega)).mono ?_
  rintro e w3 ⟨rfl, hb3⟩
  have HB3 : Hid (Below w.heap.size w w3) := HB2.out.trans (hb3.mono HB2.out.size)
  have HM3 : Hid (ML w3) := HM2.out.below hb3
  clear hb3
  go_wp2_with fail
  refine (isPlain_any _ _ (by have := H2.out; omega)).mono ?_
  rintro e w0 ⟨rfl, hw0⟩
  have hw := hw0.symm
  subst hw
  clear hw0
  cases hpl : plainB (strL (readN g.data.toList)) with
  | false =>
    have HO : Hid (okP g.data.toList = false) := by show _ = _; unfold okP; rw [← plain_okL, hpl]; rfl
    go_wp2
    exact bodyPost_ret (v := .tuple #[.string (strL (readN g.data.toList)), .bool false]) (by simp [results, Tryz.results53, go_sem]) rfl ⟨by rw [HO.out], HB3.out⟩
  | true =>
    have HO : Hid (okP g.data.toList = decide (pesc (readN g.data.toList) = g.data.toList)) := by show _ = _; unfold okP; rw [← plain_okL, hpl, Bool.true_and]
    go_wp2_with fail
    refine (writeName_any _ _ (by have := H2.out; omega) HM3.out).mono ?_
    rintro e w4 ⟨rfl, hb4⟩
    have HB4 : Hid (Below w.heap.size w w4) := HB3.out.trans (hb4.mono HB3.out.size)
    clear hb4
    go_wp2
    exact bodyPost_ret (v := .tuple #[.string (strL (readN g.data.toList)), .bool ((strL (pesc (strL (readN g.data.toList)).data.toList)).toList == g.toList)]) (by simp [results, Tryz.results53, go_sem]) rfl ⟨by rw [HO.out, eq_lists]; rfl, HB4.out⟩

end Go.Proofs.YtnmbnebofbdmfaaGreatDoor
namespace Go.Proofs.YtnmbnebofbdmfaaGreatDoor
open Go.RowKit Go.Shelf
set_option linter.unusedVariables false
attribute [local go_sem] Oper.semAt_some

theorem grow_of {W W' : World} (h : Below W.heap.size W W') : W.grownBy W' none := ⟨h.os, h.tape, h.output, h.size, fun k hk _ => h.block k hk⟩
theorem abide_on {β : Type} {B : Nat} {J : β → World → Prop} (h : AbidesFrom B J) {s : β} {W W' : World} (hs : J s W) (hb : Below W.heap.size W W') : J s W' :=
  h s W W' none hs (grow_of hb) (fun r e => by cases e)

/-- What the iterator hands on: a name, and whether it is one. -/
def encNB (x : List UInt8 × Bool) : Array Value := #[.string (strL x.1), .bool x.2]

/-- How much is still to come, read off the slots. -/
def strSz : Value → Nat
  | .string s => s.size
  | _ => 0
def boolN : Value → Nat
  | .bool true => 1
  | _ => 0

def pairOf (g : List UInt8) : List UInt8 × Bool := (readN g, okP g)

theorem prefix_snoc {α : Type} {a b : List α} {x : α} {r : List α} (h : b = a ++ x :: r) : a ++ [x] <+: b := ⟨r, by rw [h]; simp⟩

set_option maxRecDepth 100000 in
set_option maxHeartbeats 2000000 in
theorem namesIn1_in (n l Bs n₀ : Nat) (s : List UInt8) (hn : 1 ≤ n) (hlen : s.length ≤ 60) (J Jx : List (List UInt8 × Bool) → World → Prop)
    (hY : ∀ pre x W1, J pre W1 → pre.length < 61 → YieldAt Fence.wide (n - 1) Tryz.prog l (encNB x) W1 fun e W' =>
      (e = .returned (.bool true) ∧ J (pre ++ [x]) W' ∧ Below n₀ W1 W') ∨ (e = .returned (.bool false) ∧ Jx (pre ++ [x]) W'))
    (W : World) (hJ : AbidesFrom W.heap.size J) (hBs : W.cell? ⟨Bs, 0, none⟩ = some (.string (strL s))) (hml : ML W) (hg : 0 < n₀) (hn0 : n₀ ≤ W.heap.size) (h0 : J [] W) :
    CallsIn Fence.wide n Tryz.prog 50 #[.func (.yield l) #[] #[], .pointer (some ⟨Bs, 0, none⟩)] W fun e W' => (∃ v, e = .returned v) ∧
      ((∃ ys, ys = pairsL s ∧ J ys W') ∨ (∃ pre, pre <+: pairsL s ∧ Jx pre W')) := by
  have HML : Hid (ML W) := hml
  have HL : Hid (∀ W', Below n₀ W W' → ML W') := fun W' hb => by
    obtain ⟨m, hm⟩ := HML.out
    exact ⟨m, (hb.cell hg).trans hm⟩
  clear hml
  refine callsIn_of_wp Tryz.func50 rfl trivial ?_ rfl
  simp only [Tryz.ntmps50, List.size_toArray, List.length_cons, List.length_nil, Nat.reduceAdd, Nat.reduceSub, Array.replicate_succ, Array.replicate_zero, List.push_toArray, List.append_toArray, List.nil_append, List.cons_append]
  by_cases hs0 : s = []
  · subst hs0
    have he : (strL []).toList.isEmpty = true := by rw [Lib.toList_data]; rfl
    gi_wp2
    refine bodyPost_ret (results_none rfl _ _ _) rfl ?_
    exact ⟨⟨_, rfl⟩, .inl ⟨[], rfl, h0⟩⟩
  have he : (strL s).toList.isEmpty = false := by
    rw [Lib.toList_data]
    cases s with
    | nil => exact absurd rfl hs0
    | cons b t => rfl
  by_cases h47 : s.head? = some 47
  · obtain ⟨t, rfl⟩ : ∃ t, s = 47 :: t := by
      cases s with
      | nil => exact absurd rfl hs0
      | cons b t => exact ⟨t, by simp at h47; rw [h47]⟩
    have HPR : Hid (pairsL (47 :: t) = (segs t).map pairOf) := by
      show _ = _
      unfold pairsL
      rw [if_neg hs0, if_pos h47]
      rfl
    gi_wp2_with fail
    refine ⟨trivial, (callsIn_wide.2 (Tryz.strings_CutPrefix (strL (47 :: t)) ⟨#[47]⟩ _)).mono ?_⟩
    rintro e w0 ⟨rfl, hw0⟩
    have hw := hw0.symm
    subst hw
    clear hw0
    rw [show Lib.hasPrefix (strL (47 :: t)).data.toList (⟨#[47]⟩ : ByteArray).data.toList = true from by simp [Lib.hasPrefix, strL, List.isPrefixOf], show (⟨(Lib.trimPrefix (strL (47 :: t)).data.toList (⟨#[47]⟩ : ByteArray).data.toList).toArray⟩ : ByteArray) = strL t from by simp [Lib.trimPrefix, Lib.hasPrefix, strL, List.isPrefixOf]]
    clear h47 he hs0
    have hlt : t.length ≤ 59 := by simpa using hlen
    gi_wp2_with fail
    gi_loopw [3, 4] (fun r m wr => ∃ (done : List (List UInt8 × Bool)) (u : List UInt8) (mo : Bool), r = .string (strL u) ∧ m = .bool mo ∧ done.length + (if mo then u.length + 1 else 0) ≤ 60 ∧ Hid ((segs t).map pairOf = done ++ (if mo then (segs u).map pairOf else []) ∧ J done wr ∧ Below n₀ W wr))
      (fun r m _ => boolN m * (strSz r + 1))
    case atStart => exact ⟨[], t, true, rfl, rfl, by simp; omega, by simp, h0, Below.refl _ _⟩
    case round =>
      obtain ⟨done, u, mo, rfl, rfl, hl, HR⟩ := hrel
      cases mo with
      | false =>
        gi_wp2
        go_end0
        obtain ⟨h1, h2, h3⟩ := HR.out
        exact ⟨⟨_, rfl⟩, .inl ⟨done, by rw [HPR.out, h1]; simp, h2⟩⟩
      | true =>
        have hl' : done.length + (u.length + 1) ≤ 60 := by simpa using hl
        obtain ⟨g, hg47, hu⟩ := segs_first u
        obtain ⟨c2, c3, HC, HU, hc2⟩ : ∃ (c2 : List UInt8) (c3 : Bool), Hid (Lib.cut u [47] = (g, c2, c3)) ∧ Hid ((segs u).map pairOf = pairOf g :: (if c3 then (segs c2).map pairOf else [])) ∧ g.length + (if c3 then c2.length + 1 else 0) ≤ u.length := by
          rcases hu with ⟨rfl, e⟩ | ⟨v, rfl, e⟩
          · exact ⟨[], false, cut_none hg47, by show _ = _; rw [e]; rfl, by simp⟩
          · exact ⟨v, true, cut_some hg47 v, by show _ = _; rw [e]; rfl, by simp⟩
        have HB0 : Hid (Below n₀ W wr) := HR.out.2.2
        have HM0 : Hid (ML wr) := HL.out wr HB0.out
        clear hu hl
        gi_wp2_with fail
        obtain ⟨m, hm⟩ := HM0.out
        refine ⟨trivial, (callsIn_wide.2 (Tryz.strings_Cut (strL u) ⟨#[47]⟩ m _ (by rw [strL_size]; omega) hm)).mono ?_⟩
        rintro e w1 ⟨rfl, q, rfl⟩
        clear hm
        rw [show Lib.cut (strL u).data.toList (⟨#[47]⟩ : ByteArray).data.toList = (g, c2, c3) from HC.out]
        have B1 : Below wr.heap.size wr (wr.drewN q) := ⟨rfl, rfl, rfl, Nat.le_refl _, fun _ _ => rfl⟩
        have hz0 := HB0.out.size
        have HB1 : Hid (Below n₀ W (wr.drewN q)) := HB0.out.trans (B1.mono (by omega))
        have HJ1 : Hid (J done (wr.drewN q)) := abide_on hJ HR.out.2.1 B1
        have HM1 : Hid (ML (wr.drewN q)) := HL.out _ HB1.out
        clear B1
        dsimp only
        gi_wp2_with fail
        refine ⟨trivial, (callsIn_wide.2 (readName_any (strL g) _ (by rw [strL_size]; omega) HM1.out)).mono ?_⟩
        rintro e w2 ⟨rfl, hb2⟩
        have HB2 : Hid (Below n₀ W w2) := HB1.out.trans (hb2.mono (by show n₀ ≤ wr.heap.size; omega))
        have HJ2 : Hid (J done w2) := abide_on hJ HJ1.out hb2
        clear hb2
        obtain ⟨fn, tmps, assign, body, hy, hR⟩ := hY done (pairOf g) w2 HJ2.out (by omega)
        dsimp only [encNB, pairOf] at hy
        have hy' : Sem.run Tryz.prog (Instr.yield l #[Value.string (strL (readN (strL g).data.toList)), Value.bool (okP (strL g).data.toList)]) w2 = Result.ok (Next.round l fn tmps assign body) w2 := hy
        clear hy
        gi_wp2
        refine hR.mono ?_
        rintro e w3 (⟨rfl, hJ3, hk3⟩ | ⟨rfl, hJx3⟩)
        · have HB3 : Hid (Below n₀ W w3) := HB2.out.trans hk3
          have HJ3 : Hid (J (done ++ [pairOf g]) w3) := hJ3
          have HS : Hid ((segs t).map pairOf = (done ++ [pairOf g]) ++ (if c3 then (segs c2).map pairOf else [])) := by
            show _ = _
            rw [HR.out.1, if_pos trivial, HU.out]
            simp
          clear hJ3 hk3
          gi_wp2
          go_roundw
          case rel => exact ⟨done ++ [pairOf g], c2, c3, rfl, rfl, by rw [List.length_append]; simp only [List.length_cons, List.length_nil]; omega, HS.out, HJ3.out, HB3.out⟩
          case measure =>
            have e1 : strSz (Value.string ⟨c2.toArray⟩) = c2.length := strL_size c2
            have e2 : strSz (Value.string (strL u)) = u.length := strL_size u
            rw [e1, e2]
            cases c3 with
            | false => simp [boolN]
            | true => simp [boolN]; simp at hc2; omega
        · have HX : Hid (done ++ [pairOf g] <+: pairsL (47 :: t)) := prefix_snoc (by rw [HPR.out, HR.out.1, if_pos trivial, HU.out])
          gi_wp2
          refine bodyPost_ret (results_none rfl _ _ _) rfl ?_
          exact ⟨⟨_, rfl⟩, .inr ⟨_, HX.out, hJx3⟩⟩
  · have HPR : Hid (pairsL s = [([], false)]) := by
      show _ = _
      unfold pairsL
      rw [if_neg hs0, if_neg h47]
    have hpf : Lib.hasPrefix (strL s).data.toList (⟨#[47]⟩ : ByteArray).data.toList = false := by
      cases s with
      | nil => exact absurd rfl hs0
      | cons b t =>
        have : (47 : UInt8) ≠ b := fun e => h47 (by rw [← e]; rfl)
        simp [Lib.hasPrefix, strL, List.isPrefixOf, this]
    gi_wp2_with fail
    refine ⟨trivial, (callsIn_wide.2 (Tryz.strings_CutPrefix (strL s) ⟨#[47]⟩ _)).mono ?_⟩
    rintro e w0 ⟨rfl, hw0⟩
    have hw := hw0.symm
    subst hw
    clear hw0
    rw [hpf]
    obtain ⟨fn, tmps, assign, body, hy, hR⟩ := hY [] ([], false) W h0 (by decide)
    have hy' : Sem.run Tryz.prog (Instr.yield l #[Value.string ⟨#[]⟩, Value.bool false]) W = Result.ok (Next.round l fn tmps assign body) W := hy
    clear hy
    gi_wp2
    refine hR.mono ?_
    rintro e w3 (⟨rfl, hJ3, hk3⟩ | ⟨rfl, hJx3⟩)
    · gi_wp2
      refine bodyPost_ret (results_none rfl _ _ _) rfl ?_
      exact ⟨⟨_, rfl⟩, .inl ⟨_, HPR.out.symm, hJ3⟩⟩
    · gi_wp2
      refine bodyPost_ret (results_none rfl _ _ _) rfl ?_
      exact ⟨⟨_, rfl⟩, .inr ⟨_, by rw [HPR.out]; exact List.prefix_rfl, hJx3⟩⟩

set_option maxHeartbeats 1000000 in
/-- namesIn: the text is boxed; the function value captures the box. -/
theorem namesIn_in (n : Nat) (s : ByteArray) (w : World) :
    CallsIn Fence.wide n Tryz.prog 43 #[.string s] w fun e w' => e = .returned (.func (.func 50) #[] #[.pointer (some ⟨w.heap.size, 0, none⟩)]) ∧ w' = w.alloc (.cells #[.string s] 9) := by
  refine callsIn_of_wp Tryz.func43 rfl trivial ?_ rfl
  simp only [Tryz.ntmps43, List.size_toArray, List.length_cons, List.length_nil, Nat.reduceAdd, Nat.reduceSub, Array.replicate_succ, Array.replicate_zero, List.push_toArray, List.append_toArray, List.nil_append, List.cons_append]
  gi_wp2
  go_ret
  exact ⟨rfl, rfl⟩

/-- THE ITERATOR's CONTRACT. -/
theorem names_stops (n Bs n₀ : Nat) (hn : 1 ≤ n) (s : List UInt8) (hlen : s.length ≤ 60) (w : World) (hBs : Bs < w.heap.size) (hg : 0 < n₀) (hn0 : n₀ ≤ w.heap.size) (hc : w.cell? ⟨Bs, 0, none⟩ = some (.string (strL s))) (hml : ML w) :
    SeqStopsK Fence.wide n Tryz.prog 50 #[.pointer (some ⟨Bs, 0, none⟩)] encNB (Below n₀) (fun ys => ys = pairsL s) (fun pre => pre <+: pairsL s) 61 w := fun l J Jx W hW hJ _ hY h0 =>
  namesIn1_in n l Bs n₀ s hn hlen J Jx hY W hJ ((hW.cell (p := ⟨Bs, 0, none⟩) hBs).trans hc) (hml.below hW) hg (Nat.le_trans hn0 hW.size) h0

end Go.Proofs.YtnmbnebofbdmfaaGreatDoor
namespace Go.Proofs.YtnmbnebofbdmfaaGreatDoor
open Go.RowKit Go.Shelf
set_option linter.unusedVariables false
attribute [local go_sem] Oper.semAt_some

/-- The names, as texts. -/
def namesF (s : List UInt8) : Nat → ByteArray := fun j => strL (((namesL s).getD []).getD j [])
def namesN (s : List UInt8) : Nat := ((namesL s).getD []).length
/-- WHAT PathOf ANSWERS. -/
def NamesIs (s : List UInt8) (w : World) (e : Ending) (w' : World) : Prop :=
  ∃ v g, e = .returned (.tuple #[v, .bool (namesL s).isSome]) ∧ w.heap.size ≤ g ∧ OwnS w' g v (namesN s) (namesF s) ∧ Below w.heap.size w w'
theorem NamesIs.no {s : List UInt8} {w w' : World} (h : namesL s = none) (hb : Below w.heap.size w w') : NamesIs s w (.returned (.tuple #[.slice none 0 0, .bool false])) w' :=
  ⟨_, w.heap.size, by rw [h]; rfl, Nat.le_refl _, ⟨none, 0, by unfold namesN; rw [h]; rfl, by unfold namesN; rw [h]; simp, .inl (by unfold namesN; rw [h]; rfl)⟩, hb⟩

def strCells (l : List (List UInt8)) : List Value := l.map fun n => Value.string (strL n)
theorem own_rowS {w : World} {B : Nat} {v : Value} {l : List (List UInt8)} (h : w.ownsRow B 9 1 v l.length (strCells l)) (hl : l.length ≤ 2 ^ 30) : ∃ g, B ≤ g ∧ OwnS w g v l.length (fun j => strL (l.getD j [])) := by
  have hlt := h.lt
  have hcells := @World.ownsRow.cells _ _ _ _ _ _ _ h
  obtain ⟨_, h0 | ⟨g, cap, cur, hv, hg, hh, _⟩⟩ := h
  · obtain ⟨hv, hx⟩ := h0
    refine ⟨B, Nat.le_refl _, none, 0, by rw [hx]; exact hv, hl, .inl hx⟩
  · refine ⟨g, hg, _, _, hv, hl, .inr ⟨rfl, (hlt g (by rw [hv]; rfl)).2, fun j hj => ⟨?_, ?_⟩⟩⟩
    · have := hcells (g := g) (by rw [hv]; rfl) j (.string (strL (l.getD j []))) (by simp [strCells, List.getElem?_eq_getElem hj, List.getD_eq_getElem?_getD])
      rw [show ((⟨g, 0, none⟩ : Addr).add j) = ⟨g, j, none⟩ by unfold Addr.add; split <;> simp_all] at this
      exact this
    · simp [World.frozen?, hh]
theorem NamesIs.yes {s : List UInt8} {l : List (List UInt8)} {w w' : World} {v : Value} {B : Nat} (h : namesL s = some l) (hl : l.length ≤ 2 ^ 30) (hB : w.heap.size ≤ B) (ho : w'.ownsRow B 9 1 v l.length (strCells l)) (hb : Below w.heap.size w w') : NamesIs s w (.returned (.tuple #[v, .bool true])) w' := by
  obtain ⟨g, hg, hi⟩ := own_rowS ho hl
  exact ⟨v, g, by rw [h]; rfl, by omega, by unfold namesN namesF; rw [h]; exact hi, hb⟩

theorem pairs_len (s : List UInt8) : (pairsL s).length ≤ s.length + 1 := by
  unfold pairsL
  split
  · simp
  · split
    · rw [List.length_map]
      cases s with
      | nil => simp [segsOf]
      | cons b t =>
        rw [segsOf]
        have : ∀ (k : Nat) (u : List UInt8), u.length ≤ k → (segs u).length ≤ u.length + 1 := by
          intro k
          induction k with
          | zero =>
            intro u hu
            obtain rfl : u = [] := List.eq_nil_of_length_eq_zero (by omega)
            simp [segs]
          | succ k ih =>
            intro u hu
            obtain ⟨g, hg, ⟨rfl, e⟩ | ⟨v, rfl, e⟩⟩ := segs_first u
            · rw [e]; simp
            · rw [e, List.length_cons, List.length_append, List.length_cons]
              rw [List.length_append, List.length_cons] at hu
              have := ih v (by omega)
              omega
        have := this t.length t (Nat.le_refl _)
        simp
        omega
    · simp
theorem infoStr1 : (Tryz.prog.info? 9).map (fun i => (i.zero, i.size, i.bytes)) = some (some (.string ⟨#[]⟩), 1, 16) := by kernel_rfl

def fsts (l : List (List UInt8 × Bool)) : List (List UInt8) := l.map (·.1)
theorem fsts_snoc (l : List (List UInt8 × Bool)) (x : List UInt8 × Bool) : fsts (l ++ [x]) = fsts l ++ [x.1] := by simp [fsts]

set_option maxRecDepth 100000 in
set_option maxHeartbeats 4000000 in
theorem implPathOf_in (s : List UInt8) (w : World) (hml : ML w) (hlen : s.length ≤ 60) :
    CallsIn Fence.wide 5 Tryz.prog 30 #[.string (strL s)] w (NamesIs s w) := by
  have hsz : (strL s).size ≤ 60 := by rw [strL_size]; exact hlen
  have hg1 : 0 < w.heap.size := by obtain ⟨m, hm⟩ := hml; exact World.block_lt_of_cell? _ _ hm
  obtain ⟨i0, hi, hz0, hz1, hz2⟩ := info_parts infoStr1
  refine callsIn_of_wp_marks Tryz.func30 rfl trivial ?_ rfl
  simp only [Tryz.ntmps30, List.size_toArray, List.length_cons, List.length_nil, Nat.reduceAdd, Nat.reduceSub, Array.replicate_succ, Array.replicate_zero, List.push_toArray, List.append_toArray, List.nil_append, List.cons_append]
  gi_wp2_with fail
  refine ⟨trivial, (namesIn_in _ _ _).mono ?_⟩
  rintro e w' ⟨rfl, rfl⟩
  have bR := Boxed.new w 37 (.slice none 0 0)
  have bQ := Boxed.new (w.alloc (.cells #[.slice none 0 0] 37)) 4 (.bool false)
  have bO := Boxed.new ((w.alloc (.cells #[.slice none 0 0] 37)).alloc (.cells #[.bool false] 4)) 37 (.slice none 0 0)
  have bS := Boxed.new (((w.alloc (.cells #[.slice none 0 0] 37)).alloc (.cells #[.bool false] 4)).alloc (.cells #[.slice none 0 0] 37)) 9 (.string (strL s))
  simp only [World.size_alloc] at bQ bO bS
  have hB0 : Below w.heap.size w ((((w.alloc (.cells #[.slice none 0 0] 37)).alloc (.cells #[.bool false] 4)).alloc (.cells #[.slice none 0 0] 37)).alloc (.cells #[.string (strL s)] 9)) := ((((Below.refl _ w).alloc (Nat.le_refl _) _).alloc (by simp) _).alloc (by simp; omega) _).alloc (by simp; omega) _
  have HPN : Hid (namesL s = if (pairsL s).all (·.2) then some (fsts (pairsL s)) else none) := names_pairs s hlen
  have HPL : Hid ((pairsL s).length ≤ 61) := by have := pairs_len s; show _ ≤ _; omega
  gi_wp2_with fail
  refine wpIn_rangeFunc_ownG rfl (by decide) (gf := 50) (lb := #[.pointer (some ⟨w.heap.size + 1 + 1 + 1, 0, none⟩)]) rfl trivial (enters_of Tryz.func50 (by kernel_rfl) rfl)
    (names_stops 4 (w.heap.size + 1 + 1 + 1) w.heap.size (by decide) s hlen _ (by simp) hg1 hB0.size bS.cell (hml.below hB0)) belowK_t (belowK_b (by simp; omega)) (Below.refl _ _) (fun _ => rfl)
    (fun pre W => ((∃ v, Boxed W (w.heap.size + 1 + 1) 37 v ∧ W.ownsRow w.heap.size 9 1 v (fsts pre).length (strCells (fsts pre)) ∧ pre.all (·.2) = true) ∧ (Boxed W w.heap.size 37 (.slice none 0 0) ∧ Boxed W (w.heap.size + 1) 4 (.bool false))) ∧ Below w.heap.size w W)
    (fun c pre W => ((c = .ret ∧ pre.all (·.2) = false) ∧ (Boxed W w.heap.size 37 (.slice none 0 0) ∧ Boxed W (w.heap.size + 1) 4 (.bool false))) ∧ Below w.heap.size w W)
    (OwnFrom.and (OwnFrom.and (Own.from (holdsRow_own w.heap.size (w.heap.size + 1 + 1) 37 9 1 (fun pre => (fsts pre).length) (fun pre => strCells (fsts pre)) (fun pre v => pre.all (·.2) = true)) _) (OwnFrom.and (Own.from (boxed_own _ _ _) _) (Own.from (boxed_own _ _ _) _))) (ownFrom_below (Nat.le_refl _) (by simp; omega)))
    (fun c => OwnFrom.and (OwnFrom.and (ownFrom_pure _ _) (OwnFrom.and (Own.from (boxed_own _ _ _) _) (Own.from (boxed_own _ _ _) _))) (ownFrom_below (Nat.le_refl _) (by simp; omega)))
    ⟨⟨⟨_, bO.alloc _, World.ownsRow_nil _ _ _ _, rfl⟩, ((bR.alloc _).alloc _).alloc _, (bQ.alloc _).alloc _⟩, hB0⟩
    (fun x => { tmps := #[.string (strL s), undef, .pointer (some ⟨w.heap.size, 0, none⟩), .pointer (some ⟨w.heap.size + 1, 0, none⟩), .pointer (some ⟨w.heap.size + 1 + 1, 0, none⟩), .string (strL x.1), .bool x.2, .string (strL s), .int .i64 (strL s).size, .bool (decide (60 < ((strL s).size : Int))), .string (strL s), .func (.func 50) #[] #[.pointer (some ⟨w.heap.size + 1 + 1 + 1, 0, none⟩)], .string (strL x.1), .bool x.2, undef, undef, undef, undef, undef, undef, undef], defers := [] }) ?assign ?body ?done ?stop
  case assign =>
    intro l x W K hK
    dsimp only [encNB]
    gi_wp2
    exact hK
  case body =>
    rintro l pre ⟨nm, ok⟩ W ⟨⟨⟨v, hv, hrow, hall⟩, hbR, hbQ⟩, hB⟩ hlt
    have hpl : (fsts pre).length < 61 := by simpa [fsts] using hlt
    cases ok with
    | false =>
      have cR := hbR.cell
      have fR := hbR.frozen
      have cQ := hbQ.cell
      have fQ := hbQ.frozen
      have hR2 : Boxed ((W.setCell ⟨w.heap.size, 0, none⟩ (.slice none 0 0)).setCell ⟨w.heap.size + 1, 0, none⟩ (.bool false)) w.heap.size 37 (.slice none 0 0) := (hbR.set _).other (by omega) _
      have hQ1 : Boxed (W.setCell ⟨w.heap.size, 0, none⟩ (.slice none 0 0)) (w.heap.size + 1) 4 (.bool false) := hbQ.other (by omega) _
      have hQ2 := hQ1.set (.bool false)
      have cQ1 := hQ1.cell
      have fQ1 := hQ1.frozen
      gi_wp2
      exact ⟨((KeepsOthers.setCell _ _ _).trans (KeepsOthers.setCell _ _ _)).from _, ⟨⟨rfl, by simp⟩, hR2, hQ2⟩, (hB.setCell (p := ⟨w.heap.size, 0, none⟩) (Nat.le_refl _) _).setCell (p := ⟨w.heap.size + 1, 0, none⟩) (by simp) _⟩
    | true =>
      have hc := hv.cell
      gi_wp2_with (gi_at_builtin; refine wpListIn_append_own _ rfl _ _ 37 rfl w.heap.size 9 i0 (.string ⟨#[]⟩) 1 16 Tryz.underlying37 hi hz0 hz1 hz2 rfl (by decide) _ _ _ rfl (hrow.alloc _) ⟨W.heap.size, 0, none⟩ 1 1 [.string (strL nm)] rfl rfl (cell_one_new _ _ _) (by simp [Value.oneCell']) (by unfold maxLen; omega) (by omega) (by have := hB.size; simp; omega) ?_; intro v' w1 hown' hgrow _; obtain ⟨g', cap', rfl⟩ := ownsRow_succ hown'; obtain ⟨hv1, hv2, hr2, hk2, hb2⟩ := hv.appended (by decide) hrow hB.size (by omega) hown' hgrow; have hc1 := hv1.cell; have hf1 := hv1.frozen)
      have hR1 := (((hbR.alloc _).kept hgrow (hbR.not_row (by decide) hrow)).other (show w.heap.size ≠ w.heap.size + 1 + 1 by omega) (.slice (some ⟨g', 0, none⟩) ((fsts pre).length + 1) cap'))
      have hQ1 := (((hbQ.alloc _).kept hgrow (hbQ.not_row (by decide) hrow)).other (show w.heap.size + 1 ≠ w.heap.size + 1 + 1 by omega) (.slice (some ⟨g', 0, none⟩) ((fsts pre).length + 1) cap'))
      exact ⟨hk2.from _, hb2, ⟨⟨_, hv2, by rw [fsts_snoc]; simpa [strCells] using hr2, by simp [hall]⟩, hR1, hQ1⟩, hB.trans hb2⟩
  case done =>
    rintro D ys W hD rfl ⟨⟨⟨v, hv, hrow, hall⟩, hbR, hbQ⟩, hB⟩ hK
    have HS : Hid (namesL s = some (fsts (pairsL s))) := by
      show _ = _
      rw [HPN.out, if_pos hall]
    have hfl : (fsts (pairsL s)).length ≤ 61 := by rw [fsts, List.length_map]; exact HPL.out
    obtain ⟨va, vn, vc, rfl⟩ : ∃ va vn vc, v = .slice va vn vc := by
      rcases hrow.2 with ⟨rfl, _⟩ | ⟨g, cap, cur, rfl, _⟩
      · exact ⟨_, _, _, rfl⟩
      · exact ⟨_, _, _, rfl⟩
    have cO := hv.cell
    have cR := hbR.cell
    have fR := hbR.frozen
    have hQ1 : Boxed (W.setCell ⟨w.heap.size, 0, none⟩ (.slice va vn vc)) (w.heap.size + 1) 4 (.bool false) := hbQ.other (by omega) _
    have hR1 := hbR.set (.slice va vn vc)
    have cQ1 := hQ1.cell
    have fQ1 := hQ1.frozen
    have hQ2 := hQ1.set (.bool true)
    have hR2 := hR1.other (show w.heap.size ≠ w.heap.size + 1 by omega) (.bool true)
    have hrow1 := hrow.kept (grownBy_setCell' W w.heap.size (.slice va vn vc)) (.inr (hbR.not_row (by decide) hrow).symm)
    have hrow2 := hrow1.kept (grownBy_setCell' _ (w.heap.size + 1) (.bool true)) (.inr (hQ1.not_row (by decide) hrow1).symm)
    have hK' := ((KeepsOthers.setCell W ⟨w.heap.size, 0, none⟩ (.slice va vn vc)).trans (KeepsOthers.setCell _ ⟨w.heap.size + 1, 0, none⟩ (.bool true))).same D _ hK rfl
    have hB2 := (hB.setCell (p := ⟨w.heap.size, 0, none⟩) (Nat.le_refl _) (.slice va vn vc)).setCell (p := ⟨w.heap.size + 1, 0, none⟩) (by simp) (.bool true)
    gi_wp2
    refine ⟨by simp, .inl ⟨_, _, rfl, run_takeDeferred hK', ?_⟩⟩
    have kR := cell_kept hR2.cell (grownBy_putObj' _ D (.deferred none)) (fun r e => by cases e; exact ⟨_, hK', rfl⟩)
    have kQ := cell_kept hQ2.cell (grownBy_putObj' _ D (.deferred none)) (fun r e => by cases e; exact ⟨_, hK', rfl⟩)
    refine ⟨.tuple #[.slice va vn vc, .bool true], ?_, NamesIs.yes HS.out (by omega) (Nat.le_refl _) (ownsRow_putObj hrow2 _ hK' rfl) (hB2.trans (belowK_b (w := w) (Nat.le_refl _) _ D _ _ (by simp at hD; omega) hK' rfl rfl))⟩
    simp [results, Tryz.f30, go_sem, kR, kQ]
  case stop =>
    rintro D c pre W hD hpre ⟨⟨⟨rfl, hno⟩, hbR, hbQ⟩, hB⟩ hK
    have HS : Hid (namesL s = none) := by
      show _ = _
      rw [HPN.out, if_neg]
      intro hall
      rw [List.all_eq_true] at hall
      rw [List.all_eq_false] at hno
      obtain ⟨x, hx, hn⟩ := hno
      exact hn (hall x (hpre.subset hx))
    gi_wp2
    refine ⟨by simp, .inl ⟨_, _, rfl, run_takeDeferred hK, ?_⟩⟩
    have kR := cell_kept hbR.cell (grownBy_putObj' _ D (.deferred none)) (fun r e => by cases e; exact ⟨_, hK, rfl⟩)
    have kQ := cell_kept hbQ.cell (grownBy_putObj' _ D (.deferred none)) (fun r e => by cases e; exact ⟨_, hK, rfl⟩)
    refine ⟨.tuple #[.slice none 0 0, .bool false], ?_, NamesIs.no HS.out (hB.trans (belowK_b (w := w) (Nat.le_refl _) _ D _ _ (by simp at hD; omega) hK rfl rfl))⟩
    simp [results, Tryz.f30, go_sem, kR, kQ]

set_option maxRecDepth 100000 in
set_option maxHeartbeats 4000000 in
theorem implPathOf_long (s : ByteArray) (w : World) (hlen : 60 < s.size) :
    CallsIn Fence.wide 5 Tryz.prog 30 #[.string s] w (NamesIs s.data.toList w) := by
  have HS : Hid (namesL s.data.toList = none) := by
    have : s.data.toList.length = s.size := Array.length_toList
    show _ = _
    unfold namesL
    rw [if_neg (fun h => by omega)]
  refine callsIn_of_wp Tryz.func30 rfl trivial ?_ rfl
  simp only [Tryz.ntmps30, List.size_toArray, List.length_cons, List.length_nil, Nat.reduceAdd, Nat.reduceSub, Array.replicate_succ, Array.replicate_zero, List.push_toArray, List.append_toArray, List.nil_append, List.cons_append]
  gi_wp2_with fail
  exact bodyPost_ret (v := .tuple #[.slice none 0 0, .bool false]) (by simp [results, Tryz.f30, go_sem]) rfl (NamesIs.no HS.out (((Below.refl _ w).alloc (Nat.le_refl _) _).alloc (by simp) _))

/-- PathOf, at every text. -/
theorem implPathOf_any (s : ByteArray) (w : World) (hml : ML w) :
    Calls Tryz.prog 30 #[.string s] w (NamesIs s.data.toList w) := by
  refine (callsIn_wide (n := 5)).1 ?_
  by_cases h : s.size ≤ 60
  · have := implPathOf_in s.data.toList w hml (by rw [Array.length_toList]; exact h)
    exact this
  · exact implPathOf_long s w (by omega)

end Go.Proofs.YtnmbnebofbdmfaaGreatDoor
namespace Go.Proofs.YtnmbnebofbdmfaaGreatDoor
open Go.RowKit
set_option linter.unusedVariables false

theorem ext_tail (b : UInt8) (t : List UInt8) : (strL (b :: t)).extract 1 (strL (b :: t)).size = strL t := by
  apply ByteArray.ext
  simp [strL, ByteArray.size]
theorem ext_head (b : UInt8) (t : List UInt8) : (strL (b :: t)).extract 0 1 = strL [b] := by
  apply ByteArray.ext
  simp [strL]
theorem emp_cons (b : UInt8) (t : List UInt8) : (strL (b :: t)).toList.isEmpty = false := by rw [Lib.toList_data]; rfl
theorem emp_nil : (strL []).toList.isEmpty = true := by rw [Lib.toList_data]; rfl

theorem pos_cons (b : UInt8) (t : List UInt8) : 0 < (strL (b :: t)).size := by rw [strL_size]; simp
theorem at_head (b : UInt8) (t : List UInt8) (h : 0 < (strL (b :: t)).size) : (strL (b :: t))[0] = b := rfl
theorem ne_head {b : UInt8} {t : List UInt8} {v : Nat} (hv : v < 256) (h : 0 < (strL (b :: t)).size) (hb : b ≠ UInt8.ofNat v) : (((strL (b :: t))[0].toNat : Int) != (v : Int)) = true := by
  rw [at_head]
  cases hc : ((b.toNat : Int) == (v : Int)) with
  | true => exact absurd ((byte_eq b v hv).1 hc) hb
  | false => rw [bne, hc]; rfl
theorem is_head {b : UInt8} {t : List UInt8} {v : Nat} (hv : v < 256) (h : 0 < (strL (b :: t)).size) (hb : b = UInt8.ofNat v) : (((strL (b :: t))[0].toNat : Int) != (v : Int)) = false := by
  rw [at_head, bne, (byte_eq b v hv).2 hb]
  rfl

theorem eq_head {b : UInt8} {t : List UInt8} {v : Nat} (hv : v < 256) (h : 0 < (strL (b :: t)).size) (hb : b = UInt8.ofNat v) : (((strL (b :: t))[0].toNat : Int) == (v : Int)) = true := by
  rw [at_head, (byte_eq b v hv).2 hb]
theorem nq_head {b : UInt8} {t : List UInt8} {v : Nat} (hv : v < 256) (h : 0 < (strL (b :: t)).size) (hb : b ≠ UInt8.ofNat v) : (((strL (b :: t))[0].toNat : Int) == (v : Int)) = false := by
  rw [at_head]
  cases hc : ((b.toNat : Int) == (v : Int)) with
  | true => exact absurd ((byte_eq b v hv).1 hc) hb
  | false => rfl

theorem allN_none {l r : List UInt8} {xs : List (List UInt8)} (h : allN (segsOf l) = (allN (segsOf r)).map (xs ++ ·)) (hr : allN (segsOf r) = none) : allN (segsOf l) = none := by rw [h, hr]; rfl

/-- A slice with room for what it holds. -/
def CapS (v : Value) : Prop := ∃ a n c, v = .slice a n c ∧ n ≤ c
/-- What l3Path answers, and its list has room for what it holds. -/
def NamesC (s : List UInt8) (w : World) (e : Ending) (w' : World) : Prop :=
  ∃ v g, e = .returned (.tuple #[v, .bool (namesL s).isSome]) ∧ w.heap.size ≤ g ∧ OwnS w' g v (namesN s) (namesF s) ∧ Below w.heap.size w w' ∧ CapS v
theorem NamesC.no {s : List UInt8} {w w' : World} (h : namesL s = none) (hb : Below w.heap.size w w') : NamesC s w (.returned (.tuple #[.slice none 0 0, .bool false])) w' := by
  obtain ⟨v, g, h1, h2, h3, h4⟩ := NamesIs.no h hb
  refine ⟨_, g, ?_, h2, ?_, h4, none, 0, 0, rfl, Nat.le_refl _⟩
  · rw [h]; rfl
  · have e : v = .slice none 0 0 := by
      have h5 := Ending.returned.inj h1
      simp at h5
      exact h5.1.symm
    rw [← e]
    exact h3
theorem NamesC.yes {s : List UInt8} {l : List (List UInt8)} {w w' : World} {v : Value} {B : Nat} (h : namesL s = some l) (hl : l.length ≤ 2 ^ 30) (hB : w.heap.size ≤ B) (ho : w'.ownsRow B 9 1 v l.length (strCells l)) (hb : Below w.heap.size w w') : NamesC s w (.returned (.tuple #[v, .bool true])) w' := by
  obtain ⟨g, hg, hi⟩ := own_rowS ho hl
  refine ⟨v, g, by rw [h]; rfl, by omega, by unfold namesN namesF; rw [h]; exact hi, hb, ?_⟩
  rcases ho.2 with ⟨rfl, _⟩ | ⟨g', cap, cur, rfl, _, _, hle, _⟩
  · exact ⟨_, _, _, rfl, Nat.le_refl _⟩
  · exact ⟨_, _, _, rfl, hle⟩

end Go.Proofs.YtnmbnebofbdmfaaGreatDoor
