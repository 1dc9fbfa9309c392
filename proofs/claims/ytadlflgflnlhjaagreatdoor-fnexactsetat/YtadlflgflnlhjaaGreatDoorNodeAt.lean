/- The part of a name, and the node that names lead to: the program's partNamed and nodeAt. The node that names lead to: the program's nodeAt. -/
import Derived.Test.YtadlflgflnlhjaaGreatDoorPartsIt
import Derived.Test.YtadlflgflnlhjaaGreatDoorStrs0
import Derived.Maps.AppendAt
import Derived.Test.YtadlflgflnlhjaaGreatDoorPathT0
namespace Go.Proofs.YtadlflgflnlhjaaGreatDoor
open Go.RowKit Go.Shelf
set_option linter.unusedVariables false
attribute [local go_sem] Oper.semAt_some

/-- The number of the first of that name. -/
def findP (l : List (ByteArray × Nat)) (name : ByteArray) : Option Nat := (l.find? fun x => x.1.toList == name.toList).map (·.2)
def PartIs (l : List (ByteArray × Nat)) (name : ByteArray) (w : World) (e : Ending) (w' : World) : Prop :=
  e = .returned (.tuple #[.int .i64 (((findP l name).getD 0 : Nat) : Int), .bool (findP l name).isSome]) ∧ Below w.heap.size w w'

def noneOf (name : ByteArray) (pre : List (ByteArray × Nat)) : Prop := ∀ x ∈ pre, (x.1.toList == name.toList) = false
def hitOf (name : ByteArray) (pre : List (ByteArray × Nat)) : Prop := ∃ pre0 x, pre = pre0 ++ [x] ∧ noneOf name pre0 ∧ (x.1.toList == name.toList) = true
def lastN (pre : List (ByteArray × Nat)) : Nat := (pre.getLast?.map (·.2)).getD 0
theorem find_none {name : ByteArray} {l : List (ByteArray × Nat)} (h : noneOf name l) : findP l name = none := by
  unfold findP
  rw [List.find?_eq_none.2 (fun x hx => by simp [h x hx])]
  rfl
theorem find_hit {name : ByteArray} {pre l : List (ByteArray × Nat)} (h : hitOf name pre) (hp : pre <+: l) : findP l name = some (lastN pre) := by
  obtain ⟨pre0, x, rfl, h0, hx⟩ := h
  obtain ⟨t, rfl⟩ := hp
  unfold findP lastN
  rw [List.append_assoc, List.find?_append, List.find?_eq_none.2 (fun y hy => by simp [h0 y hy])]
  simp [hx]

theorem keep3_b {w : World} {b1 b2 b3 : Nat} (h1 : b1 < w.heap.size) (h2 : b2 < w.heap.size) (h3 : b3 < w.heap.size) : ∀ (W : World) (l : Nat) (o o' : Obj), w.heap.size ≤ l → W.heap[l]? = some o → o.isCells = false → o.isWalk = false → Keep3 b1 b2 b3 W (W.putObj l o') := by
  intro W l o o' hl ho _ _
  have hlt : l < W.heap.size := (Array.getElem?_eq_some_iff.1 ho).1
  have hg := grownBy_putObj' W l o'
  exact ⟨hg.size, hg.block _ (by omega) (by simp; omega), hg.block _ (by omega) (by simp; omega), hg.block _ (by omega) (by simp; omega)⟩

set_option maxRecDepth 100000 in
set_option maxHeartbeats 4000000 in
theorem partNamed_in (b off c len k : Nat) (N : Nat → Nd) (name : ByteArray) (w : World) (hlen : len ≤ 80) (hk : k < len) (hup : ∀ i, i < len → (N i).up = (k : Int) → k < i) (hb : b < w.heap.size) (hat : NodesAt w b off len N) :
    CallsIn Fence.wide 5 Tryz.prog 100 #[.slice (some ⟨b, off, none⟩) len c, .int .i64 (k : Int), .string name] w (PartIs (partsTo N k len) name w) := by
  refine callsIn_of_wp_marks Tryz.func100 rfl trivial ?_ rfl
  simp only [Tryz.ntmps100, List.size_toArray, List.length_cons, List.length_nil, Nat.reduceAdd, Nat.reduceSub, Array.replicate_succ, Array.replicate_zero, List.push_toArray, List.append_toArray, List.nil_append, List.cons_append]
  gi_wp2_with fail
  refine ⟨trivial, (partsOf_in _ _ _ _ _ _).mono ?_⟩
  rintro e w' ⟨rfl, rfl⟩
  have bS := Boxed.new w 9 (.string name)
  have bR := Boxed.new (w.alloc (.cells #[.string name] 9)) 3 (.int .i64 0)
  have bQ := Boxed.new ((w.alloc (.cells #[.string name] 9)).alloc (.cells #[.int .i64 0] 3)) 4 (.bool false)
  have bN := Boxed.new (((w.alloc (.cells #[.string name] 9)).alloc (.cells #[.int .i64 0] 3)).alloc (.cells #[.bool false] 4)) 26 (.slice (some ⟨b, off, none⟩) len c)
  have bK := Boxed.new ((((w.alloc (.cells #[.string name] 9)).alloc (.cells #[.int .i64 0] 3)).alloc (.cells #[.bool false] 4)).alloc (.cells #[.slice (some ⟨b, off, none⟩) len c] 26)) 3 (.int .i64 (k : Int))
  simp only [World.size_alloc] at bR bQ bN bK
  have hB0 : Below w.heap.size w (((((w.alloc (.cells #[.string name] 9)).alloc (.cells #[.int .i64 0] 3)).alloc (.cells #[.bool false] 4)).alloc (.cells #[.slice (some ⟨b, off, none⟩) len c] 26)).alloc (.cells #[.int .i64 (k : Int)] 3)) := (((((Below.refl _ w).alloc (Nat.le_refl _) _).alloc (by simp) _).alloc (by simp; omega) _).alloc (by simp; omega) _).alloc (by simp; omega) _
  gi_wp2_with fail
  refine wpIn_rangeFunc_ownG rfl (by decide) (gf := 126) (lb := #[.pointer (some ⟨w.heap.size + 1 + 1 + 1, 0, none⟩), .pointer (some ⟨w.heap.size + 1 + 1 + 1 + 1, 0, none⟩)]) rfl trivial (enters_of Tryz.func126 (by kernel_rfl) rfl)
    (parts_stops 4 (w.heap.size + 1 + 1 + 1) (w.heap.size + 1 + 1 + 1 + 1) b off c len k N (by decide) hlen hk hup (Keep3 b (w.heap.size + 1 + 1 + 1) (w.heap.size + 1 + 1 + 1 + 1)) (fun _ _ h => h) _ (by simp) (by simp) (by simp; omega) (bN.alloc _).cell bK.cell (hat.below hB0 hb)) (fun h k => h.trans k) (keep3_b (by simp; omega) (by simp) (by simp)) (Below.refl _ _) (fun _ => rfl)
    (fun pre W => (noneOf name pre ∧ (Boxed W w.heap.size 9 (.string name) ∧ (Boxed W (w.heap.size + 1) 3 (.int .i64 0) ∧ Boxed W (w.heap.size + 1 + 1) 4 (.bool false)))) ∧ Below w.heap.size w W)
    (fun c pre W => ((c = .ret ∧ hitOf name pre) ∧ (Boxed W (w.heap.size + 1) 3 (.int .i64 (lastN pre : Nat)) ∧ Boxed W (w.heap.size + 1 + 1) 4 (.bool true))) ∧ Below w.heap.size w W)
    (OwnFrom.and (OwnFrom.and (ownFrom_pure _ _) (OwnFrom.and (Own.from (boxed_own _ _ _) _) (OwnFrom.and (Own.from (boxed_own _ _ _) _) (Own.from (boxed_own _ _ _) _)))) (ownFrom_below (Nat.le_refl _) (by simp; omega)))
    (fun c => OwnFrom.and (OwnFrom.and (ownFrom_pure _ _) (OwnFrom.and (Own.from (boxed_own _ _ (fun pre => .int .i64 (lastN pre : Nat))) _) (Own.from (boxed_own _ _ _) _))) (ownFrom_below (Nat.le_refl _) (by simp; omega)))
    ⟨⟨fun x hx => by simp at hx, (((bS.alloc _).alloc _).alloc _).alloc _, ((bR.alloc _).alloc _).alloc _, (bQ.alloc _).alloc _⟩, hB0⟩
    (fun x => { tmps := #[.slice (some ⟨b, off, none⟩) len c, .int .i64 (k : Int), .string name, undef, undef, .pointer (some ⟨w.heap.size, 0, none⟩), .pointer (some ⟨w.heap.size + 1, 0, none⟩), .pointer (some ⟨w.heap.size + 1 + 1, 0, none⟩), .string x.1, .int .i64 (x.2 : Int), .slice (some ⟨b, off, none⟩) len c, .int .i64 (k : Int), .func (.func 126) #[] #[.pointer (some ⟨w.heap.size + 1 + 1 + 1, 0, none⟩), .pointer (some ⟨w.heap.size + 1 + 1 + 1 + 1, 0, none⟩)], .string x.1, .int .i64 (x.2 : Int), undef, undef, undef, undef], defers := [] }) ?assign ?body ?done ?stop
  case assign =>
    intro l x W K hK
    dsimp only [encSP]
    gi_wp2
    exact hK
  case body =>
    rintro l pre ⟨nm, p⟩ W ⟨⟨hno, hbS, hbR, hbQ⟩, hB⟩ hlt
    have cS := hbS.cell
    cases heq : (nm.toList == name.toList) with
    | true =>
      have cR := hbR.cell
      have fR := hbR.frozen
      have hQ1 : Boxed (W.setCell ⟨w.heap.size + 1, 0, none⟩ (.int .i64 (p : Int))) (w.heap.size + 1 + 1) 4 (.bool false) := hbQ.other (by omega) _
      have cQ1 := hQ1.cell
      have fQ1 := hQ1.frozen
      have hQ2 := hQ1.set (.bool true)
      have hR2 := (hbR.set (.int .i64 (p : Int))).other (show w.heap.size + 1 ≠ w.heap.size + 1 + 1 by omega) (.bool true)
      gi_wp2
      exact ⟨((KeepsOthers.setCell _ _ _).trans (KeepsOthers.setCell _ _ _)).from _, ⟨⟨rfl, pre, (nm, p), rfl, hno, heq⟩, by simpa [lastN] using hR2, hQ2⟩, (hB.setCell (p := ⟨w.heap.size + 1, 0, none⟩) (by simp) _).setCell (p := ⟨w.heap.size + 1 + 1, 0, none⟩) (by simp; omega) _⟩
    | false =>
      gi_wp2
      exact ⟨KeepsFrom.refl _ _, Keep3.refl _ _ _ _, ⟨fun x hx => by rcases List.mem_append.1 hx with hx | hx; exact hno x hx; simp at hx; subst hx; exact heq, hbS, hbR, hbQ⟩, hB⟩
  case done =>
    rintro D ys W hD rfl ⟨⟨hno, hbS, hbR, hbQ⟩, hB⟩ hK
    have HF : Hid (findP (partsTo N k len) name = none) := find_none hno
    have cR := hbR.cell
    have fR := hbR.frozen
    have hQ1 : Boxed (W.setCell ⟨w.heap.size + 1, 0, none⟩ (.int .i64 0)) (w.heap.size + 1 + 1) 4 (.bool false) := hbQ.other (by omega) _
    have cQ1 := hQ1.cell
    have fQ1 := hQ1.frozen
    have hQ2 := hQ1.set (.bool false)
    have hR2 := (hbR.set (.int .i64 0)).other (show w.heap.size + 1 ≠ w.heap.size + 1 + 1 by omega) (.bool false)
    have hK' := ((KeepsOthers.setCell W ⟨w.heap.size + 1, 0, none⟩ (.int .i64 0)).trans (KeepsOthers.setCell _ ⟨w.heap.size + 1 + 1, 0, none⟩ (.bool false))).same D _ hK rfl
    have hB2 := (hB.setCell (p := ⟨w.heap.size + 1, 0, none⟩) (by simp) (.int .i64 0)).setCell (p := ⟨w.heap.size + 1 + 1, 0, none⟩) (by simp; omega) (.bool false)
    gi_wp2
    refine ⟨by simp, .inl ⟨_, _, rfl, run_takeDeferred hK', ?_⟩⟩
    have kR := cell_kept hR2.cell (grownBy_putObj' _ D (.deferred none)) (fun r e => by cases e; exact ⟨_, hK', rfl⟩)
    have kQ := cell_kept hQ2.cell (grownBy_putObj' _ D (.deferred none)) (fun r e => by cases e; exact ⟨_, hK', rfl⟩)
    refine ⟨.tuple #[.int .i64 0, .bool false], ?_, by rw [HF.out]; rfl, hB2.trans (belowK_b (w := w) (Nat.le_refl _) _ D _ _ (by simp at hD; omega) hK' rfl rfl)⟩
    simp [results, Tryz.f100, go_sem, kR, kQ]
  case stop =>
    rintro D c' pre W hD hpre ⟨⟨⟨rfl, hhit⟩, hbR, hbQ⟩, hB⟩ hK
    have HF : Hid (findP (partsTo N k len) name = some (lastN pre)) := find_hit hhit hpre
    gi_wp2
    refine ⟨by simp, .inl ⟨_, _, rfl, run_takeDeferred hK, ?_⟩⟩
    have kR := cell_kept hbR.cell (grownBy_putObj' _ D (.deferred none)) (fun r e => by cases e; exact ⟨_, hK, rfl⟩)
    have kQ := cell_kept hbQ.cell (grownBy_putObj' _ D (.deferred none)) (fun r e => by cases e; exact ⟨_, hK, rfl⟩)
    refine ⟨.tuple #[.int .i64 (lastN pre : Nat), .bool true], ?_, by rw [HF.out]; rfl, hB.trans (belowK_b (w := w) (Nat.le_refl _) _ D _ _ (by simp at hD; omega) hK rfl rfl)⟩
    simp [results, Tryz.f100, go_sem, kR, kQ]

end Go.Proofs.YtadlflgflnlhjaaGreatDoor
namespace Go.Proofs.YtadlflgflnlhjaaGreatDoor
open Go.RowKit
set_option linter.unusedVariables false

/-- The node that names lead to, from k on. -/
def goN (N : Nat → Nd) (len : Nat) : Nat → List ByteArray → Option Nat
  | k, [] => some k
  | k, nm :: r => (findP (partsTo N k len) nm).bind fun p => goN N len p r

theorem parts_mem {N : Nat → Nd} {k j : Nat} {x : ByteArray × Nat} (h : x ∈ partsTo N k j) : x.2 ∈ kidsTo N k j := by
  unfold partsTo at h
  obtain ⟨y, hy, rfl⟩ := List.mem_map.1 h
  exact (List.mem_zipIdx' hy).2 ▸ List.getElem_mem _
theorem findP_kid {N : Nat → Nd} {k len p : Nat} {nm : ByteArray} (h : findP (partsTo N k len) nm = some p) : p ∈ kidsTo N k len := by
  unfold findP at h
  obtain ⟨x, hx, rfl⟩ := Option.map_eq_some_iff.1 h
  exact parts_mem (List.mem_of_find?_eq_some hx)

theorem lst_drop (f : Nat → ByteArray) {m i : Nat} (h : i < m) : (lst f m).drop i = f i :: (lst f m).drop (i + 1) := by
  rw [List.drop_eq_getElem_cons (by rw [lst_length]; exact h)]
  congr 1
  simp [lst]

set_option maxRecDepth 100000 in
set_option maxHeartbeats 2000000 in
theorem nodeAt_any (b off c len : Nat) (N : Nat → Nd) (a : Option Addr) (ca m : Nat) (f : Nat → ByteArray) (w : World) (hlen : len ≤ 80) (h0 : 0 < len) (hpre : ∀ i, i < len → (N i).up < (i : Int)) (hb : b < w.heap.size) (hat : NodesAt w b off len N) (hm : m ≤ 2 ^ 20) (ha : ArgS w a m f) :
    Calls Tryz.prog 73 #[.slice (some ⟨b, off, none⟩) len c, .slice a m ca] w fun e w' => e = .returned (.tuple #[.int .i64 (((goN N len 0 (lst f m)).getD 0 : Nat) : Int), .bool (goN N len 0 (lst f m)).isSome]) ∧ Below w.heap.size w w' := by
  have HAT : Hid (NodesAt w b off len N) := hat
  have HPR : Hid (∀ i, i < len → (N i).up < (i : Int)) := hpre
  have HA : Hid (ArgS w a m f) := ha
  clear hat hpre ha
  go_enter Tryz.func73, Tryz.ntmps73
  go_wp2_with fail
  go_loopw [6, 13] (fun kv iv wr => ∃ (i k : Nat), i ≤ m ∧ iv = .int .i64 (i : Int) ∧ kv = .int .i64 (k : Int) ∧ k < len ∧ Hid (goN N len 0 (lst f m) = goN N len k ((lst f m).drop i)) ∧ Below w.heap.size w wr) (fun _ iv _ => m - (intOf iv).toNat)
  case atStart => exact ⟨0, 0, Nat.zero_le _, rfl, rfl, h0, rfl, Below.refl _ _⟩
  case round =>
    obtain ⟨i, k, hi, rfl, rfl, hk, HG, hnx⟩ := hrel
    by_cases hlt : i < m
    · rcases HA.out with h0' | ⟨ba, oa, rfl, hba, haa⟩
      · omega
      have a0 := (hnx.cell hba).trans (haa i hlt)
      have i0 : (0 : Int) ≤ (i : Int) := by omega
      have i1 : (i : Int) < (m : Int) := by omega
      have HS : Hid (goN N len 0 (lst f m) = (findP (partsTo N k len) (f i)).bind fun p => goN N len p ((lst f m).drop (i + 1))) := by
        show _ = _
        rw [HG.out, lst_drop f hlt, goN]
      have hz := hnx.size
      clear haa
      go_wp2_with fail
      refine ((callsIn_wide (n := 5)).1 (partNamed_in b off c len k N (f i) _ hlen hk (fun j hj hu => by have := HPR.out j hj; omega) (by omega) (HAT.out.below hnx hb))).mono ?_
      rintro e w1 ⟨rfl, hb1⟩
      have HB : Hid (Below w.heap.size w w1) := hnx.trans (hb1.mono hz)
      clear hb1
      cases hf : findP (partsTo N k len) (f i) with
      | none =>
        have HN : Hid (goN N len 0 (lst f m) = none) := by show _ = _; rw [HS.out, hf]; rfl
        dsimp only [Option.getD, Option.isSome]
        go_wp2
        exact bodyPost_ret (v := .tuple #[.int .i64 0, .bool false]) (by simp [results, Tryz.results73, go_sem]) rfl ⟨by rw [HN.out]; rfl, HB.out⟩
      | some p =>
        have HS2 : Hid (goN N len 0 (lst f m) = goN N len p ((lst f m).drop (i + 1))) := by show _ = _; rw [HS.out, hf]; rfl
        have hp : p < len := (kidsTo_mem (findP_kid hf)).2.1
        dsimp only [Option.getD, Option.isSome]
        go_wp2
        go_roundw
        case rel => exact ⟨i + 1, p, by omega, by go_num, rfl, hp, HS2, HB.out⟩
        case measure => simp [intOf]; omega
    · obtain rfl : i = m := by omega
      have HN : Hid (goN N len 0 (lst f i) = some k) := by
        show _ = _
        rw [HG.out, List.drop_of_length_le (by rw [lst_length]; exact Nat.le_refl _), goN]
      go_wp2
      exact bodyPost_ret (v := .tuple #[.int .i64 (k : Int), .bool true]) (by simp [results, Tryz.results73, go_sem]) rfl ⟨by rw [HN.out]; rfl, hnx⟩

end Go.Proofs.YtadlflgflnlhjaaGreatDoor
