/- Where a part that is not there yet would be put: the program's newPlace. Where a part is put: the program's placeFor. The nodes of a whole value as those of a part: the program's partAt, and slices.Clone of nodes. A value's nodes with another part: the program's setNodes. What setting at a path answers: by trees, and the facts on it that both sides need. No program in this text. A value with another part at a path: the program. -/
import Derived.Test.YtadlflgflnlhjaaGreatDoorNodeAt
import Derived.Test.YtadlflgflnlhjaaGreatDoorSetG
import Derived.Test.YtadlflgflnlhjaaGreatDoorPutB
import Derived.Stop.RegionWithIn
import Derived.Test.YtadlflgflnlhjaaGreatDoorL1Put
import Derived.Test.YtadlflgflnlhjaaGreatDoorRemIM
import Derived.Test.YtadlflgflnlhjaaGreatDoorHasA
import Derived.Test.YtadlflgflnlhjaaGreatDoorPathC
namespace Go.Proofs.YtadlflgflnlhjaaGreatDoor
open Go.RowKit Go.Shelf
set_option linter.unusedVariables false
attribute [local go_sem] Oper.semAt_some

def noGr (name : ByteArray) (pre : List (ByteArray × Nat)) : Prop := ∀ x ∈ pre, nameLess name x.1 = false
def hitGr (name : ByteArray) (pre : List (ByteArray × Nat)) : Prop := ∃ pre0 x, pre = pre0 ++ [x] ∧ noGr name pre0 ∧ nameLess name x.1 = true
/-- A statement that ends in no other way. -/
theorem wpIn_calm {F : Fence} {n : Nat} {P : Program} {c : Code} {K : Act → World → Prop} {Q : Exit → Act → World → Prop} {a : Act} {w : World} (h : c.wpIn F n P (Exit.then K fun _ _ _ => False) a w) : c.wpIn F n P (Exit.then K Q) a w := wpIn_mono h (fun e a w h => by cases e <;> first | exact h | exact h.elim)
theorem drew_cell {W : World} {a : Addr} {v : Value} (h : W.cell? a = some v) : W.drew.cell? a = some v := h
theorem drew_heap {W : World} {l : Nat} {o : Obj} (h : W.heap[l]? = some o) : W.drew.heap[l]? = some o := h
theorem strL_list (l : List UInt8) : (strL l).toList = l := by unfold strL; rw [ByteArray.toList_eq]
theorem kidsTo_le (N : Nat → Nd) (k : Nat) : ∀ j, (kidsTo N k j).length ≤ j := by
  intro j
  induction j with
  | zero => exact Nat.le_refl _
  | succ j ih =>
    rw [kidsTo]
    split
    · rw [List.length_append]; simp; omega
    · omega
theorem gtr_is (nm name : ByteArray) : (!Op.bytesLess nm.toList name.toList && !nm.toList == name.toList) = nameLess name nm := by
  unfold nameLess
  rw [less_total name.toList nm.toList, Bool.not_or]
theorem parts_name {N : Nat → Nd} {k n i p : Nat} (h7 : (N k).kind = 7) (h : (kidsTo N k n)[i]? = some p) : (partsTo N k n)[i]? = some ((N p).name, p) := by
  rw [parts_at h]
  unfold nmAt
  rw [if_neg (by omega)]
theorem new_hit {N : Nat → Nd} {k n : Nat} {name : ByteArray} {pre : List (ByteArray × Nat)} (h7 : (N k).kind = 7) (h : hitGr name pre) (hp : pre <+: partsTo N k n) : NewAt N n k name (lastN pre) := by
  obtain ⟨pre0, x, rfl, h0, hx⟩ := h
  obtain ⟨t, ht⟩ := hp
  have hlast : lastN (pre0 ++ [x]) = x.2 := by unfold lastN; simp
  have hix : (partsTo N k n)[pre0.length]? = some x := by rw [← ht, List.append_assoc, List.getElem?_append_right (Nat.le_refl _)]; simp
  have hil : pre0.length < (kidsTo N k n).length := by
    have := (List.getElem?_eq_some_iff.1 hix).1
    rwa [partsTo_len] at this
  have hki : (kidsTo N k n)[pre0.length]? = some (kidsTo N k n)[pre0.length] := List.getElem?_eq_getElem hil
  have e := (parts_name h7 hki).symm.trans hix
  obtain rfl := Option.some.inj e
  rw [hlast]
  refine .inr ⟨h7, .inl ⟨pre0.length, hki, hx, fun j c hj hc => ?_⟩⟩
  have hjx := parts_name h7 hc
  have hmem : ((N c).name, c) ∈ pre0 := by
    rw [← ht, List.append_assoc, List.getElem?_append_left hj] at hjx
    exact List.mem_of_getElem? hjx
  exact h0 _ hmem
theorem new_end {N : Nat → Nd} {k n en : Nat} {name : ByteArray} (h7 : (N k).kind = 7) (h : noGr name (partsTo N k n)) (hen : IsEnd N n k en) : NewAt N n k name en := by
  refine .inr ⟨h7, .inr ⟨fun c hc => ?_, hen⟩⟩
  obtain ⟨i, hi⟩ := List.mem_iff_getElem?.1 hc
  exact h _ (List.mem_of_getElem? (parts_name h7 hi))
def NewIs (N : Nat → Nd) (n k : Nat) (name : ByteArray) (w : World) (e : Ending) (w' : World) : Prop :=
  ∃ (p : Nat) (q : Bool), e = .returned (.tuple #[.int .i64 (p : Int), .bool q]) ∧ (q = true → NewAt N n k name p) ∧ (q = false → (N k).kind ≠ 7 ∧ ((N k).kind ≠ 6 ∨ numIs N n k name = false)) ∧ Below w.heap.size w w'

set_option maxRecDepth 100000 in
set_option maxHeartbeats 4000000 in
theorem newPlace_map (b off c len k : Nat) (N : Nat → Nd) (name : ByteArray) (w : World) (hlen : len ≤ 80) (hk : k < len) (hup : ∀ i, i < len → (N i).up = (k : Int) → k < i) (hb : b < w.heap.size) (hat : NodesAt w b off len N) (h7 : (N k).kind = 7) :
    CallsIn Fence.wide 5 Tryz.prog 102 #[.slice (some ⟨b, off, none⟩) len c, .int .i64 (k : Int), .string name] w (NewIs N len k name w) := by
  refine callsIn_of_wp_marks Tryz.func102 rfl trivial ?_ rfl
  simp only [Tryz.ntmps102, List.size_toArray, List.length_cons, List.length_nil, Nat.reduceAdd, Nat.reduceSub, Array.replicate_succ, Array.replicate_zero, List.push_toArray, List.append_toArray, List.nil_append, List.cons_append]
  gi_wp2_with fail
  have hB3 : Below w.heap.size w (((w.alloc (.cells #[.string name] 9)).alloc (.cells #[.int .i64 0] 3)).alloc (.cells #[.bool false] 4)) := (((Below.refl _ w).alloc (Nat.le_refl _) _).alloc (by simp) _).alloc (by simp; omega) _
  refine ⟨trivial, ((callsIn_wide (n := 4)).2 (endOf_any b off c len k N _ hk (by omega) (hat.below hB3 hb))).mono ?_⟩
  rintro e w1 ⟨en, rfl, hen, rfl⟩
  have HEN : Hid (IsEnd N len k en) := hen
  have kd := (hat.below hB3 hb k hk).1
  rw [h7] at kd
  have i0 : (0 : Int) ≤ (k : Int) := by omega
  have i1 : (k : Int) < (len : Int) := by omega
  clear hen
  gi_wp2_with fail
  refine ⟨trivial, (partsOf_in _ _ _ _ _ _).mono ?_⟩
  rintro e w' ⟨rfl, rfl⟩
  have bS := Boxed.new w 9 (.string name)
  have bR := Boxed.new (w.alloc (.cells #[.string name] 9)) 3 (.int .i64 0)
  have bQ := Boxed.new ((w.alloc (.cells #[.string name] 9)).alloc (.cells #[.int .i64 0] 3)) 4 (.bool false)
  have bN := Boxed.new (((w.alloc (.cells #[.string name] 9)).alloc (.cells #[.int .i64 0] 3)).alloc (.cells #[.bool false] 4)) 26 (.slice (some ⟨b, off, none⟩) len c)
  have bK := Boxed.new ((((w.alloc (.cells #[.string name] 9)).alloc (.cells #[.int .i64 0] 3)).alloc (.cells #[.bool false] 4)).alloc (.cells #[.slice (some ⟨b, off, none⟩) len c] 26)) 3 (.int .i64 (k : Int))
  simp only [World.size_alloc] at bR bQ bN bK
  have hB0 : Below w.heap.size w (((((w.alloc (.cells #[.string name] 9)).alloc (.cells #[.int .i64 0] 3)).alloc (.cells #[.bool false] 4)).alloc (.cells #[.slice (some ⟨b, off, none⟩) len c] 26)).alloc (.cells #[.int .i64 (k : Int)] 3)) := (((((Below.refl _ w).alloc (Nat.le_refl _) _).alloc (by simp) _).alloc (by simp; omega) _).alloc (by simp; omega) _).alloc (by simp; omega) _
  clear kd hB3
  gi_wp2_with fail
  refine wpIn_rangeFunc_ownG rfl (by decide) (gf := 126) (lb := #[.pointer (some ⟨w.heap.size + 1 + 1 + 1, 0, none⟩), .pointer (some ⟨w.heap.size + 1 + 1 + 1 + 1, 0, none⟩)]) rfl trivial (enters_of Tryz.func126 (by kernel_rfl) rfl)
    (parts_stops 4 (w.heap.size + 1 + 1 + 1) (w.heap.size + 1 + 1 + 1 + 1) b off c len k N (by decide) hlen hk hup (Keep3 b (w.heap.size + 1 + 1 + 1) (w.heap.size + 1 + 1 + 1 + 1)) (fun _ _ h => h) _ (by simp) (by simp) (by simp; omega) (bN.alloc _).cell bK.cell (hat.below hB0 hb)) (fun h k => h.trans k) (keep3_b (by simp; omega) (by simp) (by simp)) (Below.refl _ _) (fun _ => rfl)
    (fun pre W => (noGr name pre ∧ (Boxed W w.heap.size 9 (.string name) ∧ (Boxed W (w.heap.size + 1) 3 (.int .i64 0) ∧ Boxed W (w.heap.size + 1 + 1) 4 (.bool false)))) ∧ Below w.heap.size w W)
    (fun c pre W => ((c = .ret ∧ hitGr name pre) ∧ (Boxed W (w.heap.size + 1) 3 (.int .i64 (lastN pre : Nat)) ∧ Boxed W (w.heap.size + 1 + 1) 4 (.bool true))) ∧ Below w.heap.size w W)
    (OwnFrom.and (OwnFrom.and (ownFrom_pure _ _) (OwnFrom.and (Own.from (boxed_own _ _ _) _) (OwnFrom.and (Own.from (boxed_own _ _ _) _) (Own.from (boxed_own _ _ _) _)))) (ownFrom_below (Nat.le_refl _) (by simp; omega)))
    (fun c => OwnFrom.and (OwnFrom.and (ownFrom_pure _ _) (OwnFrom.and (Own.from (boxed_own _ _ (fun pre => .int .i64 (lastN pre : Nat))) _) (Own.from (boxed_own _ _ _) _))) (ownFrom_below (Nat.le_refl _) (by simp; omega)))
    ⟨⟨fun x hx => by simp at hx, (((bS.alloc _).alloc _).alloc _).alloc _, ((bR.alloc _).alloc _).alloc _, (bQ.alloc _).alloc _⟩, hB0⟩
    (fun x => { tmps := #[.slice (some ⟨b, off, none⟩) len c, .int .i64 (k : Int), .string name, undef, undef, .pointer (some ⟨w.heap.size, 0, none⟩), .pointer (some ⟨w.heap.size + 1, 0, none⟩), .pointer (some ⟨w.heap.size + 1 + 1, 0, none⟩), .int .i64 (en : Int), undef, .string x.1, .int .i64 (x.2 : Int), .slice (some ⟨b, off, none⟩) len c, .int .i64 (k : Int), .int .i64 (en : Int), .slice (some ⟨b, off, none⟩) len c, .int .i64 (k : Int), .pointer (some ⟨b, off + k * 5, none⟩), .pointer (some ⟨b, off + k * 5, none⟩), .int .i64 7, .bool false, .bool false, undef, undef, undef, undef, undef, undef, undef, undef, undef, undef, undef, undef, .bool true, .bool true, .slice (some ⟨b, off, none⟩) len c, .int .i64 (k : Int), .func (.func 126) #[] #[.pointer (some ⟨w.heap.size + 1 + 1 + 1, 0, none⟩), .pointer (some ⟨w.heap.size + 1 + 1 + 1 + 1, 0, none⟩)], .string x.1, .int .i64 (x.2 : Int), undef, undef, undef, undef, undef], defers := [] }) ?assign ?body ?done ?stop
  case assign =>
    intro l x W K hK
    dsimp only [encSP]
    gi_wp2
    exact hK
  case body =>
    rintro l pre ⟨nm, p⟩ W ⟨⟨hno, hbS, hbR, hbQ⟩, hB⟩ hlt
    have cS := hbS.cell
    cases heq : (!Op.bytesLess nm.toList name.toList && !nm.toList == name.toList) with
    | true =>
      have cR := hbR.cell
      have fR := hbR.frozen
      have hQ1 : Boxed (W.setCell ⟨w.heap.size + 1, 0, none⟩ (.int .i64 (p : Int))) (w.heap.size + 1 + 1) 4 (.bool false) := hbQ.other (by omega) _
      have cQ1 := hQ1.cell
      have fQ1 := hQ1.frozen
      have hQ2 := hQ1.set (.bool true)
      have hR2 := (hbR.set (.int .i64 (p : Int))).other (show w.heap.size + 1 ≠ w.heap.size + 1 + 1 by omega) (.bool true)
      gi_wp2
      exact ⟨((KeepsOthers.setCell _ _ _).trans (KeepsOthers.setCell _ _ _)).from _, ⟨⟨rfl, pre, (nm, p), rfl, hno, (gtr_is nm name).symm.trans heq⟩, by simpa [lastN] using hR2, hQ2⟩, (hB.setCell (p := ⟨w.heap.size + 1, 0, none⟩) (by simp) _).setCell (p := ⟨w.heap.size + 1 + 1, 0, none⟩) (by simp; omega) _⟩
    | false =>
      gi_wp2
      exact ⟨KeepsFrom.refl _ _, Keep3.refl _ _ _ _, ⟨fun x hx => by rcases List.mem_append.1 hx with hx | hx; exact hno x hx; simp at hx; subst hx; exact (gtr_is nm name).symm.trans heq, hbS, hbR, hbQ⟩, hB⟩
  case done =>
    rintro D ys W hD rfl ⟨⟨hno, hbS, hbR, hbQ⟩, hB⟩ hK
    have HF : Hid (NewAt N len k name en) := new_end h7 hno HEN.out
    have cR := hbR.cell
    have fR := hbR.frozen
    have hQ1 : Boxed (W.setCell ⟨w.heap.size + 1, 0, none⟩ (.int .i64 (en : Int))) (w.heap.size + 1 + 1) 4 (.bool false) := hbQ.other (by omega) _
    have cQ1 := hQ1.cell
    have fQ1 := hQ1.frozen
    have hQ2 := hQ1.set (.bool true)
    have hR2 := (hbR.set (.int .i64 (en : Int))).other (show w.heap.size + 1 ≠ w.heap.size + 1 + 1 by omega) (.bool true)
    have hK' := ((KeepsOthers.setCell W ⟨w.heap.size + 1, 0, none⟩ (.int .i64 (en : Int))).trans (KeepsOthers.setCell _ ⟨w.heap.size + 1 + 1, 0, none⟩ (.bool true))).same D _ hK rfl
    have hB2 := (hB.setCell (p := ⟨w.heap.size + 1, 0, none⟩) (by simp) (.int .i64 (en : Int))).setCell (p := ⟨w.heap.size + 1 + 1, 0, none⟩) (by simp; omega) (.bool true)
    gi_wp2
    refine ⟨by simp, .inl ⟨_, _, rfl, run_takeDeferred hK', ?_⟩⟩
    have kR := cell_kept hR2.cell (grownBy_putObj' _ D (.deferred none)) (fun r e => by cases e; exact ⟨_, hK', rfl⟩)
    have kQ := cell_kept hQ2.cell (grownBy_putObj' _ D (.deferred none)) (fun r e => by cases e; exact ⟨_, hK', rfl⟩)
    refine ⟨.tuple #[.int .i64 (en : Int), .bool true], ?_, en, true, rfl, fun _ => HF.out, fun h => by simp at h, hB2.trans (belowK_b (w := w) (Nat.le_refl _) _ D _ _ (by simp at hD; omega) hK' rfl rfl)⟩
    simp [results, Tryz.f102, go_sem, kR, kQ]
  case stop =>
    rintro D c' pre W hD hpre ⟨⟨⟨rfl, hhit⟩, hbR, hbQ⟩, hB⟩ hK
    have HF : Hid (NewAt N len k name (lastN pre)) := new_hit h7 hhit hpre
    gi_wp2
    refine ⟨by simp, .inl ⟨_, _, rfl, run_takeDeferred hK, ?_⟩⟩
    have kR := cell_kept hbR.cell (grownBy_putObj' _ D (.deferred none)) (fun r e => by cases e; exact ⟨_, hK, rfl⟩)
    have kQ := cell_kept hbQ.cell (grownBy_putObj' _ D (.deferred none)) (fun r e => by cases e; exact ⟨_, hK, rfl⟩)
    refine ⟨.tuple #[.int .i64 (lastN pre : Nat), .bool true], ?_, lastN pre, true, rfl, fun _ => HF.out, fun h => by simp at h, hB.trans (belowK_b (w := w) (Nat.le_refl _) _ D _ _ (by simp at hD; omega) hK rfl rfl)⟩
    simp [results, Tryz.f102, go_sem, kR, kQ]

set_option maxRecDepth 100000 in
set_option maxHeartbeats 4000000 in
theorem newPlace_list (b off c len k : Nat) (N : Nat → Nd) (name : ByteArray) (w : World) (hlen : len ≤ 80) (hk : k < len) (hup : ∀ i, i < len → (N i).up = (k : Int) → k < i) (hb : b < w.heap.size) (hat : NodesAt w b off len N) (h6 : (N k).kind = 6) :
    CallsIn Fence.wide 5 Tryz.prog 102 #[.slice (some ⟨b, off, none⟩) len c, .int .i64 (k : Int), .string name] w (NewIs N len k name w) := by
  refine callsIn_of_wp_marks Tryz.func102 rfl trivial ?_ rfl
  simp only [Tryz.ntmps102, List.size_toArray, List.length_cons, List.length_nil, Nat.reduceAdd, Nat.reduceSub, Array.replicate_succ, Array.replicate_zero, List.push_toArray, List.append_toArray, List.nil_append, List.cons_append]
  gi_wp2_with fail
  have hB3 : Below w.heap.size w (((w.alloc (.cells #[.string name] 9)).alloc (.cells #[.int .i64 0] 3)).alloc (.cells #[.bool false] 4)) := (((Below.refl _ w).alloc (Nat.le_refl _) _).alloc (by simp) _).alloc (by simp; omega) _
  refine ⟨trivial, ((callsIn_wide (n := 4)).2 (endOf_any b off c len k N _ hk (by omega) (hat.below hB3 hb))).mono ?_⟩
  rintro e w1 ⟨en, rfl, hen, rfl⟩
  have HEN : Hid (IsEnd N len k en) := hen
  have kd := (hat.below hB3 hb k hk).1
  rw [h6] at kd
  have i0 : (0 : Int) ≤ (k : Int) := by omega
  have i1 : (k : Int) < (len : Int) := by omega
  clear hen
  gi_wp2_with fail
  refine ⟨trivial, (partsOf_in _ _ _ _ _ _).mono ?_⟩
  rintro e w' ⟨rfl, rfl⟩
  have bS := Boxed.new w 9 (.string name)
  have bR := Boxed.new (w.alloc (.cells #[.string name] 9)) 3 (.int .i64 0)
  have bQ := Boxed.new ((w.alloc (.cells #[.string name] 9)).alloc (.cells #[.int .i64 0] 3)) 4 (.bool false)
  have bP := Boxed.new (((w.alloc (.cells #[.string name] 9)).alloc (.cells #[.int .i64 0] 3)).alloc (.cells #[.bool false] 4)) 3 (.int .i64 0)
  have bN := Boxed.new ((((w.alloc (.cells #[.string name] 9)).alloc (.cells #[.int .i64 0] 3)).alloc (.cells #[.bool false] 4)).alloc (.cells #[.int .i64 0] 3)) 26 (.slice (some ⟨b, off, none⟩) len c)
  have bK := Boxed.new (((((w.alloc (.cells #[.string name] 9)).alloc (.cells #[.int .i64 0] 3)).alloc (.cells #[.bool false] 4)).alloc (.cells #[.int .i64 0] 3)).alloc (.cells #[.slice (some ⟨b, off, none⟩) len c] 26)) 3 (.int .i64 (k : Int))
  simp only [World.size_alloc] at bR bQ bP bN bK
  have hB0 : Below w.heap.size w ((((((w.alloc (.cells #[.string name] 9)).alloc (.cells #[.int .i64 0] 3)).alloc (.cells #[.bool false] 4)).alloc (.cells #[.int .i64 0] 3)).alloc (.cells #[.slice (some ⟨b, off, none⟩) len c] 26)).alloc (.cells #[.int .i64 (k : Int)] 3)) := ((((((Below.refl _ w).alloc (Nat.le_refl _) _).alloc (by simp) _).alloc (by simp; omega) _).alloc (by simp; omega) _).alloc (by simp; omega) _).alloc (by simp; omega) _
  clear kd hB3
  gi_wp2_with fail
  refine wpIn_rangeFunc_ownG rfl (by decide) (gf := 126) (lb := #[.pointer (some ⟨w.heap.size + 1 + 1 + 1 + 1, 0, none⟩), .pointer (some ⟨w.heap.size + 1 + 1 + 1 + 1 + 1, 0, none⟩)]) rfl trivial (enters_of Tryz.func126 (by kernel_rfl) rfl)
    (parts_stops 4 (w.heap.size + 1 + 1 + 1 + 1) (w.heap.size + 1 + 1 + 1 + 1 + 1) b off c len k N (by decide) hlen hk hup (Keep3 b (w.heap.size + 1 + 1 + 1 + 1) (w.heap.size + 1 + 1 + 1 + 1 + 1)) (fun _ _ h => h) _ (by simp) (by simp) (by simp; omega) (bN.alloc _).cell bK.cell (hat.below hB0 hb)) (fun h k => h.trans k) (keep3_b (by simp; omega) (by simp) (by simp)) (Below.refl _ _) (fun _ => rfl)
    (fun (pre : List (ByteArray × Nat)) W => (Boxed W w.heap.size 9 (.string name) ∧ (Boxed W (w.heap.size + 1) 3 (.int .i64 0) ∧ (Boxed W (w.heap.size + 1 + 1) 4 (.bool false) ∧ Boxed W (w.heap.size + 1 + 1 + 1) 3 (.int .i64 (pre.length : Nat))))) ∧ Below w.heap.size w W)
    (fun c pre W => False ∧ Below w.heap.size w W)
    (OwnFrom.and (OwnFrom.and (Own.from (boxed_own _ _ _) _) (OwnFrom.and (Own.from (boxed_own _ _ _) _) (OwnFrom.and (Own.from (boxed_own _ _ _) _) (Own.from (boxed_own _ _ (fun (pre : List (ByteArray × Nat)) => .int .i64 (pre.length : Nat))) _)))) (ownFrom_below (Nat.le_refl _) (by simp; omega)))
    (fun c => OwnFrom.and (ownFrom_pure _ _) (ownFrom_below (Nat.le_refl _) (by simp; omega)))
    ⟨⟨((((bS.alloc _).alloc _).alloc _).alloc _).alloc _, (((bR.alloc _).alloc _).alloc _).alloc _, ((bQ.alloc _).alloc _).alloc _, (bP.alloc _).alloc _⟩, hB0⟩
    (fun x => { tmps := #[.slice (some ⟨b, off, none⟩) len c, .int .i64 (k : Int), .string name, undef, undef, .pointer (some ⟨w.heap.size, 0, none⟩), .pointer (some ⟨w.heap.size + 1, 0, none⟩), .pointer (some ⟨w.heap.size + 1 + 1, 0, none⟩), .int .i64 (en : Int), .pointer (some ⟨w.heap.size + 1 + 1 + 1, 0, none⟩), undef, undef, .slice (some ⟨b, off, none⟩) len c, .int .i64 (k : Int), .int .i64 (en : Int), .slice (some ⟨b, off, none⟩) len c, .int .i64 (k : Int), .pointer (some ⟨b, off + k * 5, none⟩), .pointer (some ⟨b, off + k * 5, none⟩), .int .i64 6, .bool true, .bool true, .slice (some ⟨b, off, none⟩) len c, .int .i64 (k : Int), .func (.func 126) #[] #[.pointer (some ⟨w.heap.size + 1 + 1 + 1 + 1, 0, none⟩), .pointer (some ⟨w.heap.size + 1 + 1 + 1 + 1 + 1, 0, none⟩)], .string x.1, .int .i64 (x.2 : Int), undef, undef, undef, undef, undef, undef, undef, undef, undef, undef, undef, undef, undef, undef, undef, undef, undef, undef, undef], defers := [] }) ?assign ?body ?done ?stop
  case assign =>
    intro l x W K hK
    dsimp only [encSP]
    gi_wp2
    exact hK
  case body =>
    rintro l pre ⟨nm, p⟩ W ⟨⟨hbS, hbR, hbQ, hbP⟩, hB⟩ hlt
    have cP := hbP.cell
    have fP := hbP.frozen
    have hl80 : (pre.length : Int) ≤ 80 := by omega
    have hP2 := hbP.set (.int .i64 ((pre.length : Int) + 1))
    have hS2 := hbS.other (show w.heap.size ≠ w.heap.size + 1 + 1 + 1 by omega) (.int .i64 ((pre.length : Int) + 1))
    have hR2 := hbR.other (show w.heap.size + 1 ≠ w.heap.size + 1 + 1 + 1 by omega) (.int .i64 ((pre.length : Int) + 1))
    have hQ2 := hbQ.other (show w.heap.size + 1 + 1 ≠ w.heap.size + 1 + 1 + 1 by omega) (.int .i64 ((pre.length : Int) + 1))
    gi_wp2
    exact ⟨(KeepsOthers.setCell _ _ _).from _, ⟨by simp, Below.heap_setCell _ _ _ _ (by show b ≠ w.heap.size + 1 + 1 + 1; omega), Below.heap_setCell _ _ _ _ (by show w.heap.size + 1 + 1 + 1 + 1 ≠ w.heap.size + 1 + 1 + 1; omega), Below.heap_setCell _ _ _ _ (by show w.heap.size + 1 + 1 + 1 + 1 + 1 ≠ w.heap.size + 1 + 1 + 1; omega)⟩, ⟨hS2, hR2, hQ2, by simpa using hP2⟩, hB.setCell (p := ⟨w.heap.size + 1 + 1 + 1, 0, none⟩) (by show w.heap.size ≤ w.heap.size + 1 + 1 + 1; omega) _⟩
  case done =>
    rintro D ys W hD rfl ⟨⟨hbS, hbR, hbQ, hbP⟩, hB⟩ hK
    rw [partsTo_len] at hbP
    have hkl : (kidsTo N k len).length ≤ 80 := Nat.le_trans (kidsTo_le N k len) hlen
    have cP := hbP.cell
    have cS := hbS.cell
    have HQQ : Hid ((name.toList == Lib.decDigits (kidsTo N k len).length) = numIs N len k name) := by
      show _ = _
      unfold numIs
      rw [strL_list]
      exact Bool.beq_comm
    have cR := hbR.cell
    have fR := hbR.frozen
    have hQ1 : Boxed (W.setCell ⟨w.heap.size + 1, 0, none⟩ (.int .i64 (en : Int))) (w.heap.size + 1 + 1) 4 (.bool false) := hbQ.other (by omega) _
    have cQ1 := hQ1.cell
    have fQ1 := hQ1.frozen
    gi_wp2_with fail
    refine wpIn_calm ?_
    gi_region_with (first | (refine ⟨trivial, (callsIn_wide.2 (Tryz.strconv_Itoa_small (kidsTo N k len).length (by omega) _)).mono ?_⟩; rintro e w0 ⟨rfl, hw0⟩; have hw := hw0.symm; subst hw))
    all_goals
      generalize (name.toList == Lib.decDigits (kidsTo N k len).length) = q at HQQ ⊢
      have hQ2 := hQ1.set (.bool q)
      have hR2 := (hbR.set (.int .i64 (en : Int))).other (show w.heap.size + 1 ≠ w.heap.size + 1 + 1 by omega) (.bool q)
      have hK' := ((KeepsOthers.setCell W ⟨w.heap.size + 1, 0, none⟩ (.int .i64 (en : Int))).trans (KeepsOthers.setCell _ ⟨w.heap.size + 1 + 1, 0, none⟩ (.bool q))).same D _ hK rfl
      have hB2 := (hB.setCell (p := ⟨w.heap.size + 1, 0, none⟩) (by simp) (.int .i64 (en : Int))).setCell (p := ⟨w.heap.size + 1 + 1, 0, none⟩) (by simp; omega) (.bool q)
      gi_wp2
      refine ⟨by simp, .inl ⟨_, _, rfl, run_takeDeferred hK', ?_⟩⟩
      have kR := cell_kept (drew_cell hR2.cell) (grownBy_putObj' _ D (.deferred none)) (fun r e => by cases e; exact ⟨_, drew_heap hK', rfl⟩)
      have kQ := cell_kept (drew_cell hQ2.cell) (grownBy_putObj' _ D (.deferred none)) (fun r e => by cases e; exact ⟨_, drew_heap hK', rfl⟩)
      refine ⟨.tuple #[.int .i64 (en : Int), .bool q], ?_, en, q, rfl, fun h => .inl ⟨h6, HQQ.out.symm.trans h, HEN.out⟩, fun h => ⟨by omega, .inr (HQQ.out.symm.trans h)⟩, hB2.drew.trans (belowK_b (w := w) (Nat.le_refl _) (World.drew _) D _ _ (by simp at hD; omega) hK' rfl rfl)⟩
      simp [results, Tryz.f102, go_sem, kR, kQ]
  case stop =>
    rintro D c' pre W hD hpre ⟨hf, hB⟩ hK
    exact hf.elim

set_option maxRecDepth 100000 in
set_option maxHeartbeats 4000000 in
theorem newPlace_none (b off c len k : Nat) (N : Nat → Nd) (name : ByteArray) (w : World) (hlen : len ≤ 80) (hk : k < len) (hb : b < w.heap.size) (hat : NodesAt w b off len N) (h6 : (N k).kind ≠ 6) (h7 : (N k).kind ≠ 7) :
    Calls Tryz.prog 102 #[.slice (some ⟨b, off, none⟩) len c, .int .i64 (k : Int), .string name] w (NewIs N len k name w) := by
  have hB3 : Below w.heap.size w (((w.alloc (.cells #[.string name] 9)).alloc (.cells #[.int .i64 0] 3)).alloc (.cells #[.bool false] 4)) := (((Below.refl _ w).alloc (Nat.le_refl _) _).alloc (by simp) _).alloc (by simp; omega) _
  have HO : Hid ((N k).kind ≠ 7 ∧ ((N k).kind ≠ 6 ∨ numIs N len k name = false)) := ⟨h7, .inl h6⟩
  have kd := (hat.below hB3 hb k hk).1
  obtain ⟨kk, hkk⟩ : ∃ q, q = (N k).kind := ⟨_, rfl⟩
  rw [← hkk] at kd h6 h7
  have h6' : (kk == 6) = false := by simpa using h6
  have h7' : (kk == 7) = false := by simpa using h7
  have i0 : (0 : Int) ≤ (k : Int) := by omega
  have i1 : (k : Int) < (len : Int) := by omega
  clear hkk
  go_enter Tryz.func102, Tryz.ntmps102
  go_wp2_with fail
  refine (endOf_any b off c len k N _ hk (by omega) (hat.below hB3 hb)).mono ?_
  rintro e w1 ⟨en, rfl, hen, rfl⟩
  clear hen
  go_wp2_with fail
  refine bodyPost_ret (v := .tuple #[.int .i64 0, .bool false]) ?_ rfl ⟨0, false, rfl, fun h => by simp at h, fun _ => HO.out, hB3⟩
  simp [results, Tryz.f102, go_sem]

theorem newPlace_any (b off c len k : Nat) (N : Nat → Nd) (name : ByteArray) (w : World) (hlen : len ≤ 80) (hk : k < len) (hup : ∀ i, i < len → (N i).up = (k : Int) → k < i) (hb : b < w.heap.size) (hat : NodesAt w b off len N) :
    Calls Tryz.prog 102 #[.slice (some ⟨b, off, none⟩) len c, .int .i64 (k : Int), .string name] w (NewIs N len k name w) := by
  by_cases h7 : (N k).kind = 7
  · exact (callsIn_wide (n := 5)).1 (newPlace_map b off c len k N name w hlen hk hup hb hat h7)
  · by_cases h6 : (N k).kind = 6
    · exact (callsIn_wide (n := 5)).1 (newPlace_list b off c len k N name w hlen hk hup hb hat h6)
    · exact newPlace_none b off c len k N name w hlen hk hb hat h6 h7

end Go.Proofs.YtadlflgflnlhjaaGreatDoor
namespace Go.Proofs.YtadlflgflnlhjaaGreatDoor
open Go.RowKit Go.Shelf
set_option linter.unusedVariables false

def PlcIs (N : Nat → Nd) (n ar : Nat) (y : ByteArray) (w : World) (e : Ending) (w' : World) : Prop :=
  ∃ (p en : Nat) (q : Bool), e = .returned (.tuple #[.int .i64 (p : Int), .int .i64 (en : Int), .bool q]) ∧ (q = true → PlaceIs N n ar y p en) ∧ (q = false → NoPlace N n ar y) ∧ Below w.heap.size w w'

set_option maxRecDepth 100000 in
set_option maxHeartbeats 4000000 in
theorem placeFor_any (b off c len k : Nat) (N : Nat → Nd) (name : ByteArray) (w : World) (hlen : len ≤ 80) (hk : k < len) (hup : ∀ i, i < len → (N i).up = (k : Int) → k < i) (hb : b < w.heap.size) (hat : NodesAt w b off len N) :
    Calls Tryz.prog 74 #[.slice (some ⟨b, off, none⟩) len c, .int .i64 (k : Int), .string name] w (PlcIs N len k name w) := by
  go_enter Tryz.func74, Tryz.ntmps74
  go_wp2_with fail
  refine ((callsIn_wide (n := 5)).1 (partNamed_in b off c len k N name _ hlen hk hup hb hat)).mono ?_
  rintro e w1 ⟨rfl, hb1⟩
  have HB : Hid (Below w.heap.size w w1) := hb1
  have HAT : Hid (NodesAt w1 b off len N) := hat.below hb1 hb
  have hz := hb1.size
  clear hb1 hat
  cases hf : findP (partsTo N k len) name with
  | some p =>
    have hp : p < len := (kidsTo_mem (findP_kid hf)).2.1
    have HF : Hid (findP (partsTo N k len) name = some p) := hf
    clear hf
    dsimp only [Option.getD, Option.isSome]
    go_wp2_with fail
    refine (endOf_any b off c len p N _ hp (by omega) HAT.out).mono ?_
    rintro e w2 ⟨en, rfl, hen, rfl⟩
    have HE : Hid (IsEnd N len p en) := hen
    clear hen
    go_wp2
    exact bodyPost_ret (v := .tuple #[.int .i64 (p : Int), .int .i64 (en : Int), .bool true]) (by simp [results, Tryz.results74, go_sem]) rfl ⟨p, en, true, rfl, fun _ => .inl ⟨HF.out, HE.out⟩, fun h => by simp at h, HB.out⟩
  | none =>
    have HF : Hid (findP (partsTo N k len) name = none) := hf
    clear hf
    dsimp only [Option.getD, Option.isSome]
    go_wp2_with fail
    refine (newPlace_any b off c len k N name _ hlen hk hup (by omega) HAT.out).mono ?_
    rintro e w2 ⟨p, q, rfl, hq1, hq2, hb2⟩
    have H1 : Hid (q = true → NewAt N len k name p) := hq1
    have H2 : Hid (q = false → (N k).kind ≠ 7 ∧ ((N k).kind ≠ 6 ∨ numIs N len k name = false)) := hq2
    have HB2 : Hid (Below w.heap.size w w2) := HB.out.trans (hb2.mono hz)
    clear hq1 hq2 hb2
    go_wp2
    exact bodyPost_ret (v := .tuple #[.int .i64 (p : Int), .int .i64 (p : Int), .bool q]) (by simp [results, Tryz.results74, go_sem]) rfl ⟨p, p, q, rfl, fun h => .inr ⟨HF.out, rfl, H1.out h⟩, fun h => ⟨HF.out, H2.out h⟩, HB2.out⟩

end Go.Proofs.YtadlflgflnlhjaaGreatDoor
namespace Go.Proofs.YtadlflgflnlhjaaGreatDoor
open Go.RowKit
set_option linter.unusedVariables false

set_option maxRecDepth 100000 in
set_option maxHeartbeats 2000000 in
theorem cloneN_any (b off c m : Nat) (X : Nat → Nd) (w : World) (hb : b < w.heap.size) (hm : m ≤ 2 ^ 18) (h0 : 0 < m) (hat : NodesAt w b off m X) :
    Calls Tryz.prog 72 #[.slice (some ⟨b, off, none⟩) m c] w fun e w' => ∃ g cap, e = .returned (.slice (some ⟨g, 0, none⟩) m cap) ∧ OwnsN w' w.heap.size (.slice (some ⟨g, 0, none⟩) m cap) ((List.range m).map X) ∧ Below w.heap.size w w' := by
  obtain ⟨i0, hi, hz0, hz1, hz2⟩ := info_parts infoNode5
  have HOE : Hid ((w.alloc (.cells #[] 77)).ownsRow w.heap.size 77 5 (.slice (some ⟨w.heap.size, 0, none⟩) 0 0) 0 []) := own_empty w 77 5 w.heap.size (Nat.le_refl _)
  have HNC : Hid (∀ j u, (ndCells ((List.range m).map X))[j]? = some u → (w.alloc (.cells #[] 77)).cell? ((⟨b, off, none⟩ : Addr).add j) = some u) := fun j u hu => by
    have := nodes_cells hat 0 m (by omega) j u (by simpa using hu)
    rw [Nat.zero_mul, Nat.add_zero] at this
    rw [show ((⟨b, off, none⟩ : Addr).add j) = ⟨b, off + j, none⟩ by unfold Addr.add; split <;> simp_all, World.cell?_of_block (heap_alloc_old _ _ hb)]
    exact this
  have HLN : Hid ((ndCells ((List.range m).map X)).length = m * 5) := by show _ = _; rw [nd_len]; simp
  have hnil : ∀ w : World, (binOp .eql 26 (.slice (some ⟨b, off, none⟩) m c) (.slice none 0 0)).run Tryz.prog w = .ok (.bool false) w := fun w => by kernel_rfl
  go_enter Tryz.func72, Tryz.ntmps72
  go_wp2_with (first | (at_builtin; refine wpList_append_own _ rfl _ _ 26 rfl w.heap.size 77 i0 _ 5 56 Tryz.underlying26 hi hz0 hz1 hz2 rfl (by decide) (.slice (some ⟨w.heap.size, 0, none⟩) 0 0) 0 [] rfl HOE.out ⟨b, off, none⟩ m c (ndCells ((List.range m).map X)) rfl HLN.out HNC.out (nd_ones _) (by unfold maxLen; omega) (by omega) (by simp) ?_))
  intro v2 w2 hown2 hg2 _
  obtain ⟨g2, cap2, rfl⟩ := own_pos hown2 (by omega)
  have HO2 : Hid (OwnsN w2 w.heap.size (.slice (some ⟨g2, 0, none⟩) m cap2) ((List.range m).map X)) := by
    show OwnsN _ _ _ _
    unfold OwnsN
    simpa using hown2
  have HB2 : Hid (Below w.heap.size w w2) := ⟨hg2.os, hg2.tape, hg2.output, by have := hg2.size; simp at this; omega, fun q hq => (hg2.block q (by simp; omega) (fun e => by simp [Value.ownBlock] at e; omega)).trans (heap_alloc_old _ _ hq)⟩
  clear hown2 hg2 HNC HOE
  go_wp2
  go_ret
  exact ⟨g2, cap2, rfl, HO2.out, HB2.out⟩

theorem nd_set_name (u : ByteArray) : ∀ (l : List Nd) (i : Nat) (hi : i < l.length), (ndCells l).set (i * 5 + 3) (.string u) = ndCells (l.set i { l[i] with name := u }) := by
  intro l
  induction l with
  | nil => intro i hi; simp at hi
  | cons y l ih =>
    intro i hi
    cases i with
    | zero => rw [nd_cons]; simp [ndCells]
    | succ i =>
      have := ih i (by simpa using hi)
      rw [nd_cons, List.set_cons_succ, nd_cons, List.set_append_right _ _ (by simp; omega)]
      congr 1
      refine Eq.trans ?_ this
      congr 1
      simp
      omega
theorem row_put3 {w : World} {B g cap j : Nat} {L : List Nd} {u : ByteArray} (h : OwnsN w B (.slice (some ⟨g, 0, none⟩) L.length cap) L) (hj : j < L.length) : OwnsN (w.setCell ⟨g, j * 5 + 3, none⟩ (.string u)) B (.slice (some ⟨g, 0, none⟩) L.length cap) (L.set j { L[j] with name := u }) := by
  have := (World.ownsRow.stored h (j * 5 + 3) (.string u)).1
  rw [nd_set_name u L j hj] at this
  unfold OwnsN
  rw [List.length_set]
  exact this
theorem row_name {w : World} {B g cap j : Nat} {L : List Nd} (h : OwnsN w B (.slice (some ⟨g, 0, none⟩) L.length cap) L) (hj : j < L.length) : w.cell? ⟨g, j * 5 + 3, none⟩ = some (.string L[j].name) := by
  rw [World.ownsRow.cellAt h (j * 5 + 3) (by omega)]
  exact (nd_get5 L j hj).2.2.2.1

/-- The row while p is added: it is to those ahead of j. -/
def AddTo (L0 : List Nd) (d : Int) (j : Nat) (L : List Nd) : Prop := L.length = L0.length ∧ ∀ (i : Nat) (x : Nd), L0[i]? = some x → L[i]? = some (if i < j then { x with up := x.up + d } else x)
theorem AddTo.at {L0 L : List Nd} {j : Nat} {d : Int} (h : AddTo L0 d j L) (hj : j < L.length) (hj0 : j < L0.length) : L[j] = L0[j] := by
  have := h.2 j L0[j] (List.getElem?_eq_getElem hj0)
  rw [if_neg (by omega), List.getElem?_eq_getElem hj] at this
  exact Option.some.inj this
theorem AddTo.next {L0 L : List Nd} {j : Nat} {d : Int} (h : AddTo L0 d j L) (hj : j < L.length) : AddTo L0 d (j + 1) (L.set j { L[j] with up := L[j].up + d }) := by
  refine ⟨by rw [List.length_set]; exact h.1, fun i x hx => ?_⟩
  by_cases hi : i = j
  · subst hi
    have h2 := h.2 i x hx
    rw [if_neg (by omega), List.getElem?_eq_getElem hj] at h2
    have h3 := Option.some.inj h2
    rw [List.getElem?_set_self hj, if_pos (by omega), ← h3]
  · rw [List.getElem?_set_ne (fun h => hi h.symm), h.2 i x hx]
    by_cases hc : i < j
    · rw [if_pos hc, if_pos (by omega)]
    · rw [if_neg hc, if_neg (by omega)]
theorem AddTo.done {X : Nat → Nd} {m p ar : Nat} {y : ByteArray} {L : List Nd} (h : AddTo ((List.range m).map X) (p : Int) m L) (h0 : 0 < m) (hL : 0 < L.length) (hL2 : 0 < (L.set 0 { L[0] with up := (ar : Int) }).length) : (L.set 0 { L[0] with up := (ar : Int) }).set 0 { (L.set 0 { L[0] with up := (ar : Int) })[0] with name := y } = partL X m p ar y := by
  have hl : L.length = m := by rw [h.1]; simp
  have hx0 : L[0] = { X 0 with up := (X 0).up + p } := by
    have := h.2 0 (X 0) (by rw [List.getElem?_map, List.getElem?_range h0]; rfl)
    rw [if_pos h0, List.getElem?_eq_getElem hL] at this
    exact Option.some.inj this
  apply List.ext_getElem?
  intro i
  unfold partL
  rw [List.getElem?_map]
  by_cases hi : i < m
  · rw [List.getElem?_range hi]
    by_cases hi0 : i = 0
    · subst hi0
      rw [List.getElem?_set_self hL2, List.getElem_set_self]
      simp only [Option.map_some, partN, if_true]
      rw [hx0]
    · rw [List.getElem?_set_ne (fun h => hi0 h.symm), List.getElem?_set_ne (fun h => hi0 h.symm), h.2 i (X i) (by rw [List.getElem?_map, List.getElem?_range hi]; rfl), if_pos hi]
      simp only [Option.map_some, partN]
      rw [if_neg hi0]
  · rw [List.getElem?_eq_none (by simp; omega), List.getElem?_eq_none (by simpa using hi)]
    rfl

set_option maxRecDepth 100000 in
set_option maxHeartbeats 2000000 in
theorem partAt_any (b off c m p ar : Nat) (X : Nat → Nd) (y : ByteArray) (w : World) (hb : b < w.heap.size) (hm : m ≤ 2 ^ 18) (h0 : 0 < m) (hp : p ≤ 2 ^ 18) (har : ar ≤ 2 ^ 18) (hat : NodesAt w b off m X) (hup : ∀ i, i < m → -1 ≤ (X i).up ∧ (X i).up ≤ 2 ^ 20) :
    Calls Tryz.prog 76 #[.slice (some ⟨b, off, none⟩) m c, .int .i64 (p : Int), .int .i64 (ar : Int), .string y] w fun e w' => ∃ g cap, e = .returned (.slice (some ⟨g, 0, none⟩) m cap) ∧ OwnsN w' w.heap.size (.slice (some ⟨g, 0, none⟩) m cap) (partL X m p ar y) ∧ Below w.heap.size w w' := by
  have HAT : Hid (NodesAt w b off m X) := hat
  have HUP : Hid (∀ i, i < m → -1 ≤ (X i).up ∧ (X i).up ≤ 2 ^ 20) := hup
  clear hat hup
  go_enter Tryz.func76, Tryz.ntmps76
  go_wp2_with fail
  refine (cloneN_any b off c m X _ hb hm h0 HAT.out).mono ?_
  rintro e w1 ⟨g, cap, rfl, ho1, hb1⟩
  have HO1 : Hid (OwnsN w1 w.heap.size (.slice (some ⟨g, 0, none⟩) m cap) ((List.range m).map X)) := ho1
  have HB1 : Hid (Below w.heap.size w w1) := hb1
  clear ho1 hb1
  obtain ⟨L0, hL0⟩ : ∃ L0, L0 = (List.range m).map X := ⟨_, rfl⟩
  have hL0l : L0.length = m := by rw [hL0]; simp
  rw [← hL0] at HO1
  have HL0 : Hid (∀ j (hj : j < L0.length), -1 ≤ L0[j].up ∧ L0[j].up ≤ 2 ^ 20) := fun j hj => by
    subst hL0
    simp only [List.getElem_map, List.getElem_range]
    exact HUP.out _ (by simpa using hj)
  have HLX : Hid (L0 = (List.range m).map X) := hL0
  clear hL0 HUP
  go_wp2_with fail
  go_loopw [15] (fun v wr => ∃ (j : Nat) (L : List Nd), j ≤ m ∧ v = .int .i64 (j : Int) ∧ L.length = m ∧ Hid (AddTo L0 (p : Int) j L) ∧ Hid (OwnsN wr w.heap.size (.slice (some ⟨g, 0, none⟩) m cap) L) ∧ Hid (Below w.heap.size w wr)) (fun v _ => m - (intOf v).toNat)
  case atStart => exact ⟨0, L0, Nat.zero_le _, rfl, hL0l, ⟨rfl, fun i x hx => by rw [if_neg (by omega)]; exact hx⟩, HO1, HB1⟩
  case round =>
    obtain ⟨j, L, hj2, rfl, hL, HMV, HO, HB⟩ := hrel
    have ho : OwnsN wr w.heap.size (.slice (some ⟨g, 0, none⟩) L.length cap) L := by rw [hL]; exact HO.out
    have hgB : w.heap.size ≤ g := (World.ownsRow.lt ho g rfl).1
    by_cases hlt : j < m
    · have hjL : j < L.length := by omega
      have hj0 : j < L0.length := by omega
      obtain ⟨u, hu⟩ : ∃ u, u = L[j].up := ⟨_, rfl⟩
      have a4 : wr.cell? ⟨g, j * 5 + 4, none⟩ = some (.int .i64 u) := by rw [hu]; exact row_up ho hjL
      have f4 : wr.frozen? ⟨g, j * 5 + 4, none⟩ = false := World.ownsRow.frozenAt ho _
      have hub : -1 ≤ u ∧ u ≤ 2 ^ 20 := by rw [hu, HMV.out.at hjL hj0]; exact HL0.out j hj0
      have i0' : (0 : Int) ≤ (j : Int) := by omega
      have i1' : (j : Int) < (m : Int) := by omega
      have hd3 : IntKind.i64.wrap (u + (p : Int)) = u + (p : Int) := by rw [IntKind.wrap_i64]; omega
      have HM2 : Hid (AddTo L0 (p : Int) (j + 1) (L.set j { L[j] with up := u + (p : Int) })) := by
        have := HMV.out.next hjL
        rw [← hu] at this
        exact this
      have HO2 : Hid (OwnsN (wr.setCell ⟨g, j * 5 + 4, none⟩ (.int .i64 (u + (p : Int)))) w.heap.size (.slice (some ⟨g, 0, none⟩) m cap) (L.set j { L[j] with up := u + (p : Int) })) := by
        have := row_put (u := u + (p : Int)) ho hjL
        rw [hL] at this
        exact this
      have HB2 : Hid (Below w.heap.size w (wr.setCell ⟨g, j * 5 + 4, none⟩ (.int .i64 (u + (p : Int))))) := HB.out.setCell (p := ⟨g, j * 5 + 4, none⟩) hgB _
      clear ho hu
      go_wp2
      go_roundw
      case rel => exact ⟨j + 1, _, by omega, by go_num, by rw [List.length_set]; exact hL, HM2, HO2, HB2⟩
      case measure => simp [intOf]; omega
    · obtain rfl : j = m := by omega
      have hL0' : 0 < L.length := by omega
      have a4 : wr.cell? ⟨g, 4, none⟩ = some (.int .i64 L[0].up) := by have := row_up ho hL0'; rwa [Nat.zero_mul, Nat.zero_add] at this
      have f4 : wr.frozen? ⟨g, 4, none⟩ = false := World.ownsRow.frozenAt ho _
      have ho2 : OwnsN (wr.setCell ⟨g, 4, none⟩ (.int .i64 (ar : Int))) w.heap.size (.slice (some ⟨g, 0, none⟩) L.length cap) (L.set 0 { L[0] with up := (ar : Int) }) := by
        have := row_put (u := (ar : Int)) ho hL0'
        rwa [Nat.zero_mul, Nat.zero_add] at this
      have hl2 : (L.set 0 { L[0] with up := (ar : Int) }).length = L.length := List.length_set
      have hL2' : 0 < (L.set 0 { L[0] with up := (ar : Int) }).length := by omega
      have ho2' : OwnsN (wr.setCell ⟨g, 4, none⟩ (.int .i64 (ar : Int))) w.heap.size (.slice (some ⟨g, 0, none⟩) (L.set 0 { L[0] with up := (ar : Int) }).length cap) (L.set 0 { L[0] with up := (ar : Int) }) := by rw [hl2]; exact ho2
      have b3 : (wr.setCell ⟨g, 4, none⟩ (.int .i64 (ar : Int))).cell? ⟨g, 3, none⟩ = some (.string (L.set 0 { L[0] with up := (ar : Int) })[0].name) := by have := row_name ho2' hL2'; rwa [Nat.zero_mul, Nat.zero_add] at this
      have g3 : (wr.setCell ⟨g, 4, none⟩ (.int .i64 (ar : Int))).frozen? ⟨g, 3, none⟩ = false := World.ownsRow.frozenAt ho2' _
      obtain ⟨nn, hnn⟩ : ∃ nn, nn = (L.set 0 { L[0] with up := (ar : Int) })[0].name := ⟨_, rfl⟩
      have HF : Hid (OwnsN ((wr.setCell ⟨g, 4, none⟩ (.int .i64 (ar : Int))).setCell ⟨g, 3, none⟩ (.string y)) w.heap.size (.slice (some ⟨g, 0, none⟩) j cap) (partL X j p ar y)) := by
        have h3 := row_put3 (u := y) ho2' hL2'
        rw [Nat.zero_mul, Nat.zero_add, hl2, hL] at h3
        have hd := AddTo.done (ar := ar) (y := y) (by rw [← HLX.out]; exact HMV.out) h0 hL0' hL2'
        rw [hd] at h3
        exact h3
      have HB2 : Hid (Below w.heap.size w ((wr.setCell ⟨g, 4, none⟩ (.int .i64 (ar : Int))).setCell ⟨g, 3, none⟩ (.string y))) := (HB.out.setCell (p := ⟨g, 4, none⟩) hgB _).setCell (p := ⟨g, 3, none⟩) hgB _
      obtain ⟨u0, hu0⟩ : ∃ u, u = L[0].up := ⟨_, rfl⟩
      rw [← hnn] at b3
      rw [← hu0] at a4
      have i0' : (0 : Int) < (j : Int) := by omega
      clear ho ho2 ho2' hnn hl2 hL2' hu0 HLX
      go_wp2
      go_ret
      exact ⟨g, cap, rfl, HF.out, HB2.out⟩

end Go.Proofs.YtadlflgflnlhjaaGreatDoor
namespace Go.Proofs.YtadlflgflnlhjaaGreatDoor
open Go.RowKit
set_option linter.unusedVariables false

def SetNIs (N : Nat → Nd) (n : Nat) (X : Nat → Nd) (m : Nat) (l : List ByteArray) (w : World) (e : Ending) (w' : World) : Prop :=
  (setT (tree X m 0) l (tree N n 0) = none ∧ e = .returned (.tuple #[.slice none 0 0, .bool false]) ∧ Below w.heap.size w w') ∨
  ∃ t' a c, setT (tree X m 0) l (tree N n 0) = some t' ∧ e = .returned (.tuple #[.slice a (t'.flat ByteArray.empty (-1) 0).length c, .bool true]) ∧ OwnsN w' w.heap.size (.slice a (t'.flat ByteArray.empty (-1) 0).length c) (t'.flat ByteArray.empty (-1) 0) ∧ t'.cnt ≤ 200 ∧ Below w.heap.size w w'
theorem ArgS.less {w : World} {a : Option Addr} {n m : Nat} {f : Nat → ByteArray} (h : ArgS w a n f) (hm : m ≤ n) : ArgS w a m f := by
  rcases h with h | ⟨b, off, rfl, hlt, hat⟩
  · exact .inl (by omega)
  · exact .inr ⟨b, off, rfl, hlt, fun i hi => hat i (by omega)⟩
theorem own_lower {w : World} {B B' : Nat} {v : Value} {L : List Nd} (h : OwnsN w B v L) (hB : B' ≤ B) : OwnsN w B' v L := by
  refine ⟨h.1, ?_⟩
  rcases h.2 with hn | ⟨g, cap, cur, rfl, hb, rest⟩
  · exact .inl hn
  · exact .inr ⟨g, cap, cur, rfl, by omega, rest⟩
theorem own_partS {w : World} {B g cap : Nat} {L : List Nd} (h : OwnsN w B (.slice (some ⟨g, 0, none⟩) L.length cap) L) : PartS w (some ⟨g, 0, none⟩) L.length cap (ndCells L) := by
  refine ⟨nd_len L, nd_ones L, .inr ⟨g, 0, rfl, (World.ownsRow.lt h g rfl).2, fun j u hu => ?_⟩⟩
  have := @World.ownsRow.cells _ _ _ _ _ _ _ h g rfl j u hu
  rw [show ((⟨g, 0, none⟩ : Addr).add j) = ⟨g, 0 + j, none⟩ by unfold Addr.add; split <;> simp_all] at this
  exact this
theorem lst_last (f : Nat → ByteArray) (k : Nat) : (lst f (k + 1)).getLast? = some (f k) := by rw [lst_succ]; simp
theorem lst_drop1 (f : Nat → ByteArray) (k : Nat) : (lst f (k + 1)).dropLast = lst f k := by rw [lst_succ]; simp

set_option maxRecDepth 100000 in
set_option maxHeartbeats 4000000 in
theorem setNodes_whole (b off c n : Nat) (N : Nat → Nd) (a : Option Addr) (ca : Nat) (f : Nat → ByteArray) (b2 off2 c2 m : Nat) (X : Nat → Nd) (w : World) (hX : GoodV X m) (hb2 : b2 < w.heap.size) (hat2 : NodesAt w b2 off2 m X) :
    Calls Tryz.prog 37 #[.slice (some ⟨b, off, none⟩) n c, .slice a 0 ca, .slice (some ⟨b2, off2, none⟩) m c2] w (SetNIs N n X m (lst f 0) w) := by
  have HX : Hid (GoodV X m) := hX
  have HAT : Hid (NodesAt w b2 off2 m X) := hat2
  have m80 := hX.1.2.1
  have m0 := hX.1.1
  clear hX hat2
  go_enter Tryz.func37, Tryz.ntmps37
  go_wp2_with fail
  refine (cloneN_any b2 off2 c2 m X _ hb2 (by omega) m0 HAT.out).mono ?_
  rintro e w1 ⟨g, cap, rfl, ho1, hb1⟩
  have HO : Hid (OwnsN w1 w.heap.size (.slice (some ⟨g, 0, none⟩) m cap) ((List.range m).map X)) := ho1
  have HB : Hid (Below w.heap.size w w1) := hb1
  clear ho1 hb1
  go_wp2_with fail
  refine bodyPost_ret (v := .tuple #[.slice (some ⟨g, 0, none⟩) m cap, .bool true]) (by simp [results, Tryz.results37, go_sem]) rfl (.inr ⟨tree X m 0, some ⟨g, 0, none⟩, cap, rfl, ?_, ?_, ?_, HB.out⟩)
  · rw [good_flat HX.out]; simp
  · rw [good_flat HX.out]
    simpa using HO.out
  · rw [good_cnt HX.out]; omega

set_option maxRecDepth 100000 in
set_option maxHeartbeats 4000000 in
theorem setNodes_part (b off c n : Nat) (N : Nat → Nd) (a : Option Addr) (ca k : Nat) (f : Nat → ByteArray) (b2 off2 c2 m : Nat) (X : Nat → Nd) (w : World) (hg : GoodV N n) (hX : GoodV X m) (hcap : n ≤ c) (hb : b < w.heap.size) (hat : NodesAt w b off n N) (hb2 : b2 < w.heap.size) (hat2 : NodesAt w b2 off2 m X) (hk : k + 1 ≤ 2 ^ 20) (hca : k + 1 ≤ ca) (ha : ArgS w a (k + 1) f) :
    Calls Tryz.prog 37 #[.slice (some ⟨b, off, none⟩) n c, .slice a (k + 1) ca, .slice (some ⟨b2, off2, none⟩) m c2] w (SetNIs N n X m (lst f (k + 1)) w) := by
  have HG : Hid (GoodV N n) := hg
  have HX : Hid (GoodV X m) := hX
  have HAT : Hid (NodesAt w b off n N) := hat
  have HAT2 : Hid (NodesAt w b2 off2 m X) := hat2
  have HA : Hid (ArgS w a k f) := ha.less (by omega)
  have n80 := hg.1.2.1
  have n0 := hg.1.1
  have m80 := hX.1.2.1
  have m0 := hX.1.1
  obtain ⟨h1, h2⟩ := set_go hg hX (lst f (k + 1)) (f k) (lst_last f k)
  rw [lst_drop1] at h1 h2
  have H1 : Hid (goN N n 0 (lst f k) = none → setT (tree X m 0) (lst f (k + 1)) (tree N n 0) = none) := h1
  obtain ⟨H2', hH2⟩ : ∃ P : Prop, P = Hid (∀ ar, goN N n 0 (lst f k) = some ar → (NoPlace N n ar (f k) → setT (tree X m 0) (lst f (k + 1)) (tree N n 0) = none) ∧ ∀ p e, PlaceIs N n ar (f k) p e → (ar < p ∧ p ≤ e ∧ e ≤ n) ∧ ∃ t', setT (tree X m 0) (lst f (k + 1)) (tree N n 0) = some t' ∧ t'.flat ByteArray.empty (-1) 0 = putL N n p e (partL X m p ar (nm7 (N ar).kind (f k))) ∧ t'.cnt = (n - (e - p)) + m) := ⟨_, rfl⟩
  have HS : H2' := by rw [hH2]; exact h2
  clear h1 h2
  rcases ha with h0' | ⟨ba, oa, rfl, hba, haa⟩
  · omega
  have a0 := haa k (by omega)
  have hka : k < ca := hca
  clear hg hX hat hat2 haa
  go_enter Tryz.func37, Tryz.ntmps37
  go_wp2_with fail
  refine (nodeAt_any b off c n N (some ⟨ba, oa, none⟩) ca k f _ n80 n0 (good_up HG.out) hb HAT.out (by omega) HA.out).mono ?_
  rintro e w1 ⟨rfl, hb1⟩
  have HB1 : Hid (Below w.heap.size w w1) := hb1
  have z1 := hb1.size
  clear hb1 a0
  cases hgo : goN N n 0 (lst f k) with
  | none =>
    have HN : Hid (setT (tree X m 0) (lst f (k + 1)) (tree N n 0) = none) := H1.out hgo
    clear hgo hH2
    dsimp only [Option.isSome, Option.getD]
    go_wp2_with fail
    exact bodyPost_ret (v := .tuple #[.slice none 0 0, .bool false]) (by simp [results, Tryz.results37, go_sem]) rfl (.inl ⟨HN.out, rfl, HB1.out⟩)
  | some ar =>
    have har : ar < n := goN_lt' _ 0 ar n0 hgo
    rw [hH2] at HS
    obtain ⟨hno, hyes⟩ := HS.out ar hgo
    have HNO : Hid (NoPlace N n ar (f k) → setT (tree X m 0) (lst f (k + 1)) (tree N n 0) = none) := hno
    have HYES : Hid (∀ p e, PlaceIs N n ar (f k) p e → (ar < p ∧ p ≤ e ∧ e ≤ n) ∧ ∃ t', setT (tree X m 0) (lst f (k + 1)) (tree N n 0) = some t' ∧ t'.flat ByteArray.empty (-1) 0 = putL N n p e (partL X m p ar (nm7 (N ar).kind (f k))) ∧ t'.cnt = (n - (e - p)) + m) := hyes
    have HAT1 : Hid (NodesAt w1 b off n N) := HAT.out.below HB1.out hb
    clear hno hyes HS hH2 hgo H1
    dsimp only [Option.isSome, Option.getD]
    go_wp2_with fail
    refine (placeFor_any b off c n ar N (f k) _ n80 har (fun i hi hu => by have := good_up HG.out i hi; omega) (by omega) HAT1.out).mono ?_
    rintro e w2 ⟨p, en, q, rfl, hq1, hq2, hbb⟩
    have HB2 : Hid (Below w.heap.size w w2) := HB1.out.trans (hbb.mono z1)
    have z2 : w.heap.size ≤ w2.heap.size := HB2.out.size
    cases q with
    | false =>
      have HN : Hid (setT (tree X m 0) (lst f (k + 1)) (tree N n 0) = none) := HNO.out (hq2 rfl)
      clear hq1 hq2 hbb
      go_wp2_with fail
      exact bodyPost_ret (v := .tuple #[.slice none 0 0, .bool false]) (by simp [results, Tryz.results37, go_sem]) rfl (.inl ⟨HN.out, rfl, HB2.out⟩)
    | true =>
      have hpl := hq1 rfl
      obtain ⟨⟨hp1, hp2, hp3⟩, t', ht, hflat, hcnt⟩ := HYES.out p en hpl
      have h67 : (N ar).kind = 6 ∨ (N ar).kind = 7 := by
        rcases hpl with ⟨h, _⟩ | ⟨_, _, ⟨h, _⟩ | ⟨h, _⟩⟩
        · exact good_kids HG.out (findP_kid h)
        · exact .inl h
        · exact .inr h
      have HAT2' : Hid (NodesAt w2 b off n N) := HAT.out.below HB2.out hb
      have HATX : Hid (NodesAt w2 b2 off2 m X) := HAT2.out.below HB2.out hb2
      have kd := (HAT2'.out ar har).1
      obtain ⟨kk, hkk⟩ : ∃ q, q = (N ar).kind := ⟨_, rfl⟩
      rw [← hkk] at kd h67
      have i0 : (0 : Int) ≤ (ar : Int) := by omega
      have i1 : (ar : Int) < (n : Int) := by omega
      have HT : Hid (setT (tree X m 0) (lst f (k + 1)) (tree N n 0) = some t' ∧ t'.flat ByteArray.empty (-1) 0 = putL N n p en (partL X m p ar (nm7 kk (f k))) ∧ t'.cnt = (n - (en - p)) + m) := ⟨ht, by rw [hkk]; exact hflat, hcnt⟩
      have HUN : Hid (∀ i, i < n → -1 ≤ (N i).up ∧ (N i).up ≤ 2 ^ 20) := good_ups HG.out
      have HUX : Hid (∀ i, i < m → -1 ≤ (X i).up ∧ (X i).up ≤ 2 ^ 20) := good_ups HX.out
      have hb2' : b2 < w2.heap.size := by omega
      have hbz : b < w2.heap.size := by omega
      clear hpl hq1 hq2 hbb ht hflat hcnt hkk HNO HYES HAT1
      rcases h67 with rfl | rfl
      · go_wp2_with fail
        refine (partAt_any b2 off2 c2 m p ar X ⟨#[]⟩ _ hb2' (by omega) m0 (by omega) (by omega) HATX.out HUX.out).mono ?_
        rintro e w3 ⟨g, cap, rfl, ho3, hb3⟩
        have hm' := partL_len X m p ar ⟨#[]⟩
        obtain ⟨P, hP⟩ : ∃ P, P = partL X m p ar ⟨#[]⟩ := ⟨_, rfl⟩
        rw [← hP] at ho3 hm'
        have HT3 : Hid (setT (tree X m 0) (lst f (k + 1)) (tree N n 0) = some t' ∧ t'.flat ByteArray.empty (-1) 0 = putL N n p en P ∧ t'.cnt = (n - (en - p)) + m) := ⟨HT.out.1, by rw [HT.out.2.1, hP]; rfl, HT.out.2.2⟩
        have HO3 : Hid (OwnsN w3 w2.heap.size (.slice (some ⟨g, 0, none⟩) m cap) P) := ho3
        have HB3 : Hid (Below w.heap.size w w3) := HB2.out.trans (hb3.mono z2)
        have z3 : w.heap.size ≤ w3.heap.size := HB3.out.size
        have HPS : Hid (PartS w3 (some ⟨g, 0, none⟩) P.length cap (ndCells P)) := own_partS (by rw [hm']; exact ho3)
        have HAT3 : Hid (NodesAt w3 b off n N) := HAT.out.below HB3.out hb
        have hbz3 : b < w3.heap.size := by omega
        clear ho3 hb3 hP HT
        go_wp2_with fail
        refine (show Calls Tryz.prog 75 #[.slice (some ⟨b, off, none⟩) n c, .int .i64 (p : Int), .int .i64 (en : Int), .slice (some ⟨g, 0, none⟩) m cap] w3 _ from by rw [← hm']; exact putBetween_any b off c n p en N (some ⟨g, 0, none⟩) cap P w3 (by omega) hp2 hp3 (by omega) hcap (by omega) hbz3 HAT3.out HUN.out HPS.out).mono ?_
        rintro e w4 ⟨v4, rfl, ho4, hb4⟩
        obtain ⟨la, lc, rfl⟩ := OwnsN.form ho4
        rw [← HT3.out.2.1] at ho4 ⊢
        obtain ⟨L, hL⟩ : ∃ L, L = t'.flat ByteArray.empty (-1) 0 := ⟨_, rfl⟩
        rw [← hL] at ho4 ⊢
        have HF : Hid (L = t'.flat ByteArray.empty (-1) 0 ∧ OwnsN w4 w.heap.size (.slice la L.length lc) L ∧ Below w.heap.size w w4) := ⟨hL, own_lower ho4 z3, HB3.out.trans (hb4.mono z3)⟩
        clear ho4 hb4 hL
        go_wp2_with fail
        exact bodyPost_ret (v := .tuple #[.slice la L.length lc, .bool true]) (by simp [results, Tryz.results37, go_sem]) rfl (.inr ⟨t', la, lc, HT3.out.1, by rw [← HF.out.1], by rw [← HF.out.1]; exact HF.out.2.1, by rw [HT3.out.2.2]; omega, HF.out.2.2⟩)
      · go_wp2_with fail
        refine (partAt_any b2 off2 c2 m p ar X (f k) _ hb2' (by omega) m0 (by omega) (by omega) HATX.out HUX.out).mono ?_
        rintro e w3 ⟨g, cap, rfl, ho3, hb3⟩
        have hm' := partL_len X m p ar (f k)
        obtain ⟨P, hP⟩ : ∃ P, P = partL X m p ar (f k) := ⟨_, rfl⟩
        rw [← hP] at ho3 hm'
        have HT3 : Hid (setT (tree X m 0) (lst f (k + 1)) (tree N n 0) = some t' ∧ t'.flat ByteArray.empty (-1) 0 = putL N n p en P ∧ t'.cnt = (n - (en - p)) + m) := ⟨HT.out.1, by rw [HT.out.2.1, hP]; rfl, HT.out.2.2⟩
        have HO3 : Hid (OwnsN w3 w2.heap.size (.slice (some ⟨g, 0, none⟩) m cap) P) := ho3
        have HB3 : Hid (Below w.heap.size w w3) := HB2.out.trans (hb3.mono z2)
        have z3 : w.heap.size ≤ w3.heap.size := HB3.out.size
        have HPS : Hid (PartS w3 (some ⟨g, 0, none⟩) P.length cap (ndCells P)) := own_partS (by rw [hm']; exact ho3)
        have HAT3 : Hid (NodesAt w3 b off n N) := HAT.out.below HB3.out hb
        have hbz3 : b < w3.heap.size := by omega
        clear ho3 hb3 hP HT
        go_wp2_with fail
        refine (show Calls Tryz.prog 75 #[.slice (some ⟨b, off, none⟩) n c, .int .i64 (p : Int), .int .i64 (en : Int), .slice (some ⟨g, 0, none⟩) m cap] w3 _ from by rw [← hm']; exact putBetween_any b off c n p en N (some ⟨g, 0, none⟩) cap P w3 (by omega) hp2 hp3 (by omega) hcap (by omega) hbz3 HAT3.out HUN.out HPS.out).mono ?_
        rintro e w4 ⟨v4, rfl, ho4, hb4⟩
        obtain ⟨la, lc, rfl⟩ := OwnsN.form ho4
        rw [← HT3.out.2.1] at ho4 ⊢
        obtain ⟨L, hL⟩ : ∃ L, L = t'.flat ByteArray.empty (-1) 0 := ⟨_, rfl⟩
        rw [← hL] at ho4 ⊢
        have HF : Hid (L = t'.flat ByteArray.empty (-1) 0 ∧ OwnsN w4 w.heap.size (.slice la L.length lc) L ∧ Below w.heap.size w w4) := ⟨hL, own_lower ho4 z3, HB3.out.trans (hb4.mono z3)⟩
        clear ho4 hb4 hL
        go_wp2_with fail
        exact bodyPost_ret (v := .tuple #[.slice la L.length lc, .bool true]) (by simp [results, Tryz.results37, go_sem]) rfl (.inr ⟨t', la, lc, HT3.out.1, by rw [← HF.out.1], by rw [← HF.out.1]; exact HF.out.2.1, by rw [HT3.out.2.2]; omega, HF.out.2.2⟩)

theorem setNodes_any (b off c n : Nat) (N : Nat → Nd) (a : Option Addr) (ca k : Nat) (f : Nat → ByteArray) (b2 off2 c2 m : Nat) (X : Nat → Nd) (w : World) (hg : GoodV N n) (hX : GoodV X m) (hcap : n ≤ c) (hb : b < w.heap.size) (hat : NodesAt w b off n N) (hb2 : b2 < w.heap.size) (hat2 : NodesAt w b2 off2 m X) (hk : k ≤ 2 ^ 20) (hca : k ≤ ca) (ha : ArgS w a k f) :
    Calls Tryz.prog 37 #[.slice (some ⟨b, off, none⟩) n c, .slice a k ca, .slice (some ⟨b2, off2, none⟩) m c2] w (SetNIs N n X m (lst f k) w) := by
  cases k with
  | zero => exact setNodes_whole b off c n N a ca f b2 off2 c2 m X w hX hb2 hat2
  | succ k => exact setNodes_part b off c n N a ca k f b2 off2 c2 m X w hg hX hcap hb hat hb2 hat2 hk hca ha

end Go.Proofs.YtadlflgflnlhjaaGreatDoor
namespace Go.Proofs.YtadlflgflnlhjaaGreatDoor
open Go.RowKit
set_option linter.unusedVariables false

theorem put_named {t x : Tr} {y : ByteArray} (ht : t.named) (hx : x.named) : (putK t y x).named := by
  obtain ⟨k, n, tx, nm, ks⟩ := t
  rw [Tr.named] at ht
  rw [putK, Tr.named]
  refine ⟨fun h7 => ?_, Tr.nameds_mem.2 fun z hz => ?_⟩
  · rw [if_pos h7]
    have h1 := ht.1 h7
    simp only [List.length_append, List.length_take, List.length_cons, List.length_drop]
    omega
  · rcases List.mem_append.1 hz with hz | hz
    · exact Tr.nameds_mem.1 ht.2 z (List.mem_of_mem_take hz)
    · rcases List.mem_cons.1 hz with rfl | hz
      · exact hx
      · exact Tr.nameds_mem.1 ht.2 z (List.mem_of_mem_drop hz)
theorem set_named {x : Tr} (hx : x.named) : ∀ (l : List ByteArray) (t t' : Tr), t.named → setT x l t = some t' → t'.named := by
  intro l
  induction l with
  | nil => intro t t' _ h; rw [setT] at h; obtain rfl := Option.some.inj h; exact hx
  | cons y r ih =>
    intro t t' hn h
    rw [setT] at h
    cases ha : atI t.kind t.names y t.kids.length with
    | none =>
      rw [ha] at h
      simp only at h
      cases hc : (r.isEmpty && newOK t.kind t.kids.length y) with
      | false => rw [hc] at h; simp at h
      | true =>
        rw [hc] at h
        simp only [cond_true] at h
        obtain rfl := Option.some.inj h
        exact put_named hn hx
    | some i =>
      rw [ha] at h
      simp only at h
      have hi := atI_lt ha
      rw [List.getElem?_eq_getElem hi] at h
      simp only [Option.bind_some] at h
      obtain ⟨y', hy', rfl⟩ := Option.map_eq_some_iff.1 h
      obtain ⟨k, n, tx, nm, ks⟩ := t
      rw [Tr.named] at hn
      rw [withK, Tr.named]
      refine ⟨fun h7 => by rw [List.length_set]; exact hn.1 h7, Tr.nameds_mem.2 fun z hz => ?_⟩
      rcases List.mem_or_eq_of_mem_set hz with h1 | rfl
      · exact Tr.nameds_mem.1 hn.2 z h1
      · exact ih _ _ (Tr.nameds_mem.1 hn.2 _ (List.getElem_mem hi)) hy'

def smallNd (x : Nd) : Prop := x.text.size ≤ 24 ∧ x.name.size ≤ 24
theorem plain_24 {t : ByteArray} (h : plainB t = true) : t.size ≤ 24 := by
  unfold plainB at h
  simp only [Bool.and_eq_true, decide_eq_true_eq] at h
  exact h.1
theorem good_small {N : Nat → Nd} {n : Nat} (h : GoodV N n) : ∀ i, i < n → smallNd (N i) := fun i hi => by
  obtain ⟨h1, h2, _⟩ := h.1.2.2 i hi
  exact ⟨(content_bounds h1).2.2, plain_24 (name_plain h2)⟩
theorem part_small {X : Nat → Nd} {m p ar : Nat} {y : ByteArray} (h : GoodV X m) (hy : y.size ≤ 24) : ∀ x ∈ partL X m p ar y, smallNd x := fun x hx => by
  unfold partL at hx
  obtain ⟨i, hi, rfl⟩ := List.mem_map.1 hx
  have hs := good_small h i (List.mem_range.1 hi)
  unfold partN
  split
  · next h0 => subst h0; exact ⟨hs.1, hy⟩
  · exact hs
theorem put_small {N : Nat → Nd} {n p e : Nat} {P : List Nd} (h : GoodV N n) (hp : p ≤ n) (hP : ∀ x ∈ P, smallNd x) : ∀ x ∈ putL N n p e P, smallNd x := fun x hx => by
  unfold putL at hx
  rcases List.mem_append.1 hx with hx | hx
  · rcases List.mem_append.1 hx with hx | hx
    · obtain ⟨i, hi, rfl⟩ := List.mem_map.1 hx
      exact good_small h _ (by have := List.mem_range.1 hi; omega)
    · exact hP x hx
  · obtain ⟨z, hz, rfl⟩ := List.mem_map.1 hx
    obtain ⟨i, hi, rfl⟩ := List.mem_map.1 hz
    have := good_small h (e + i) (by have := List.mem_range.1 hi; omega)
    unfold mvN
    split
    · exact this
    · exact this
theorem small_of {L : List Nd} (hl : L.length ≤ 200) (h : ∀ x ∈ L, smallNd x) : SmallN L.length (fun i => L.getD i ⟨0, 0, ⟨#[]⟩, ⟨#[]⟩, 0⟩) := by
  refine ⟨by omega, fun i hi => ?_⟩
  show (L.getD i _).text.size ≤ _ ∧ (L.getD i _).name.size ≤ _
  rw [List.getD_eq_getElem?_getD, List.getElem?_eq_getElem hi]
  have := h _ (List.getElem_mem hi)
  exact ⟨Nat.le_trans this.1 (by decide), Nat.le_trans this.2 (by decide)⟩
theorem first_hit (f : Nat → Bool) : ∀ (l : List Nat), (∃ c ∈ l, f c = true) → ∃ i, ∃ hi : i < l.length, f l[i] = true ∧ ∀ (j c : Nat), j < i → l[j]? = some c → f c = false := by
  intro l
  induction l with
  | nil => rintro ⟨c, hc, _⟩; simp at hc
  | cons x l ih =>
    rintro ⟨c, hc, hf⟩
    cases hx : f x with
    | true => exact ⟨0, by simp, hx, fun j c hj => by omega⟩
    | false =>
      rcases List.mem_cons.1 hc with rfl | hc
      · rw [hx] at hf; simp at hf
      · obtain ⟨i, hi, h1, h2⟩ := ih ⟨c, hc, hf⟩
        refine ⟨i + 1, by simpa using hi, by simpa using h1, fun j d hj hd => ?_⟩
        cases j with
        | zero => simp at hd; rw [← hd]; exact hx
        | succ j => exact h2 j d (by omega) (by simpa using hd)
/-- Where there is no place, none is found; where there is one, it is found. -/
theorem place_some {N : Nat → Nd} {n ar : Nat} {y : ByteArray} (hg : GoodV N n) (har : ar < n) (h : ¬ NoPlace N n ar y) : ∃ p e, PlaceIs N n ar y p e := by
  cases hf : findP (partsTo N ar n) y with
  | some p =>
    obtain ⟨e, he⟩ := end_of (N := N) (kidsTo_mem (findP_kid hf)).2.1
    exact ⟨p, e, .inl ⟨hf, he⟩⟩
  | none =>
    obtain ⟨en, hen⟩ := end_of (N := N) har
    by_cases h7 : (N ar).kind = 7
    · by_cases hall : ∀ c ∈ kidsTo N ar n, nameLess y (N c).name = false
      · exact ⟨en, en, .inr ⟨hf, rfl, .inr ⟨h7, .inr ⟨hall, hen⟩⟩⟩⟩
      · obtain ⟨i, hi, h1, h2⟩ := first_hit (fun c => nameLess y (N c).name) (kidsTo N ar n) (by
          refine Classical.byContradiction fun hc => hall fun c hm => ?_
          cases hv : nameLess y (N c).name with
          | false => rfl
          | true => exact absurd ⟨c, hm, hv⟩ hc)
        exact ⟨_, _, .inr ⟨hf, rfl, .inr ⟨h7, .inl ⟨i, List.getElem?_eq_getElem hi, h1, h2⟩⟩⟩⟩
    · by_cases h6 : (N ar).kind = 6
      · cases hn : numIs N n ar y with
        | true => exact ⟨en, en, .inr ⟨hf, rfl, .inl ⟨h6, hn, hen⟩⟩⟩
        | false => exact absurd ⟨hf, h7, .inr hn⟩ h
      · exact absurd ⟨hf, h7, .inl h6⟩ h
theorem allN_ok : ∀ (gs l : List (List UInt8)), allN gs = some l → ∀ x ∈ l, x.length ≤ 24 := by
  intro gs
  induction gs with
  | nil => intro l h; rw [allN] at h; obtain rfl := Option.some.inj h; intro x hx; simp at hx
  | cons g gs ih =>
    intro l h x hx
    rw [allN] at h
    obtain ⟨y, hy, h2⟩ := Option.bind_eq_some_iff.1 h
    obtain ⟨l2, h3, rfl⟩ := Option.map_eq_some_iff.1 h2
    rcases List.mem_cons.1 hx with rfl | hx
    · unfold prN at hy
      obtain ⟨z, _, hz⟩ := Option.bind_eq_some_iff.1 hy
      by_cases ho : okL z = true
      · rw [if_pos ho] at hz
        obtain rfl := Option.some.inj hz
        unfold okL at ho
        simp only [Bool.and_eq_true, decide_eq_true_eq] at ho
        exact ho.1
      · rw [if_neg ho] at hz; simp at hz
    · exact ih l2 h3 x hx
theorem names_ok (s : List UInt8) (i : Nat) : (namesF s i).size ≤ 24 := by
  unfold namesF
  rw [strL_size]
  cases h : namesL s with
  | none => simp
  | some l =>
    rw [Option.getD_some, List.getD_eq_getElem?_getD]
    cases hi : l[i]? with
    | none => simp
    | some x =>
      have h' := h
      unfold namesL at h'
      split at h'
      · exact allN_ok _ _ h' x (List.mem_of_getElem? hi)
      · simp at h'

/-- What is set lies in few small nodes. -/
theorem set_facts {N X : Nat → Nd} {n m : Nat} (hg : GoodV N n) (hX : GoodV X m) (s : ByteArray) (t' : Tr) (h : setT (tree X m 0) (nmsL s) (tree N n 0) = some t') : t'.named ∧ t'.cnt ≤ 200 ∧ (t'.flat ByteArray.empty (-1) 0).length ≤ 200 ∧ SmallN (t'.flat ByteArray.empty (-1) 0).length (fun i => (t'.flat ByteArray.empty (-1) 0).getD i ⟨0, 0, ⟨#[]⟩, ⟨#[]⟩, 0⟩) := by
  have n80 := hg.1.2.1
  have m80 := hX.1.2.1
  have hnm := set_named (tree_named X m m 0 rfl hX.1.1) _ _ _ (tree_named N n n 0 rfl hg.1.1) h
  have key : t'.cnt ≤ 200 ∧ (t'.flat ByteArray.empty (-1) 0).length ≤ 200 ∧ ∀ x ∈ t'.flat ByteArray.empty (-1) 0, smallNd x := by
    cases hl : nmsL s with
    | nil =>
      rw [hl, setT] at h
      obtain rfl := Option.some.inj h
      rw [good_cnt hX, good_flat hX]
      refine ⟨by omega, by simp; omega, fun x hx => ?_⟩
      obtain ⟨i, hi, rfl⟩ := List.mem_map.1 hx
      exact good_small hX i (List.mem_range.1 hi)
    | cons y0 l0 =>
      obtain ⟨y, hy⟩ : ∃ y, (nmsL s).getLast? = some y := by rw [hl]; exact ⟨_, List.getLast?_eq_some_getLast (by simp)⟩
      have hy24 : y.size ≤ 24 := by
        have hm := List.mem_of_getLast? hy
        unfold nmsL lst at hm
        obtain ⟨i, _, rfl⟩ := List.mem_map.1 hm
        exact names_ok _ _
      obtain ⟨h1, h2⟩ := set_go hg hX (nmsL s) y hy
      cases har : goN N n 0 (nmsL s).dropLast with
      | none => rw [h1 har] at h; simp at h
      | some ar =>
        obtain ⟨h3, h4⟩ := h2 ar har
        have hp := plc_go hg (nmsL s) 0 y hg.1.1 hy
        obtain ⟨p, e, hpl⟩ : ∃ p e, PlaceIs N n ar y p e := place_some hg (goN_lt' _ 0 ar hg.1.1 har) (fun hno => by rw [h3 hno] at h; simp at h)
        obtain ⟨⟨a1, a2, a3⟩, t2, b1, b2, b3⟩ := h4 p e hpl
        rw [h] at b1
        obtain rfl := Option.some.inj b1
        have hn7 : (nm7 (N ar).kind y).size ≤ 24 := by
          unfold nm7
          split
          · exact hy24
          · exact Nat.zero_le _
        refine ⟨by omega, ?_, ?_⟩
        · rw [b2, putL_len, partL_len]; omega
        · rw [b2]
          exact put_small hg (by omega) (part_small hX hn7)
  exact ⟨hnm, key.1, key.2.1, small_of key.2.1 key.2.2⟩

theorem own_below {w w' : World} {B : Nat} {v : Value} {L : List Nd} (h : OwnsN w B v L) (hb : Below w.heap.size w w') : OwnsN w' B v L := row_block h fun b _ hlt _ => hb.block b hlt

/-- WHAT SetAt ANSWERS. -/
def SetTo (N : Nat → Nd) (n : Nat) (X : Nat → Nd) (m : Nat) (s : ByteArray) (L : List Nd) : Prop := (AskedOf N n s ∧ GoodV X m) ∧ ∃ t', setT (tree X m 0) (nmsL s) (tree N n 0) = some t' ∧ L = t'.flat ByteArray.empty (-1) 0 ∧ GoodV (fun i => L.getD i ⟨0, 0, ⟨#[]⟩, ⟨#[]⟩, 0⟩) L.length
def PTold (N : Nat → Nd) (n : Nat) (X : Nat → Nd) (m : Nat) (s : ByteArray) (q : Bool) (L : List Nd) : Prop := (q = true ∧ SetTo N n X m s L) ∨ (q = false ∧ (∀ L', ¬ SetTo N n X m s L') ∧ L = [])
theorem PTold.same {N X : Nat → Nd} {n m : Nat} {s : ByteArray} {q r : Bool} {L M : List Nd} (h : PTold N n X m s q L) (k : PTold N n X m s r M) : q = r ∧ L = M := by
  rcases h with ⟨rfl, g⟩ | ⟨rfl, g, rfl⟩ <;> rcases k with ⟨rfl, g'⟩ | ⟨rfl, g', rfl⟩
  · obtain ⟨_, t1, e1, rfl, _⟩ := g
    obtain ⟨_, t2, e2, rfl, _⟩ := g'
    obtain rfl := Option.some.inj (e1.symm.trans e2)
    exact ⟨rfl, rfl⟩
  · exact absurd g (g' _)
  · exact absurd g' (g _)
  · exact ⟨rfl, rfl⟩
def StIs (N : Nat → Nd) (n : Nat) (X : Nat → Nd) (m : Nat) (s : ByteArray) (w : World) (e : Ending) (w' : World) : Prop :=
  ∃ v q b L, e = .returned (.tuple #[.agg #[v], .bool q]) ∧ PTold N n X m s q L ∧ (L ≠ [] → w.heap.size ≤ b ∧ b < w'.heap.size) ∧ OwnAt w' b v L.length (fun i => L.getD i ⟨0, 0, ⟨#[]⟩, ⟨#[]⟩, 0⟩) ∧ L.length ≤ 200 ∧ Below w.heap.size w w'
theorem StIs.no {N X : Nat → Nd} {n m : Nat} {s : ByteArray} {w w' : World} (h : ∀ L, ¬ SetTo N n X m s L) (hb : Below w.heap.size w w') : StIs N n X m s w (.returned (.tuple #[.agg #[.slice none 0 0], .bool false])) w' :=
  ⟨_, _, 0, [], rfl, .inr ⟨rfl, h, rfl⟩, fun h => absurd rfl h, ⟨none, 0, 0, rfl, by decide, .inl rfl⟩, by simp, hb⟩
theorem StIs.yes {N X : Nat → Nd} {n m B : Nat} {s : ByteArray} {w w' : World} {v : Value} {L : List Nd} (h : SetTo N n X m s L) (hB : w.heap.size ≤ B) (hl : L.length ≤ 200) (ho : OwnsN w' B v L) (hb : Below w.heap.size w w') : StIs N n X m s w (.returned (.tuple #[.agg #[v], .bool true])) w' := by
  obtain ⟨b, h1, h2⟩ := ho.own (by omega)
  exact ⟨v, true, b, L, rfl, .inl ⟨rfl, h⟩, fun hn => ⟨Nat.le_trans hB (h1 hn).1, (h1 hn).2⟩, h2, hl, hb⟩

end Go.Proofs.YtadlflgflnlhjaaGreatDoor
namespace Go.Proofs.YtadlflgflnlhjaaGreatDoor
open Go.RowKit
set_option linter.unusedVariables false

set_option maxRecDepth 100000 in
set_option maxHeartbeats 2000000 in
theorem implSet_own (b n : Nat) (a : Option Addr) (c : Nat) (N : Nat → Nd) (s : ByteArray) (b' m : Nat) (a' : Option Addr) (c' : Nat) (X : Nat → Nd) (w : World) (h : OwnAt w b (.slice a n c) n N) (hsm : SmallN n N) (h' : OwnAt w b' (.slice a' m c') m X) (hsm' : SmallN m X) (htab : Tab w.heap.size w) (hcap : n ≤ c) (hml : ML w) :
    Calls Tryz.prog 11 #[.agg #[.slice a n c], .string s, .agg #[.slice a' m c']] w (StIs N n X m s w) := by
  have HO : Hid (OwnAt w b (.slice a n c) n N) := h
  have HSM : Hid (SmallN n N) := hsm
  have HO' : Hid (OwnAt w b' (.slice a' m c') m X) := h'
  have HSM' : Hid (SmallN m X) := hsm'
  have HTB : Hid (Tab w.heap.size w) := htab
  have HML : Hid (ML w) := hml
  have n20 : n ≤ 2 ^ 20 := hsm.1
  have m20 : m ≤ 2 ^ 20 := hsm'.1
  have h61 := names60 s.data.toList
  have hbl : ∀ o o' o'', Below w.heap.size w (((w.alloc o).alloc o').alloc o'') := fun o o' o'' => (((Below.refl _ _).alloc (Nat.le_refl _) o).alloc (by simp) o').alloc (by simp; omega) o''
  clear h hsm h' hsm' htab hml
  go_enter Tryz.func11, Tryz.ntmps11
  go_wp2_with fail
  refine (implPathC_any s _ (HML.out.below (hbl _ _ _))).mono ?_
  rintro e w1 ⟨v1, g1, rfl, hg1, ho1, hb1, hcp⟩
  obtain ⟨a1, c1, rfl, hc1⟩ : ∃ a c, v1 = .slice a (namesN s.data.toList) c ∧ namesN s.data.toList ≤ c := by obtain ⟨a, c, rfl, _⟩ := ho1; obtain ⟨_, _, _, e, hle⟩ := hcp; simp only [Value.slice.injEq] at e; obtain ⟨_, rfl, rfl⟩ := e; exact ⟨a, c, rfl, hle⟩
  have x1 : w1.cell? ⟨w.heap.size, 0, none⟩ = some (.slice a n c) := by rw [hb1.cell (by simp; omega)]; simp [go_sem]
  have y1 : w1.cell? ⟨w.heap.size + 1, 0, none⟩ = some (.slice a' m c') := by rw [hb1.cell (by simp)]; simp [go_sem]
  have r1 : w1.cell? ⟨w.heap.size + 1 + 1, 0, none⟩ = some (.slice none 0 0) := by rw [hb1.cell (by simp)]; simp [go_sem]
  have f1 : w1.frozen? ⟨w.heap.size + 1 + 1, 0, none⟩ = false := by rw [hb1.frozen (by simp)]; simp [go_sem]
  have HB1 : Hid (Below w.heap.size w w1) := (hbl _ _ _).trans (hb1.mono (by simp; omega))
  have zR : w.heap.size + 1 + 1 < w1.heap.size := by have := hb1.size; simp at this; omega
  have z1 : w.heap.size < w1.heap.size := by omega
  have zY : w.heap.size + 1 < w1.heap.size := by omega
  have HNM : Hid (ArgS w1 a1 (namesN s.data.toList) (namesF s.data.toList)) := ho1.arg
  clear hb1 hbl ho1 hg1 hcp
  cases hp : (namesL s.data.toList).isSome with
  | false =>
    have HN : Hid (∀ L, ¬ SetTo N n X m s L) := fun L h => by have := h.1.1.2; rw [hp] at this; simp at this
    go_wp2_with fail
    exact bodyPost_ret (v := .tuple #[.agg #[.slice none 0 0], .bool false]) (by simp [results, Tryz.results11, go_sem, r1]) rfl (StIs.no HN.out (Below.setR HB1.out (by omega)))
  | true =>
    go_wp2_with fail
    refine (implGood_own b n a c N _ (HO.out.below HB1.out) HSM.out (HTB.out.up HB1.out)).mono ?_
    rintro e w2 ⟨q, rfl, hq, hb2⟩
    have x2 : w2.cell? ⟨w.heap.size, 0, none⟩ = some (.slice a n c) := (hb2.cell z1).trans x1
    have y2 : w2.cell? ⟨w.heap.size + 1, 0, none⟩ = some (.slice a' m c') := (hb2.cell zY).trans y1
    have r2 : w2.cell? ⟨w.heap.size + 1 + 1, 0, none⟩ = some (.slice none 0 0) := (hb2.cell zR).trans r1
    have f2 : w2.frozen? ⟨w.heap.size + 1 + 1, 0, none⟩ = false := (hb2.frozen zR).trans f1
    have HB2 : Hid (Below w.heap.size w w2) := HB1.out.trans (hb2.mono HB1.out.size)
    have HNM2 : Hid (ArgS w2 a1 (namesN s.data.toList) (namesF s.data.toList)) := HNM.out.below hb2
    have zR2 : w.heap.size + 1 + 1 < w2.heap.size := Nat.lt_of_lt_of_le zR hb2.size
    clear hb2 x1 y1 r1 f1 HNM
    cases q with
    | false =>
      have HN : Hid (∀ L, ¬ SetTo N n X m s L) := fun L h => by have := hq.2 h.1.1.1; simp at this
      clear hq
      go_wp2_with fail
      exact bodyPost_ret (v := .tuple #[.agg #[.slice none 0 0], .bool false]) (by simp [results, Tryz.results11, go_sem, r2]) rfl (StIs.no HN.out (Below.setR HB2.out (by omega)))
    | true =>
      have HG : Hid (GoodV N n) := hq.1 rfl
      clear hq
      go_wp2_with fail
      refine (implGood_own b' m a' c' X _ (HO'.out.below HB2.out) HSM'.out (HTB.out.up HB2.out)).mono ?_
      rintro e w3 ⟨q, rfl, hq, hb3⟩
      have x3 : w3.cell? ⟨w.heap.size, 0, none⟩ = some (.slice a n c) := (hb3.cell (by show w.heap.size < _; omega)).trans x2
      have y3 : w3.cell? ⟨w.heap.size + 1, 0, none⟩ = some (.slice a' m c') := (hb3.cell (by show w.heap.size + 1 < _; omega)).trans y2
      have r3 : w3.cell? ⟨w.heap.size + 1 + 1, 0, none⟩ = some (.slice none 0 0) := (hb3.cell zR2).trans r2
      have f3 : w3.frozen? ⟨w.heap.size + 1 + 1, 0, none⟩ = false := (hb3.frozen zR2).trans f2
      have HB3 : Hid (Below w.heap.size w w3) := HB2.out.trans (hb3.mono HB2.out.size)
      have HNM3 : Hid (ArgS w3 a1 (namesN s.data.toList) (namesF s.data.toList)) := HNM2.out.below hb3
      have zR3 : w.heap.size + 1 + 1 < w3.heap.size := Nat.lt_of_lt_of_le zR2 hb3.size
      clear hb3 x2 y2 r2 f2 HNM2
      cases q with
      | false =>
        have HN : Hid (∀ L, ¬ SetTo N n X m s L) := fun L h => by have := hq.2 h.1.2; simp at this
        clear hq
        go_wp2_with fail
        exact bodyPost_ret (v := .tuple #[.agg #[.slice none 0 0], .bool false]) (by simp [results, Tryz.results11, go_sem, r3]) rfl (StIs.no HN.out (Below.setR HB3.out (by omega)))
      | true =>
        have HX : Hid (GoodV X m) := hq.1 rfl
        have HAS : Hid (AskedOf N n s ∧ GoodV X m) := ⟨⟨HG.out, hp⟩, HX.out⟩
        clear hq
        obtain ⟨b1, o1, rfl, hb1, hat1⟩ := own_some HO.out HG.out.1.1
        obtain ⟨b2, o2, rfl, hb2, hat2⟩ := own_some HO'.out HX.out.1.1
        have HT1 : Hid (NodesAt w3 b1 o1 n N) := hat1.below HB3.out hb1
        have HT2 : Hid (NodesAt w3 b2 o2 m X) := hat2.below HB3.out hb2
        have hbz : b1 < w3.heap.size := Nat.lt_of_lt_of_le hb1 HB3.out.size
        have hbz2 : b2 < w3.heap.size := Nat.lt_of_lt_of_le hb2 HB3.out.size
        clear hat1 hat2
        go_wp2_with fail
        refine (setNodes_any b1 o1 c n N a1 c1 (namesN s.data.toList) (namesF s.data.toList) b2 o2 c' m X _ HG.out HX.out hcap hbz HT1.out hbz2 HT2.out (by omega) hc1 HNM3.out).mono ?_
        rintro e w4 hcase
        have HSF : Hid (∀ t', setT (tree X m 0) (nmsL s) (tree N n 0) = some t' → t'.named ∧ t'.cnt ≤ 200 ∧ (t'.flat ByteArray.empty (-1) 0).length ≤ 200 ∧ SmallN (t'.flat ByteArray.empty (-1) 0).length (fun i => (t'.flat ByteArray.empty (-1) 0).getD i ⟨0, 0, ⟨#[]⟩, ⟨#[]⟩, 0⟩)) := set_facts HG.out HX.out s
        rcases hcase with ⟨hno, rfl, hb4⟩ | ⟨t', la, lc, hyes, rfl, ho4, _, hb4⟩
        · have HN : Hid (∀ L, ¬ SetTo N n X m s L) := fun L h => by obtain ⟨_, t', h1, _⟩ := h; have := hno.symm.trans h1; simp at this
          have x4 : w4.cell? ⟨w.heap.size, 0, none⟩ = some (.slice (some ⟨b1, o1, none⟩) n c) := (hb4.cell (by show w.heap.size < _; omega)).trans x3
          have r4 : w4.cell? ⟨w.heap.size + 1 + 1, 0, none⟩ = some (.slice none 0 0) := (hb4.cell zR3).trans r3
          have f4 : w4.frozen? ⟨w.heap.size + 1 + 1, 0, none⟩ = false := (hb4.frozen zR3).trans f3
          have HB4 : Hid (Below w.heap.size w w4) := HB3.out.trans (hb4.mono HB3.out.size)
          have zR4 : w.heap.size + 1 + 1 < w4.heap.size := Nat.lt_of_lt_of_le zR3 hb4.size
          clear hb4 hno HSF
          have zs : w.heap.size + 1 + 1 < (w4.setCell ⟨w.heap.size + 1 + 1, 0, none⟩ (.slice none 0 0)).heap.size := by simpa [World.setCell] using zR4
          have r5 : ∀ o, ((w4.setCell ⟨w.heap.size + 1 + 1, 0, none⟩ (.slice none 0 0)).alloc o).cell? ⟨w.heap.size + 1 + 1, 0, none⟩ = some (.slice none 0 0) := fun o => (((Below.refl _ _).alloc (Nat.le_refl _) o).cell zs).trans (World.cell?_setCell_same' _ _ _ (by rw [r4]; rfl))
          go_wp2_with fail
          exact bodyPost_ret (v := .tuple #[.agg #[.slice none 0 0], .bool false]) (by simp [results, Tryz.results11, go_sem, r5]) rfl (StIs.no HN.out ((Below.setR HB4.out (by omega)).alloc (by omega) _))
        · have x4 : w4.cell? ⟨w.heap.size, 0, none⟩ = some (.slice (some ⟨b1, o1, none⟩) n c) := (hb4.cell (by show w.heap.size < _; omega)).trans x3
          have r4 : w4.cell? ⟨w.heap.size + 1 + 1, 0, none⟩ = some (.slice none 0 0) := (hb4.cell zR3).trans r3
          have f4 : w4.frozen? ⟨w.heap.size + 1 + 1, 0, none⟩ = false := (hb4.frozen zR3).trans f3
          have HB4 : Hid (Below w.heap.size w w4) := HB3.out.trans (hb4.mono HB3.out.size)
          have zR4 : w.heap.size + 1 + 1 < w4.heap.size := Nat.lt_of_lt_of_le zR3 hb4.size
          have hsf := HSF.out t' hyes
          obtain ⟨L, hL⟩ : ∃ L, L = t'.flat ByteArray.empty (-1) 0 := ⟨_, rfl⟩
          rw [← hL] at ho4 hsf ⊢
          have HF : Hid (L = t'.flat ByteArray.empty (-1) 0 ∧ setT (tree X m 0) (nmsL s) (tree N n 0) = some t' ∧ L.length ≤ 200 ∧ SmallN L.length (fun i => L.getD i ⟨0, 0, ⟨#[]⟩, ⟨#[]⟩, 0⟩)) := ⟨hL, hyes, hsf.2.2⟩
          have HO4 : Hid (OwnsN w4 w3.heap.size (.slice la L.length lc) L) := ho4
          clear hb4 hyes HSF hL ho4 hsf
          have al4 : ∀ o, Below w4.heap.size w4 (w4.alloc o) := fun o => (Below.refl _ _).alloc (Nat.le_refl _) o
          go_wp2_with fail
          obtain ⟨bL, hbL1, hbL2⟩ := HO4.out.own (by have := HF.out.2.2.1; omega)
          refine (implGood_own bL L.length la lc _ _ (hbL2.below (al4 _)) HF.out.2.2.2 (HTB.out.up (HB4.out.trans ((al4 _).mono HB4.out.size)))).mono ?_
          rintro e w5 ⟨q, rfl, hq, hb5⟩
          have b5 : Below w4.heap.size w4 w5 := (al4 _).trans (hb5.mono (by simp))
          have m5 : w5.cell? ⟨w4.heap.size, 0, none⟩ = some (.slice la L.length lc) := by rw [hb5.cell (by simp)]; simp [go_sem]
          have r5 : w5.cell? ⟨w.heap.size + 1 + 1, 0, none⟩ = some (.slice none 0 0) := (b5.cell zR4).trans r4
          have f5 : w5.frozen? ⟨w.heap.size + 1 + 1, 0, none⟩ = false := (b5.frozen zR4).trans f4
          have HB5 : Hid (Below w.heap.size w w5) := HB4.out.trans (b5.mono HB4.out.size)
          have HO5 : Hid (OwnsN w5 w3.heap.size (.slice la L.length lc) L) := own_below HO4.out b5
          clear hbL1 hbL2 hb5 b5 al4 HO4
          cases q with
          | false =>
            have HN : Hid (∀ L, ¬ SetTo N n X m s L) := fun M h => by
              obtain ⟨_, t2, h1, h2, h3⟩ := h
              obtain rfl := Option.some.inj (HF.out.2.1.symm.trans h1)
              rw [← HF.out.1] at h2
              subst h2
              have := hq.2 h3
              simp at this
            clear hq
            go_wp2_with fail
            exact bodyPost_ret (v := .tuple #[.agg #[.slice none 0 0], .bool false]) (by simp [results, Tryz.results11, go_sem, r5]) rfl (StIs.no HN.out (Below.setR HB5.out (by omega)))
          | true =>
            have HY : Hid (SetTo N n X m s L) := ⟨HAS.out, t', HF.out.2.1, HF.out.1, hq.1 rfl⟩
            clear hq
            go_wp2_with fail
            exact bodyPost_ret (v := .tuple #[.agg #[.slice la L.length lc], .bool true]) (by simp [results, Tryz.results11, go_sem, r5]) rfl (StIs.yes HY.out HB3.out.size HF.out.2.2.1 (own_set HO5.out (by omega)) (Below.setR HB5.out (by omega)))

end Go.Proofs.YtadlflgflnlhjaaGreatDoor
