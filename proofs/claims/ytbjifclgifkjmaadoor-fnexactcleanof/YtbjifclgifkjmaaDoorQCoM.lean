/- The tree of a good value: its maps hold nothing but parts, whose names rise. No program in this text. Own rows of nodes, kept. No program. What CleanOf answers. No program in this text. errors.As of a fault, and of none, where a fault is wanted: Go's own text walked. errors.As of a fault where a fault is wanted: it is laid into the variable. errors.As of a fault where a fault is wanted: Go's own text walked. Whether a value is clean: the program's walks. A cell of a row of nodes written. No program. Nodes copied: the program's slices.Clone. A tree's nodes in a row, by the specification. A slice with room: slices.Grow of none, slices.Concat. Nodes ahead, a part, and nodes behind, in one new row: the program's putBetween. A tree's nodes in a new row: the specification's l1Of. -/
import Derived.Test.YtbjifclgifkjmaaDoorCleanN
import Derived.Test.YtbjifclgifkjmaaDoorSubI
import Derived.Test.YtbjifclgifkjmaaDoorBase
import Derived.WalkKit
import Derived.LaidEql
import Derived.Stop.Asserts
import Derived.RowKitTokens
import Derived.RowKit
import Derived.Test.YtbjifclgifkjmaaDoorCleanM
import Derived.Deep.RegionWith
import Derived.Deep.RegionHeld3
import Derived.Deep.DeepFit
import Derived.Test.YtbjifclgifkjmaaDoorPutM0
import Derived.Test.YtbjifclgifkjmaaDoorOwnP
import Derived.Deep.DeepCutAuto
import Derived.Lib.AppendZeros
import Derived.Laws.OwnMore
import Derived.Test.YtbjifclgifkjmaaDoorTreeF0
import Derived.Test.YtbjifclgifkjmaaDoorTell
import Derived.Test.YtbjifclgifkjmaaDoorPutM
namespace Go.Proofs.YtbjifclgifkjmaaDoor
open Go.RowKit
set_option linter.unusedVariables false

theorem kidsTo_pair (N : Nat → Nd) (k : Nat) : ∀ j, (kidsTo N k j).Pairwise (· < ·) := by
  intro j
  induction j with
  | zero => exact List.Pairwise.nil
  | succ j ih =>
    rw [kidsTo]
    split
    · rw [List.pairwise_append]
      refine ⟨ih, by simp, fun a ha b hb => ?_⟩
      simp at hb
      subst hb
      exact (kidsTo_mem ha).2.1
    · exact ih
theorem good_map {N : Nat → Nd} {n i : Nat} (hg : GoodV N n) (hi : i < n) (h7 : (N i).kind = 7) : (N i).num = 0 ∧ (N i).text = ⟨#[]⟩ := by
  have h := (hg.1.2.2 i hi).1
  unfold contentB at h
  rw [if_neg (by omega), if_neg (by omega), if_pos (by omega)] at h
  simp only [Bool.and_eq_true, decide_eq_true_eq] at h
  exact ⟨h.1, text_empty h.2⟩
theorem tree_rises {N : Nat → Nd} {n : Nat} (hg : GoodV N n) : ∀ d k, n - k = d → k < n → (tree N n k).rises := by
  have hc := fun i hi h7 => good_map (i := i) hg hi h7
  intro d
  induction d using Nat.strongRecOn with
  | _ d ih =>
    intro k hd hk
    rw [tree_eq hk, Tr.rises]
    refine ⟨fun h7 => ⟨(hc k hk h7).1, (hc k hk h7).2, ?_, ?_⟩, Tr.risess_mem.2 fun t ht => ?_⟩
    · unfold kidNames
      rw [if_pos h7]
      simp
    · unfold kidNames
      rw [if_pos h7, List.pairwise_map]
      refine List.Pairwise.imp_of_mem (fun {a b} ha hb hab => ?_) (kidsTo_pair N k n)
      obtain ⟨a1, a2, a3⟩ := kidsTo_mem ha
      obtain ⟨b1, b2, b3⟩ := kidsTo_mem hb
      have := kid_names hg h7 (b - a) a b rfl (by omega) hab b2 a3 b3
      unfold leB
      unfold nameLess at this
      rw [this]
      rfl
    · obtain ⟨p, hp, rfl⟩ := List.mem_map.1 ht
      obtain ⟨p1, p2, p3⟩ := kidsTo_mem hp
      exact ih (n - p) (by omega) p rfl p2

end Go.Proofs.YtbjifclgifkjmaaDoor
namespace Go.Proofs.YtbjifclgifkjmaaDoor
open Go.RowKit
set_option linter.unusedVariables false

theorem own_set {w : World} {B R x : Nat} {v u : Value} {L : List Nd} (h : OwnsN w B v L) (hR : R < B) : OwnsN (w.setCell ⟨R, x, none⟩ u) B v L := row_block h fun b hb _ _ => Below.heap_setCell _ _ _ _ (by show b ≠ R; omega)
theorem own_len {w : World} {B m : Nat} {v : Value} {L : List Nd} (h : OwnsN w B v L) (hm : L.length = m) : w.ownsRow B 47 5 v m (ndCells L) := by rw [← hm]; exact h
theorem own_set' {w : World} {B R x : Nat} {v u : Value} {L : List Nd} (h : OwnsN w B v L) (hR : R < B) : OwnsN (w.setCell ⟨R, x, none⟩ u) B v L := own_set h hR
theorem OwnsN.low {w : World} {B B' : Nat} {v : Value} {L : List Nd} (h : OwnsN w B v L) (hB : B' ≤ B) : OwnsN w B' v L := by
  refine ⟨h.1, ?_⟩
  rcases h.2 with hn | ⟨g, cap, cur, rfl, hb, rest⟩
  · exact .inl hn
  · exact .inr ⟨g, cap, cur, rfl, by omega, rest⟩
theorem Below.setR {B R x : Nat} {w w' : World} {u : Value} (h : Below B w w') (hR : B ≤ R) : Below B w (w'.setCell ⟨R, x, none⟩ u) := h.trans ⟨rfl, rfl, rfl, by simp, fun b hb => Below.heap_setCell _ _ _ _ (by show b ≠ R; omega)⟩

theorem grown_none {w w' : World} (h : w.grownBy w' none) : Below w.heap.size w w' := ⟨h.os, h.tape, h.output, h.size, fun b hb => h.block b hb (by simp)⟩

end Go.Proofs.YtbjifclgifkjmaaDoor
namespace Go.Proofs.YtbjifclgifkjmaaDoor
open Go.RowKit
set_option linter.unusedVariables false

def CoTold (N : Nat → Nd) (n : Nat) (q : Bool) (L : List Nd) : Prop := (q = true ∧ GoodV N n ∧ L = (tree N n 0).cln.flat ByteArray.empty (-1) 0) ∨ (q = false ∧ ¬ GoodV N n ∧ L = [])
theorem CoTold.same {N : Nat → Nd} {n : Nat} {q r : Bool} {L M : List Nd} (h : CoTold N n q L) (k : CoTold N n r M) : q = r ∧ L = M := by
  rcases h with ⟨rfl, g, rfl⟩ | ⟨rfl, g, rfl⟩ <;> rcases k with ⟨rfl, g', rfl⟩ | ⟨rfl, g', rfl⟩
  · exact ⟨rfl, rfl⟩
  · exact absurd g g'
  · exact absurd g' g
  · exact ⟨rfl, rfl⟩
def CoIs (N : Nat → Nd) (n : Nat) (w : World) (e : Ending) (w' : World) : Prop :=
  ∃ v q b L, e = .returned (.tuple #[.agg #[v], .bool q]) ∧ CoTold N n q L ∧ L.length ≤ 80 ∧ (L ≠ [] → w.heap.size ≤ b ∧ b < w'.heap.size) ∧ OwnAt w' b v L.length (fun i => L.getD i ⟨0, 0, ⟨#[]⟩, ⟨#[]⟩, 0⟩) ∧ Below w.heap.size w w'
theorem CoIs.no {N : Nat → Nd} {n : Nat} {w w' : World} (h : ¬ GoodV N n) (hb : Below w.heap.size w w') : CoIs N n w (.returned (.tuple #[.agg #[.slice none 0 0], .bool false])) w' :=
  ⟨_, _, 0, [], rfl, .inr ⟨rfl, h, rfl⟩, by decide, fun h => absurd rfl h, ⟨none, 0, 0, rfl, by decide, .inl rfl⟩, hb⟩
theorem CoIs.yes {N : Nat → Nd} {n B : Nat} {L : List Nd} {w w' : World} {v : Value} (h : GoodV N n) (hL : L = (tree N n 0).cln.flat ByteArray.empty (-1) 0) (hl : L.length ≤ 80) (hB : w.heap.size ≤ B) (ho : OwnsN w' B v L) (hb : Below w.heap.size w w') : CoIs N n w (.returned (.tuple #[.agg #[v], .bool true])) w' := by
  obtain ⟨b, h1, h2⟩ := ho.own (by omega)
  exact ⟨v, true, b, L, rfl, .inl ⟨rfl, h, hL⟩, hl, fun hn => ⟨Nat.le_trans hB (h1 hn).1, (h1 hn).2⟩, h2, hb⟩

end Go.Proofs.YtbjifclgifkjmaaDoor
namespace Go.Proofs.YtbjifclgifkjmaaDoor
open Go.RowKit Go.Extern.Stop Go.Stop Go.Extern
set_option linter.unusedVariables false

/-- errors.As(nil, target). -/
theorem as_nil (t : Value) (w : World) :
    Calls Tryd.prog 19 #[.nilIface, t] w fun e w' => e = .returned (.bool false) ∧ w' = w := by
  go_enter Tryd.func19, Tryd.ntmps19
  go_wp2
  go_ret
  exact ⟨rfl, rfl⟩

theorem asValueOfP (t : Addr) (w : World) : (ReflectliteValue.unpack (.iface 54 (.pointer (some t)))).run Tryd.prog w
    = .ok (.agg #[.pointer (some ⟨5, 54, none⟩), .pointer (some ⟨w.heap.size, 0, none⟩), .int .u64 150]) (w.alloc (.cells #[.pointer (some t)] 54)) := by kernel_rfl
theorem asTypeP (a : Addr) (w : World) : (ReflectliteValue.methodAny (ReflectliteValue.valueError "reflectlite.Value.Type" 0) (fun t _ _ _ => ReflectliteType.toType t) #[.agg #[.pointer (some ⟨5, 54, none⟩), .pointer (some a), .int .u64 150]]).run Tryd.prog w
    = .ok (.iface 95 (.agg #[.pointer (some ⟨5, 54, none⟩)])) w := by kernel_rfl
theorem asMethodKind (h : Value) (w : World) : (Go.method 265 95 (.agg #[h]) "Kind").run Tryd.prog w = .ok (92, h) w := by kernel_rfl
theorem asKindP (w : World) : ((ReflectliteType.abiMethod fun t => (fun a : Nat => Value.int IntKind.u8 (a : Int)) <$> Rtype.kind t) #[.pointer (some ⟨5, 54, none⟩)]).run Tryd.prog w = .ok (.int .u8 22) w := by kernel_rfl
theorem asKindF (w : World) : ((ReflectliteType.abiMethod fun t => (fun a : Nat => Value.int IntKind.u8 (a : Int)) <$> Rtype.kind t) #[.pointer (some ⟨5, 51, none⟩)]).run Tryd.prog w = .ok (.int .u8 25) w := by kernel_rfl
theorem rlm (z : Sem Value) (f : TypeId → Addr → Nat → Nat → Sem Value) (v : Value) :
    ReflectliteValue.method z f #[v] = (do match ← ReflectliteValue.parts v with | none => z | some (t, a, fl) => f t a fl (fl % 32)) := rfl
theorem asPartsP (a : Addr) (w : World) : (ReflectliteValue.parts (.agg #[.pointer (some ⟨5, 54, none⟩), .pointer (some a), .int .u64 150])).run Tryd.prog w = .ok (some (54, a, 150)) w := by kernel_rfl
theorem asIsNilP (a p : Addr) (W : World) (ha : W.cell? a = some (.pointer (some p))) :
    (ReflectliteValue.method (ReflectliteValue.valueError "reflectlite.Value.IsNil" 0) ReflectliteValue.isNil #[.agg #[.pointer (some ⟨5, 54, none⟩), .pointer (some a), .int .u64 150]]).run Tryd.prog W = .ok (.bool false) W := by
  rw [rlm]
  simp only [Sem.run_bind, asPartsP, Result.andThen]
  simp [ReflectliteValue.isNil, loadVar, isAgg, underlying, Tryd.underlying54, ha, Result.andThen]
theorem asMethodElem (h : Value) (w : World) : (Go.method 265 95 (.agg #[h]) "Elem").run Tryd.prog w = .ok (103, .agg #[h]) w := by kernel_rfl
theorem asMethodImplements (h : Value) (w : World) : (Go.method 265 95 (.agg #[h]) "Implements").run Tryd.prog w = .ok (104, .agg #[h]) w := by kernel_rfl
theorem asMethodAssignableTo (h : Value) (w : World) : (Go.method 265 95 (.agg #[h]) "AssignableTo").run Tryd.prog w = .ok (101, .agg #[h]) w := by kernel_rfl
theorem asElemP (w : World) : (ReflectliteType.method ReflectliteType.elem #[.agg #[.pointer (some ⟨5, 54, none⟩)]]).run Tryd.prog w = .ok (.iface 95 (.agg #[.pointer (some ⟨5, 51, none⟩)])) w := by kernel_rfl
theorem asImplementsF (w : World) : (ReflectliteType.relation "Implements" ReflectliteType.implements_ #[.agg #[.pointer (some ⟨5, 51, none⟩)], .iface 95 (.agg #[.pointer (some ⟨5, 49, none⟩)])]).run Tryd.prog w = .ok (.bool true) w := by kernel_rfl
theorem asTypeOfF (v : Value) (w : World) : (ReflectliteType.typeOf #[.iface 51 v]).run Tryd.prog w = .ok (.iface 95 (.agg #[.pointer (some ⟨5, 51, none⟩)])) w := by kernel_rfl
theorem asAssignableF (w : World) : (ReflectliteType.relation "AssignableTo" ReflectliteType.assignableTo #[.agg #[.pointer (some ⟨5, 51, none⟩)], .iface 95 (.agg #[.pointer (some ⟨5, 51, none⟩)])]).run Tryd.prog w = .ok (.bool true) w := by kernel_rfl
theorem asValueOfF (x y : Value) (w : World) : (ReflectliteValue.unpack (.iface 51 (.agg #[x, y]))).run Tryd.prog w
    = .ok (.agg #[.pointer (some ⟨5, 51, none⟩), .pointer (some ⟨w.heap.size, 0, none⟩), .int .u64 153]) (w.alloc (.cells #[x, y] 51)) := by kernel_rfl
theorem asElemOfP (w : World) : (Rtype.elem? 54).run Tryd.prog w = .ok (some 51) w := by kernel_rfl
theorem asMkF (p : Addr) (w : World) : (ReflectliteValue.mk 51 p ReflectliteValue.flagAddr).run Tryd.prog w = .ok (.agg #[.pointer (some ⟨5, 51, none⟩), .pointer (some p), .int .u64 409]) w := by kernel_rfl
theorem asElemVP (a p : Addr) (W : World) (ha : W.cell? a = some (.pointer (some p))) :
    (ReflectliteValue.method (ReflectliteValue.valueError "reflectlite.Value.Elem" 0) ReflectliteValue.elem #[.agg #[.pointer (some ⟨5, 54, none⟩), .pointer (some a), .int .u64 150]]).run Tryd.prog W
      = .ok (.agg #[.pointer (some ⟨5, 51, none⟩), .pointer (some p), .int .u64 409]) W := by
  rw [rlm]
  simp only [Sem.run_bind, asPartsP, Result.andThen]
  simp [ReflectliteValue.elem, loadVar, isAgg, underlying, Tryd.underlying54, ha, Result.andThen, asElemOfP, asMkF]
theorem asPartsFa (a : Addr) (w : World) : (ReflectliteValue.parts (.agg #[.pointer (some ⟨5, 51, none⟩), .pointer (some a), .int .u64 409])).run Tryd.prog w = .ok (some (51, a, 409)) w := by kernel_rfl
theorem asPartsF (a : Addr) (w : World) : (ReflectliteValue.parts (.agg #[.pointer (some ⟨5, 51, none⟩), .pointer (some a), .int .u64 153])).run Tryd.prog w = .ok (some (51, a, 153)) w := by kernel_rfl
theorem asDirectF (w : World) : (Rtype.directlyAssignable 51 51).run Tryd.prog w = .ok true w := by kernel_rfl
theorem asSizeF (w : World) : (sizeOf 51).run Tryd.prog w = .ok 2 w := by kernel_rfl

end Go.Proofs.YtbjifclgifkjmaaDoor
namespace Go.Proofs.YtbjifclgifkjmaaDoor
open Go.RowKit Go.Extern.Stop Go.Stop Go.Extern
set_option linter.unusedVariables false

set_option maxHeartbeats 2000000 in
theorem asSetF (g h : Nat) (x y o1 o2 : Value) (W : World) (hx : x.oneCell' = true) (hy : y.oneCell' = true) (hb : W.cell? ⟨h, 0, none⟩ = some x) (hb2 : W.cell? ⟨h, 1, none⟩ = some y) (ht : W.cell? ⟨g, 0, none⟩ = some o1) (ht2 : W.cell? ⟨g, 1, none⟩ = some o2) (hf : W.frozen? ⟨g, 0, none⟩ = false) (hf2 : W.frozen? ⟨g, 1, none⟩ = false) :
    (ReflectliteValue.set #[.agg #[.pointer (some ⟨5, 51, none⟩), .pointer (some ⟨g, 0, none⟩), .int .u64 409], .agg #[.pointer (some ⟨5, 51, none⟩), .pointer (some ⟨h, 0, none⟩), .int .u64 153]]).run Tryd.prog W
      = .ok (.tuple #[]) ((W.setCell ⟨g, 0, none⟩ x).setCell ⟨g, 1, none⟩ y) := by
  change Sem.run Tryd.prog (bind (ReflectliteValue.parts (.agg #[.pointer (some ⟨5, 51, none⟩), .pointer (some ⟨g, 0, none⟩), .int .u64 409])) fun p => bind (ReflectliteValue.parts (.agg #[.pointer (some ⟨5, 51, none⟩), .pointer (some ⟨h, 0, none⟩), .int .u64 153])) fun q => _) W = _
  simp only [Sem.run_bind, asPartsFa, asPartsF, Result.andThen]
  simp [ReflectliteValue.flagAddr, loadVar, isAgg, underlying, Tryd.underlying51, Result.andThen, asDirectF, storeVar, Value.cells]
  have h1 : (loadCells ⟨h, 0, none⟩ 2).run Tryd.prog W = .ok #[x, y] W := by simp [loadCells, loadCellsFrom, Addr.add, hb, hb2, Result.andThen]
  have c2 : (W.setCell ⟨g, 0, none⟩ x).cell? ⟨g, 1, none⟩ = some o2 := by
    rw [cell_set (by rw [ht]; rfl)]
    simp [ht2]
  have f2 : (W.setCell ⟨g, 0, none⟩ x).frozen? ⟨g, 1, none⟩ = false := by rw [World.frozen?_setCell]; exact hf2
  have h2 : (storeCells ⟨g, 0, none⟩ [x, y]).run Tryd.prog W = .ok () ((W.setCell ⟨g, 0, none⟩ x).setCell ⟨g, 1, none⟩ y) := by
    simp [storeCells, Addr.add, Result.andThen]
    rw [run_store Tryd.prog W _ _ _ hx]
    simp [ht, hf]
    rw [run_store Tryd.prog _ _ _ _ hy]
    simp [c2, f2]
  rw [h1]
  simp [h2]

end Go.Proofs.YtbjifclgifkjmaaDoor
namespace Go.Proofs.YtbjifclgifkjmaaDoor
open Go.RowKit Go.Extern.Stop Go.Stop Go.Extern
set_option linter.unusedVariables false

/-- The variable that holds the type of errors. -/
def ErrTy (w : World) : Prop := w.cell? ⟨0, 0, none⟩ = some (.iface 95 (.agg #[.pointer (some ⟨5, 49, none⟩)]))

set_option maxRecDepth 100000 in
set_option maxHeartbeats 4000000 in
theorem as_hit (x y o1 o2 : Value) (g : Nat) (w : World) (hg : ErrTy w) (hx : x.oneCell' = true) (hy : y.oneCell' = true) (ht : w.cell? ⟨g, 0, none⟩ = some o1) (ht2 : w.cell? ⟨g, 1, none⟩ = some o2) (hf : w.frozen? ⟨g, 0, none⟩ = false) (hf2 : w.frozen? ⟨g, 1, none⟩ = false) :
    Calls Tryd.prog 19 #[.iface 51 (.agg #[x, y]), .iface 54 (.pointer (some ⟨g, 0, none⟩))] w fun ev w' => ev = .returned (.bool true) ∧ w'.cell? ⟨g, 0, none⟩ = some x ∧ w'.cell? ⟨g, 1, none⟩ = some y ∧ w'.frozen? ⟨g, 0, none⟩ = false ∧ w'.frozen? ⟨g, 1, none⟩ = false ∧ BelowBut w.heap.size g w w' := by
  unfold ErrTy at hg
  have h6 := @run_callFunc_extern Tryd.prog 36 _ (fun args => ReflectliteValue.unpack (args.getD 0 (.tuple #[]))) Tryd.func36 (by kernel_rfl) (by kernel_rfl) (by kernel_rfl) (by kernel_rfl)
  have h7 := @run_callFunc_extern Tryd.prog 37 _ (ReflectliteValue.methodAny (ReflectliteValue.valueError "reflectlite.Value.Type" 0) (fun t _ _ _ => ReflectliteType.toType t)) Tryd.func37 (by kernel_rfl) (by kernel_rfl) (by kernel_rfl) (by kernel_rfl)
  have h8 := @run_callFunc_extern Tryd.prog 38 _ (ReflectliteValue.method (ReflectliteValue.valueError "reflectlite.Value.IsNil" 0) ReflectliteValue.isNil) Tryd.func38 (by kernel_rfl) (by kernel_rfl) (by kernel_rfl) (by kernel_rfl)
  have h27 := @run_callFunc_extern Tryd.prog 92 _ (ReflectliteType.abiMethod fun t => do pure (.int .u8 (← Rtype.kind t))) Tryd.func92 (by kernel_rfl) (by kernel_rfl) (by kernel_rfl) (by kernel_rfl)
  have h37 := @run_callFunc_extern Tryd.prog 103 _ (ReflectliteType.method ReflectliteType.elem) Tryd.func103 (by kernel_rfl) (by kernel_rfl) (by kernel_rfl) (by kernel_rfl)
  have h38 := @run_callFunc_extern Tryd.prog 104 _ (ReflectliteType.relation "Implements" ReflectliteType.implements_) Tryd.func104 (by kernel_rfl) (by kernel_rfl) (by kernel_rfl) (by kernel_rfl)
  have h10 := @run_callFunc_extern Tryd.prog 54 _ ReflectliteType.typeOf Tryd.func54 (by kernel_rfl) (by kernel_rfl) (by kernel_rfl) (by kernel_rfl)
  have h35 := @run_callFunc_extern Tryd.prog 101 _ (ReflectliteType.relation "AssignableTo" ReflectliteType.assignableTo) Tryd.func101 (by kernel_rfl) (by kernel_rfl) (by kernel_rfl) (by kernel_rfl)
  have h11 := @run_callFunc_extern Tryd.prog 55 _ (ReflectliteValue.method (ReflectliteValue.valueError "reflectlite.Value.Elem" 0) ReflectliteValue.elem) Tryd.func55 (by kernel_rfl) (by kernel_rfl) (by kernel_rfl) (by kernel_rfl)
  have h12 := @run_callFunc_extern Tryd.prog 56 _ ReflectliteValue.set Tryd.func56 (by kernel_rfl) (by kernel_rfl) (by kernel_rfl) (by kernel_rfl)
  have tO := asTypeOfF
  have mA := asMethodAssignableTo
  have a25 := asAssignableF
  have v25 := asValueOfF
  have f6 := asValueOfP
  have f7 := asTypeP
  have mK := asMethodKind
  have mE := asMethodElem
  have mI := asMethodImplements
  have k27 := asKindP
  have k25 := asKindF
  have e27 := asElemP
  have i25 := asImplementsF
  have hlt : 0 < w.heap.size := World.block_lt_of_cell? _ _ hg
  have htl : g < w.heap.size := World.block_lt_of_cell? _ _ ht
  have B1 : Below w.heap.size w ((w.alloc (.cells #[.pointer (some ⟨g, 0, none⟩)] 54)).alloc (.cells #[.pointer (some ⟨5, 54, none⟩), .pointer (some ⟨w.heap.size, 0, none⟩), .int .u64 150] 73)) := ((Below.refl _ _).alloc (Nat.le_refl _) _).alloc (by simp) _
  have B2 : Below w.heap.size w (((w.alloc (.cells #[.pointer (some ⟨g, 0, none⟩)] 54)).alloc (.cells #[.pointer (some ⟨5, 54, none⟩), .pointer (some ⟨w.heap.size, 0, none⟩), .int .u64 150] 73)).alloc (.cells #[.pointer (some ⟨5, 54, none⟩), .pointer (some ⟨w.heap.size, 0, none⟩), .int .u64 150] 73)) := B1.alloc (by simp; omega) _
  have B3 : Below w.heap.size w ((((w.alloc (.cells #[.pointer (some ⟨g, 0, none⟩)] 54)).alloc (.cells #[.pointer (some ⟨5, 54, none⟩), .pointer (some ⟨w.heap.size, 0, none⟩), .int .u64 150] 73)).alloc (.cells #[.pointer (some ⟨5, 54, none⟩), .pointer (some ⟨w.heap.size, 0, none⟩), .int .u64 150] 73)).alloc (.cells #[x, y] 51)) := B2.alloc (by simp; omega) _
  have n8 := asIsNilP ⟨w.heap.size, 0, none⟩ ⟨g, 0, none⟩ ((w.alloc (.cells #[.pointer (some ⟨g, 0, none⟩)] 54)).alloc (.cells #[.pointer (some ⟨5, 54, none⟩), .pointer (some ⟨w.heap.size, 0, none⟩), .int .u64 150] 73)) (by simp [go_sem])
  have hg2 : ((w.alloc (.cells #[.pointer (some ⟨g, 0, none⟩)] 54)).alloc (.cells #[.pointer (some ⟨5, 54, none⟩), .pointer (some ⟨w.heap.size, 0, none⟩), .int .u64 150] 73)).cell? ⟨0, 0, none⟩ = some (.iface 95 (.agg #[.pointer (some ⟨5, 49, none⟩)])) := (B1.cell hlt).trans hg
  have el := asElemVP ⟨w.heap.size, 0, none⟩ ⟨g, 0, none⟩ (((w.alloc (.cells #[.pointer (some ⟨g, 0, none⟩)] 54)).alloc (.cells #[.pointer (some ⟨5, 54, none⟩), .pointer (some ⟨w.heap.size, 0, none⟩), .int .u64 150] 73)).alloc (.cells #[.pointer (some ⟨5, 54, none⟩), .pointer (some ⟨w.heap.size, 0, none⟩), .int .u64 150] 73)) (by simp [go_sem])
  have t1 : ((((w.alloc (.cells #[.pointer (some ⟨g, 0, none⟩)] 54)).alloc (.cells #[.pointer (some ⟨5, 54, none⟩), .pointer (some ⟨w.heap.size, 0, none⟩), .int .u64 150] 73)).alloc (.cells #[.pointer (some ⟨5, 54, none⟩), .pointer (some ⟨w.heap.size, 0, none⟩), .int .u64 150] 73)).alloc (.cells #[x, y] 51)).cell? ⟨g, 0, none⟩ = some o1 := (B3.cell htl).trans ht
  have t2 : ((((w.alloc (.cells #[.pointer (some ⟨g, 0, none⟩)] 54)).alloc (.cells #[.pointer (some ⟨5, 54, none⟩), .pointer (some ⟨w.heap.size, 0, none⟩), .int .u64 150] 73)).alloc (.cells #[.pointer (some ⟨5, 54, none⟩), .pointer (some ⟨w.heap.size, 0, none⟩), .int .u64 150] 73)).alloc (.cells #[x, y] 51)).cell? ⟨g, 1, none⟩ = some o2 := (B3.cell htl).trans ht2
  have u1 : ((((w.alloc (.cells #[.pointer (some ⟨g, 0, none⟩)] 54)).alloc (.cells #[.pointer (some ⟨5, 54, none⟩), .pointer (some ⟨w.heap.size, 0, none⟩), .int .u64 150] 73)).alloc (.cells #[.pointer (some ⟨5, 54, none⟩), .pointer (some ⟨w.heap.size, 0, none⟩), .int .u64 150] 73)).alloc (.cells #[x, y] 51)).frozen? ⟨g, 0, none⟩ = false := (B3.frozen htl).trans hf
  have u2 : ((((w.alloc (.cells #[.pointer (some ⟨g, 0, none⟩)] 54)).alloc (.cells #[.pointer (some ⟨5, 54, none⟩), .pointer (some ⟨w.heap.size, 0, none⟩), .int .u64 150] 73)).alloc (.cells #[.pointer (some ⟨5, 54, none⟩), .pointer (some ⟨w.heap.size, 0, none⟩), .int .u64 150] 73)).alloc (.cells #[x, y] 51)).frozen? ⟨g, 1, none⟩ = false := (B3.frozen htl).trans hf2
  have st := asSetF g (w.heap.size + 1 + 1 + 1) x y o1 o2 ((((w.alloc (.cells #[.pointer (some ⟨g, 0, none⟩)] 54)).alloc (.cells #[.pointer (some ⟨5, 54, none⟩), .pointer (some ⟨w.heap.size, 0, none⟩), .int .u64 150] 73)).alloc (.cells #[.pointer (some ⟨5, 54, none⟩), .pointer (some ⟨w.heap.size, 0, none⟩), .int .u64 150] 73)).alloc (.cells #[x, y] 51)) hx hy (by simp [go_sem]) (by simp [go_sem]) t1 t2 u1 u2
  have HF : Hid (∀ W3 : World, Below w.heap.size w W3 → W3.cell? ⟨g, 0, none⟩ = some o1 → W3.cell? ⟨g, 1, none⟩ = some o2 → W3.frozen? ⟨g, 0, none⟩ = false → W3.frozen? ⟨g, 1, none⟩ = false → ((W3.setCell ⟨g, 0, none⟩ x).setCell ⟨g, 1, none⟩ y).cell? ⟨g, 0, none⟩ = some x ∧ ((W3.setCell ⟨g, 0, none⟩ x).setCell ⟨g, 1, none⟩ y).cell? ⟨g, 1, none⟩ = some y ∧ ((W3.setCell ⟨g, 0, none⟩ x).setCell ⟨g, 1, none⟩ y).frozen? ⟨g, 0, none⟩ = false ∧ ((W3.setCell ⟨g, 0, none⟩ x).setCell ⟨g, 1, none⟩ y).frozen? ⟨g, 1, none⟩ = false ∧ BelowBut w.heap.size g w ((W3.setCell ⟨g, 0, none⟩ x).setCell ⟨g, 1, none⟩ y)) := fun W3 hB q1 q2 q3 q4 => by
    have r1 : (W3.setCell ⟨g, 0, none⟩ x).cell? ⟨g, 1, none⟩ = some o2 := by
      rw [cell_set (by rw [q1]; rfl)]
      simp [q2]
    have r0 : (W3.setCell ⟨g, 0, none⟩ x).cell? ⟨g, 0, none⟩ = some x := by
      rw [cell_set (by rw [q1]; rfl)]
      simp
    refine ⟨?_, ?_, ?_, ?_, ?_⟩
    · rw [cell_set (by rw [r1]; rfl)]
      simp [r0]
    · rw [cell_set (by rw [r1]; rfl)]
      simp
    · rw [World.frozen?_setCell, World.frozen?_setCell]; exact q3
    · rw [World.frozen?_setCell, World.frozen?_setCell]; exact q4
    · exact ((BelowBut.of hB).trans (BelowBut.setCell _ _ _)).trans (BelowBut.setCell _ _ _)
  go_enter Tryd.func19, Tryd.ntmps19
  go_wp2
  refine wp_loop_rounds 1 ?_
  rw [rounds_succ]
  go_wp2
  go_ret
  exact ⟨rfl, HF.out _ B3 t1 t2 u1 u2⟩

end Go.Proofs.YtbjifclgifkjmaaDoor
namespace Go.Proofs.YtbjifclgifkjmaaDoor
open Go.RowKit
set_option linter.unusedVariables false

set_option maxRecDepth 100000 in
set_option maxHeartbeats 2000000 in
theorem withinList_any (b off c n k : Nat) (N : Nat → Nd) (w : World) (hk : k < n) (hn : n ≤ 2 ^ 20) (hup : ∀ i, i < n → -1 ≤ (N i).up ∧ (N i).up < (i : Int)) (hat : NodesAt w b off n N) :
    Calls Tryd.prog 40 #[.slice (some ⟨b, off, none⟩) n c, .int .i64 (k : Int)] w fun e w' => e = .returned (.bool (inL N n (N k).up)) ∧ w' = w := by
  have HAT : Hid (NodesAt w b off n N) := hat
  have HUP : Hid (∀ i, i < n → -1 ≤ (N i).up ∧ (N i).up < (i : Int)) := hup
  have hu0 := hup k hk
  have a4 := (hat k hk).2.2.2.2
  obtain ⟨u0, hu⟩ : ∃ u, u = (N k).up := ⟨_, rfl⟩
  rw [← hu] at hu0 a4 ⊢
  clear hat hup hu
  have i0 : (0 : Int) ≤ (k : Int) := by omega
  have i1 : (k : Int) < (n : Int) := by omega
  go_enter Tryd.func40, Tryd.ntmps40
  go_wp2_with fail
  go_loopw [5] (fun v wr => ∃ u : Int, v = .int .i64 u ∧ -1 ≤ u ∧ u < n ∧ Hid (inL N n u0 = inL N n u) ∧ w = wr) (fun v _ => (intOf v + 1).toNat)
  case atStart => exact ⟨u0, rfl, by omega, by omega, rfl, rfl⟩
  case round =>
    obtain ⟨u, rfl, h1, h2, HI, rfl⟩ := hrel
    by_cases hneg : u < 0
    · have HR : Hid (inL N n u0 = false) := HI.out.trans (inL_neg N n hneg)
      go_wp2
      go_ret
      exact ⟨by rw [HR.out]; rfl, rfl⟩
    · obtain ⟨q, rfl⟩ : ∃ q : Nat, u = (q : Int) := ⟨u.toNat, by omega⟩
      have hq : q < n := by omega
      have st := HI.out.trans (inL_step (fun i hi => (HUP.out i hi).2) hq)
      obtain ⟨c0, _, _, _, c4⟩ := HAT.out q hq
      have hpq := HUP.out q hq
      have j0 : (0 : Int) ≤ (q : Int) := by omega
      have j1 : (q : Int) < (n : Int) := by omega
      by_cases h6 : (N q).kind = 6
      · have HR : Hid (inL N n u0 = true) := by rw [if_pos h6] at st; exact st
        rw [h6] at c0
        clear st HI
        go_wp2
        go_ret
        exact ⟨by rw [HR.out]; rfl, rfl⟩
      · have HR : Hid (inL N n u0 = inL N n (N q).up) := by rw [if_neg h6] at st; exact st
        obtain ⟨v, hv⟩ : ∃ v, v = (N q).up := ⟨_, rfl⟩
        obtain ⟨kd, hkd⟩ : ∃ v, v = (N q).kind := ⟨_, rfl⟩
        rw [← hv] at hpq c4 HR
        rw [← hkd] at c0 h6
        clear st HI hv hkd
        go_wp2
        go_roundw
        case rel => exact ⟨v, rfl, by omega, by omega, HR, trivial⟩
        case measure => simp [intOf]; omega

/-- WHAT nullFault TELLS: the first null that keeps a value from being clean. -/
def FirstBad (N : Nat → Nd) (n : Nat) : Option Nat → Prop
  | none => ∀ i, ¬ BadN N n i
  | some k => BadN N n k ∧ ∀ i, i < k → ¬ BadN N n i
def faultV (e : Addr) : Option Nat → Value
  | none => .nilIface
  | some k => .iface 51 (.agg #[.int .i64 (k : Int), .iface 132 (.pointer (some e))])

set_option maxRecDepth 100000 in
set_option maxHeartbeats 2000000 in
theorem nullFault_any (b off c n : Nat) (N : Nat → Nd) (e : Addr) (w : World) (hb : b < w.heap.size) (hn : n ≤ 2 ^ 20) (hup : ∀ i, i < n → -1 ≤ (N i).up ∧ (N i).up < (i : Int)) (hat : NodesAt w b off n N) (hg : 1 < w.heap.size) (he : w.cell? ⟨1, 0, none⟩ = some (.iface 132 (.pointer (some e)))) :
    Calls Tryd.prog 20 #[.slice (some ⟨b, off, none⟩) n c] w fun r w' => ∃ o, r = .returned (faultV e o) ∧ FirstBad N n o ∧ Below w.heap.size w w' := by
  have HAT : Hid (NodesAt w b off n N) := hat
  have HUP : Hid (∀ i, i < n → -1 ≤ (N i).up ∧ (N i).up < (i : Int)) := hup
  have HE : Hid (w.cell? ⟨1, 0, none⟩ = some (.iface 132 (.pointer (some e)))) := he
  clear hat hup he
  go_enter Tryd.func20, Tryd.ntmps20
  go_wp2_with fail
  go_loopw [7] (fun v wr => ∃ m : Nat, v = .int .i64 (m : Int) ∧ m ≤ n ∧ Hid (∀ i, i < m → ¬ BadN N n i) ∧ Below w.heap.size w wr) (fun v _ => n - (intOf v).toNat)
  case atStart => exact ⟨0, rfl, Nat.zero_le _, fun i h => by omega, Below.refl _ _⟩
  case round =>
    obtain ⟨m, rfl, hm, HN, hnx⟩ := hrel
    have hz := hnx.size
    have HW : Hid (Below w.heap.size w wr) := hnx
    by_cases hlt : m < n
    · obtain ⟨c0, c1, c2, c3, c4⟩ := HAT.out.below hnx hb m hlt
      have j0 : (0 : Int) ≤ (m : Int) := by omega
      have j1 : (m : Int) < (n : Int) := by omega
      have hbw : b < wr.heap.size := by omega
      have ha1 : ∀ o, Below w.heap.size w (wr.alloc o) := fun o => HW.out.trans (((Below.refl _ _).alloc (Nat.le_refl _) o).mono HW.out.size)
      have HSUC : Hid (¬ BadN N n m → ∀ i, i < m + 1 → ¬ BadN N n i) := fun h i hi => by
        by_cases e : i = m
        · subst e; exact h
        · exact HN.out i (by omega)
      clear hnx
      by_cases h1 : (N m).kind = 1
      · by_cases hm0 : m = 0
        · subst hm0
          have HB : Hid (∀ i, i < 0 + 1 → ¬ BadN N n i) := HSUC.out (fun h => by have := h.1; omega)
          rw [h1] at c0
          rw [Nat.zero_mul, Nat.add_zero] at c0 c1 c2 c3 c4
          go_wp2_with fail
          go_roundw
          case rel => exact ⟨0 + 1, by go_num, by omega, HB, ha1 _⟩
          case measure => simp [intOf]; omega
        · have hm1 : (0 : Int) < (m : Int) := by omega
          have HW2 : ∀ o, NodesAt (wr.alloc o) b off n N := fun o => HAT.out.below (ha1 o) hb
          have HQ := HN.out
          rw [h1] at c0
          cases hq : inL N n (N m).up with
          | true =>
            have HB : Hid (∀ i, i < m + 1 → ¬ BadN N n i) := HSUC.out (fun h => by have := h.2.2.2; rw [hq] at this; simp at this)
            go_wp2_with (first | (go_at_call 40; refine (withinList_any b off c n m N _ hlt hn HUP.out (HW2 _)).mono ?_; rw [hq]; rintro r w2 ⟨rfl, rfl⟩))
            go_roundw
            case rel => exact ⟨m + 1, by go_num, by omega, HB, ha1 _⟩
            case measure => simp [intOf]; omega
          | false =>
            have HB : Hid (BadN N n m) := ⟨by omega, hlt, h1, hq⟩
            have he1 : ∀ o, (wr.alloc o).cell? ⟨1, 0, none⟩ = some (.iface 132 (.pointer (some e))) := fun o => ((ha1 o).cell hg).trans HE.out
            go_wp2_with (first | (go_at_call 40; refine (withinList_any b off c n m N _ hlt hn HUP.out (HW2 _)).mono ?_; rw [hq]; rintro r w2 ⟨rfl, rfl⟩))
            go_ret
            exact ⟨some m, rfl, ⟨HB.out, HN.out⟩, ha1 _⟩
      · have HB : Hid (∀ i, i < m + 1 → ¬ BadN N n i) := HSUC.out (fun h => h1 h.2.2.1)
        obtain ⟨kd, hkd⟩ : ∃ v, v = (N m).kind := ⟨_, rfl⟩
        rw [← hkd] at c0 h1
        clear hkd
        go_wp2_with fail
        go_roundw
        case rel => exact ⟨m + 1, by go_num, by omega, HB, ha1 _⟩
        case measure => simp [intOf]; omega
    · obtain rfl : m = n := by omega
      have HF : Hid (FirstBad N m none) := fun i h => HN.out i h.2.1 h
      go_wp2
      go_ret
      exact ⟨none, rfl, HF.out, HW.out⟩

end Go.Proofs.YtbjifclgifkjmaaDoor
namespace Go.Proofs.YtbjifclgifkjmaaDoor
open Go.RowKit
set_option linter.unusedVariables false

theorem row_put {w : World} {B g cap j : Nat} {L : List Nd} {u : Int} (h : OwnsN w B (.slice (some ⟨g, 0, none⟩) L.length cap) L) (hj : j < L.length) : OwnsN (w.setCell ⟨g, j * 5 + 4, none⟩ (.int .i64 u)) B (.slice (some ⟨g, 0, none⟩) L.length cap) (L.set j { L[j] with up := u }) := by
  have := (World.ownsRow.stored h (j * 5 + 4) (.int .i64 u)).1
  rw [nd_set_up u L j hj] at this
  unfold OwnsN
  rw [List.length_set]
  exact this
theorem row_up {w : World} {B g cap j : Nat} {L : List Nd} (h : OwnsN w B (.slice (some ⟨g, 0, none⟩) L.length cap) L) (hj : j < L.length) : w.cell? ⟨g, j * 5 + 4, none⟩ = some (.int .i64 L[j].up) := by
  rw [World.ownsRow.cellAt h (j * 5 + 4) (by omega)]
  exact (nd_get5 L j hj).2.2.2.2

end Go.Proofs.YtbjifclgifkjmaaDoor
namespace Go.Proofs.YtbjifclgifkjmaaDoor
open Go.RowKit
set_option linter.unusedVariables false

set_option maxRecDepth 100000 in
set_option maxHeartbeats 2000000 in
theorem cloneN_any (b off c m : Nat) (X : Nat → Nd) (w : World) (hb : b < w.heap.size) (hm : m ≤ 2 ^ 18) (h0 : 0 < m) (hat : NodesAt w b off m X) :
    Calls Tryd.prog 18 #[.slice (some ⟨b, off, none⟩) m c] w fun e w' => ∃ g cap, e = .returned (.slice (some ⟨g, 0, none⟩) m cap) ∧ OwnsN w' w.heap.size (.slice (some ⟨g, 0, none⟩) m cap) ((List.range m).map X) ∧ Below w.heap.size w w' := by
  obtain ⟨i0, hi, hz0, hz1, hz2⟩ := info_parts infoNode5
  have HOE : Hid ((w.alloc (.cells #[] 47)).ownsRow w.heap.size 47 5 (.slice (some ⟨w.heap.size, 0, none⟩) 0 0) 0 []) := own_empty w 47 5 w.heap.size (Nat.le_refl _)
  have HNC : Hid (∀ j u, (ndCells ((List.range m).map X))[j]? = some u → (w.alloc (.cells #[] 47)).cell? ((⟨b, off, none⟩ : Addr).add j) = some u) := fun j u hu => by
    have := nodes_cells hat 0 m (by omega) j u (by simpa using hu)
    rw [Nat.zero_mul, Nat.add_zero] at this
    rw [show ((⟨b, off, none⟩ : Addr).add j) = ⟨b, off + j, none⟩ by unfold Addr.add; split <;> simp_all, World.cell?_of_block (heap_alloc_old _ _ hb)]
    exact this
  have HLN : Hid ((ndCells ((List.range m).map X)).length = m * 5) := by show _ = _; rw [nd_len]; simp
  have hnil : ∀ w : World, (binOp .eql 26 (.slice (some ⟨b, off, none⟩) m c) (.slice none 0 0)).run Tryd.prog w = .ok (.bool false) w := fun w => by kernel_rfl
  go_enter Tryd.func18, Tryd.ntmps18
  go_wp2_with (first | (at_builtin; refine wpList_append_own _ rfl _ _ 26 rfl w.heap.size 47 i0 _ 5 56 Tryd.underlying26 hi hz0 hz1 hz2 rfl (by decide) (.slice (some ⟨w.heap.size, 0, none⟩) 0 0) 0 [] rfl HOE.out ⟨b, off, none⟩ m c (ndCells ((List.range m).map X)) rfl HLN.out HNC.out (nd_ones _) (by unfold maxLen; omega) (by omega) (by simp) ?_))
  intro v2 w2 hown2 hg2 _
  obtain ⟨g2, cap2, rfl⟩ := own_pos hown2 (by omega)
  have HO2 : Hid (OwnsN w2 w.heap.size (.slice (some ⟨g2, 0, none⟩) m cap2) ((List.range m).map X)) := by
    show OwnsN _ _ _ _
    unfold OwnsN
    simpa using hown2
  have HB2 : Hid (Below w.heap.size w w2) := ⟨hg2.os, hg2.tape, hg2.output, by have := hg2.size; simp at this; omega, fun q hq => (hg2.block q (by simp; omega) (fun e => by simp [Value.ownBlock] at e; omega)).trans (heap_alloc_old _ _ hq)⟩
  clear hown2 hg2 HNC HOE
  go_wp2
  go_ret
  exact ⟨g2, cap2, rfl, HO2.out, HB2.out⟩

end Go.Proofs.YtbjifclgifkjmaaDoor
namespace Go.Proofs.YtbjifclgifkjmaaDoor
open Go.RowKit
set_option linter.unusedVariables false

def FlatSaid (t : Tr) : Prop := ∀ (v lv : Value) (name : ByteArray) (up : Int) (l : List Nd) (B : Nat) (w : World), TreeIs w (fun b => some b ≠ lv.ownBlock) t v → t.named → OwnsN w B lv l → B ≤ w.heap.size → l.length + t.cnt ≤ 2 ^ 20 → -1 ≤ up → up ≤ 2 ^ 20 →
    Calls Tryd.prog 28 #[v, .string name, .int .i64 up, lv] w fun e w' => ∃ lv', e = .returned lv' ∧ OwnsN w' B lv' (l ++ t.flat name up l.length) ∧ w.grownBy w' lv.ownBlock ∧ Moved w.heap.size lv lv'

set_option maxRecDepth 100000 in
set_option maxHeartbeats 4000000 in
theorem l1Flat_step (k n : Int) (t : ByteArray) (nm : List ByteArray) (ks : List Tr) (ih : ∀ x ∈ ks, FlatSaid x) : FlatSaid (.mk k n t nm ks) := by
  intro v lv name up l B w h hnd hown hB hlen hu0 hu1
  obtain ⟨an, cn, ak, ck, rfl, hnm, hk⟩ := h.open
  obtain ⟨la, lc, rfl⟩ := hown.form
  have hcn : Tr.cnts ks + l.length + 1 ≤ 2 ^ 20 := by rw [Tr.cnt] at hlen; omega
  have hkl := Tr.len_cnts ks
  rw [Tr.named] at hnd
  have HND : Hid ((k = 7 → nm.length = ks.length) ∧ ∀ x ∈ ks, x.named) := ⟨hnd.1, Tr.nameds_mem.1 hnd.2⟩
  have HIH : Hid (∀ x ∈ ks, FlatSaid x) := ih
  have HNM : Hid (NamsAt w (fun b => some b ≠ (Value.slice la l.length lc).ownBlock) an nm) := hnm
  have HK : Hid (ks = [] ∨ ∃ g, ak = some ⟨g, 0, none⟩ ∧ some g ≠ (Value.slice la l.length lc).ownBlock ∧ g < w.heap.size ∧ ∀ i x, ks[i]? = some x → KidAt w (fun b => some b ≠ (Value.slice la l.length lc).ownBlock) x g i) := hk
  have HO : Hid (OwnsN w B (.slice la l.length lc) l) := hown
  obtain ⟨iN, hi, hz0, hz1, hz2⟩ := info_parts infoNode5
  have HI : Hid (Tryd.prog.info? 47 = some iN ∧ iN.zero = some (.agg #[.int .i64 0, .int .i64 0, .string ⟨#[]⟩, .string ⟨#[]⟩, .int .i64 0]) ∧ iN.size = 5 ∧ iN.bytes = 56) := ⟨hi, hz0, hz1, hz2⟩
  have hnew : some w.heap.size ≠ (Value.slice la l.length lc).ownBlock := fun e => by have := own_lt HO.out e; omega
  clear hi hz0 hz1 hz2 ih h hk hnm hown hnd
  go_enter Tryd.func28, Tryd.ntmps28
  go_wp2_with (first | (at_builtin; refine wpList_append_lies _ rfl _ _ 26 rfl B 47 iN _ 5 56 Tryd.underlying26 HI.out.1 HI.out.2.1 HI.out.2.2.1 HI.out.2.2.2 rfl (by decide) _ _ _ rfl (World.ownsRow.alloc (World.ownsRow.alloc HO.out _) _) ⟨w.heap.size + 1, 0, none⟩ 1 1 [.int .i64 k, .int .i64 n, .string t, .string name, .int .i64 up] rfl rfl ?c1 ?c2 (by decide) ?c3 ?c4 ?c5 (w.heap.size + 2) ?c6 ?_))
  case c1 => exact nd_news _ ⟨k, n, t, name, up⟩ _ _ (by simp)
  case c2 => exact nd_one k n up t name
  case c3 => unfold maxLen; omega
  case c4 => omega
  case c5 => simp; omega
  case c6 => simp
  intro g1 cap1 w1 hown1 hgrow hat hlt1
  have HG1 : Hid (w.grownBy w1 (Value.slice la l.length lc).ownBlock) := ⟨hgrow.os, hgrow.tape, hgrow.output, by have := hgrow.size; simp at this; omega, fun b hb hn => by
    rw [hgrow.block b (by simp; omega) hn, heap_alloc_old _ _ (by simp; omega), heap_alloc_old _ _ hb]⟩
  have HM1 : Hid (Moved (w.heap.size + 1) (Value.slice la l.length lc) (.slice (some ⟨g1, 0, none⟩) (l.length + 1) cap1)) := by
    rcases hat with e | e
    · exact .inl e.symm
    · exact .inr ⟨g1, rfl, by omega⟩
  have x0 : ∀ x, w1.cell? ⟨w.heap.size, x, none⟩ = (w.alloc (.cells #[.int .i64 k, .int .i64 n, .string t, .slice an nm.length cn, .slice ak ks.length ck] 41)).cell? ⟨w.heap.size, x, none⟩ := fun x => by
    rw [hgrow.cell_far ⟨w.heap.size, x, none⟩ (by simp; omega) hnew]
    exact World.cell?_of_block (heap_alloc_old _ _ (by simp))
  have c0 : w1.cell? ⟨w.heap.size, 0, none⟩ = some (.int .i64 k) := by rw [x0]; simp [go_sem]
  have c3 : w1.cell? ⟨w.heap.size, 3, none⟩ = some (.slice an nm.length cn) := by rw [x0]; simp [go_sem]
  have c4 : w1.cell? ⟨w.heap.size, 4, none⟩ = some (.slice ak ks.length ck) := by rw [x0]; simp [go_sem]
  have z1 : w.heap.size < w1.heap.size := by have := hgrow.size; simp at this; omega
  obtain ⟨L1, hL1⟩ : ∃ L1 : List Nd, L1 = l ++ [⟨k, n, t, name, up⟩] := ⟨_, rfl⟩
  have HL1 : Hid (L1 = l ++ [⟨k, n, t, name, up⟩]) := hL1
  have hll : L1.length = l.length + 1 := by rw [hL1]; simp
  have HO1 : Hid (OwnsN w1 B (.slice (some ⟨g1, 0, none⟩) (l.length + 1) cap1) L1) := by
    show OwnsN _ _ _ _
    unfold OwnsN
    rw [hll, hL1, nd_snoc]
    exact hown1
  clear hown1 hgrow hL1 x0 hat hlt1
  have HF : Hid ((Tr.mk k n t nm ks).flat name up l.length = ⟨k, n, t, name, up⟩ :: Tr.flats ks (Tr.nmOf k nm) 0 l.length (l.length + 1)) := by show _ = _; rw [Tr.flat]
  go_wp2_with fail
  go_loopw [3, 30] (fun q i wr => ∃ (m : Nat) (am : Option Addr) (dm : Nat) (L : List Nd), m ≤ ks.length ∧ i = .int .i64 m ∧ q = .slice am L.length dm ∧ Hid (L = L1 ++ Tr.flats (ks.take m) (Tr.nmOf k nm) 0 l.length (l.length + 1)) ∧ Hid (OwnsN wr B (.slice am L.length dm) L) ∧ Hid (w.grownBy wr (Value.slice la l.length lc).ownBlock) ∧ Hid (Moved (w.heap.size + 1) (Value.slice la l.length lc) (.slice am L.length dm)) ∧ w.heap.size < wr.heap.size ∧
      wr.cell? ⟨w.heap.size, 0, none⟩ = some (.int .i64 k) ∧ wr.cell? ⟨w.heap.size, 3, none⟩ = some (.slice an nm.length cn) ∧ wr.cell? ⟨w.heap.size, 4, none⟩ = some (.slice ak ks.length ck)) (fun _ i _ => ks.length - (intOf i).toNat)
  case atStart => exact ⟨0, some ⟨g1, 0, none⟩, cap1, L1, Nat.zero_le _, rfl, by rw [hll], by show _ = _; simp [Tr.flats], by rw [hll]; exact HO1, HG1, by rw [hll]; exact HM1, z1, c0, c3, c4⟩
  case round =>
    obtain ⟨m, am, dm, L, hm, rfl, rfl, HL, HOL, HG, HM, hzw, u0, u3, u4⟩ := hrel
    have hLl : L.length = l.length + 1 + Tr.cnts (ks.take m) := by rw [HL.out, List.length_append, hll, Tr.flats_len]
    have hct := Tr.cnts_append (ks.take m) (ks.drop m)
    rw [List.take_append_drop] at hct
    have HLl : Hid (L.length = l.length + 1 + Tr.cnts (ks.take m)) := hLl
    have hnq : some w.heap.size ≠ (Value.slice am L.length dm).ownBlock := HM.out.ne (Nat.lt_succ_self _) hnew
    by_cases hlt : m < ks.length
    · obtain ⟨x, hx⟩ : ∃ x, ks[m]? = some x := ⟨ks[m], List.getElem?_eq_getElem hlt⟩
      rcases HK.out with h0 | ⟨g, rfl, hgn, hg, hkid⟩
      · rw [h0] at hlt; simp at hlt
      have hkeep : ∀ b', some b' ≠ (Value.slice la l.length lc).ownBlock → b' < w.heap.size → wr.heap[b']? = w.heap[b']? := fun b' h1 h2 => HG.out.block b' h2 h1
      have hSS : ∀ b', some b' ≠ (Value.slice la l.length lc).ownBlock → b' < w.heap.size → some b' ≠ (Value.slice am L.length dm).ownBlock := fun b' h1 h2 => HM.out.ne (by omega) h1
      obtain ⟨an', cn', ak', ck', e0, e1, e2, e3, e4, htr⟩ := ((hkid m x hx).keep hkeep hSS HG.out.size (hkeep g hgn hg)).cellsS
      have HTR : Hid (TreeIs wr (fun b => some b ≠ (Value.slice am L.length dm).ownBlock) x (.agg #[.int .i64 x.kind, .int .i64 x.num, .string x.text, .slice an' x.names.length cn', .slice ak' x.kids.length ck'])) := htr
      have hxm := List.mem_of_getElem? hx
      have HS : Hid (FlatSaid x) := HIH.out x hxm
      have HXN : Hid x.named := HND.out.2 x hxm
      have htk : ks.take (m + 1) = ks.take m ++ [x] := by rw [List.take_add_one, hx]; rfl
      have hct2 := Tr.cnts_append (ks.take (m + 1)) (ks.drop (m + 1))
      rw [List.take_append_drop, htk, Tr.cnts_append] at hct2
      have hx1 : Tr.cnts [x] = x.cnt := by simp [Tr.cnts]
      have HST : Hid (L1 ++ Tr.flats (ks.take (m + 1)) (Tr.nmOf k nm) 0 l.length (l.length + 1) = L ++ x.flat (Tr.nmOf k nm m) (l.length : Nat) L.length) := by
        show _ = _
        rw [htk, Tr.flats_snoc, hLl, HL.out, List.append_assoc]
        have : (ks.take m).length = m := by rw [List.length_take]; omega
        rw [this, Nat.zero_add]
      have j0 : (0 : Int) ≤ (m : Int) := by omega
      have j1 : (m : Int) < (ks.length : Int) := by omega
      have hgw : g < wr.heap.size := by omega
      have hLx : L.length + x.cnt ≤ 2 ^ 20 := by omega
      clear hkid htr hct hct2 htk hLl hx1
      by_cases h7 : k = 7
      · have hnl := HND.out.1 h7
        rcases HNM.out with h0 | ⟨gn, rfl, hg1, hg2, hnc⟩
        · rw [h0] at hnl; simp at hnl; omega
        have hnm2 : wr.cell? ⟨gn, m, none⟩ = some (.string (nm.getD m ByteArray.empty)) := (World.cell?_of_block (hkeep gn hg1 hg2)).trans (hnc m (by omega))
        have HNF : Hid (Tr.nmOf k nm m = nm.getD m ByteArray.empty) := by show _ = _; unfold Tr.nmOf; rw [if_pos h7]
        have j2 : (m : Int) < (nm.length : Int) := by omega
        obtain ⟨nx, hnx⟩ : ∃ nx, nx = nm.getD m ByteArray.empty := ⟨_, rfl⟩
        rw [← hnx] at hnm2 HNF
        have hgw2 : gn < wr.heap.size := by omega
        subst h7
        clear hkeep hSS hnc
        clear hnx hnl
        go_wp2_with fail
        refine (HS.out _ _ nx _ L B _ (TreeIs.keep (fun b' _ hl' => heap_alloc_old _ _ hl') (fun _ h _ => h) (by simp) _ _ HTR.out) HXN.out (World.ownsRow.alloc HOL.out _) (by have := HG.out.size; simp; omega) (by omega) (by omega) (by omega)).mono ?_
        rintro e w2 ⟨lv2, rfl, ho2, hg2', hm2⟩
        rw [← HNF.out, ← HST.out] at ho2
        obtain ⟨L2, hL2⟩ : ∃ L2 : List Nd, L2 = L1 ++ Tr.flats (ks.take (m + 1)) (Tr.nmOf 7 nm) 0 l.length (l.length + 1) := ⟨_, rfl⟩
        rw [← hL2] at ho2
        have HL2 : Hid (L2 = L1 ++ Tr.flats (ks.take (m + 1)) (Tr.nmOf 7 nm) 0 l.length (l.length + 1)) := hL2
        obtain ⟨a2, d2, rfl⟩ := ho2.form
        have hgr : wr.grownBy w2 (Value.slice am L.length dm).ownBlock := ⟨hg2'.os, hg2'.tape, hg2'.output, by have := hg2'.size; simp at this; omega, fun b' hb' hn' => (hg2'.block b' (by simp; omega) hn').trans (heap_alloc_old _ _ hb')⟩
        have HG2 : Hid (w.grownBy w2 (Value.slice la l.length lc).ownBlock) := grown_on HG.out (by rcases HM.out with h | ⟨g', h, hg'⟩; exact .inl h; exact .inr ⟨g', h, by omega⟩) hgr
        have HM2 : Hid (Moved (w.heap.size + 1) (Value.slice la l.length lc) (.slice a2 L2.length d2)) := by
          rcases hm2 with h | ⟨g', h, hg'⟩
          · rcases HM.out with h3 | ⟨g3, h3, hg3⟩
            · exact .inl (h.trans h3)
            · exact .inr ⟨g3, h.trans h3, hg3⟩
          · exact .inr ⟨g', h, by simp at hg'; omega⟩
        have HO2 : Hid (OwnsN w2 B (.slice a2 L2.length d2) L2) := ho2
        have zz2 : w.heap.size < w2.heap.size := Nat.lt_of_lt_of_le hzw hgr.size
        have p0 : w2.cell? ⟨w.heap.size, 0, none⟩ = some (.int .i64 7) := (hgr.cell_far ⟨w.heap.size, 0, none⟩ hzw hnq).trans u0
        have p3 := (hgr.cell_far ⟨w.heap.size, 3, none⟩ hzw hnq).trans u3
        have p4 := (hgr.cell_far ⟨w.heap.size, 4, none⟩ hzw hnq).trans u4
        clear ho2 hg2' hm2 hL2 hgr e0 e1 e2 e3 e4
        go_wp2_with fail
        go_roundw
        case rel => exact ⟨m + 1, a2, d2, L2, by omega, by go_num, rfl, HL2, HO2, HG2, HM2, zz2, p0, p3, p4⟩
        case measure => simp [intOf]; omega
      · have h7' : (k == 7) = false := by simpa using h7
        have HNF : Hid (Tr.nmOf k nm m = ByteArray.empty) := by show _ = _; unfold Tr.nmOf; rw [if_neg h7]
        clear hkeep hSS
        go_wp2_with fail
        refine (HS.out _ _ ByteArray.empty _ L B _ (TreeIs.keep (fun b' _ hl' => heap_alloc_old _ _ hl') (fun _ h _ => h) (by simp) _ _ HTR.out) HXN.out (World.ownsRow.alloc HOL.out _) (by have := HG.out.size; simp; omega) (by omega) (by omega) (by omega)).mono ?_
        rintro e w2 ⟨lv2, rfl, ho2, hg2', hm2⟩
        rw [← HNF.out, ← HST.out] at ho2
        obtain ⟨L2, hL2⟩ : ∃ L2 : List Nd, L2 = L1 ++ Tr.flats (ks.take (m + 1)) (Tr.nmOf k nm) 0 l.length (l.length + 1) := ⟨_, rfl⟩
        rw [← hL2] at ho2
        have HL2 : Hid (L2 = L1 ++ Tr.flats (ks.take (m + 1)) (Tr.nmOf k nm) 0 l.length (l.length + 1)) := hL2
        obtain ⟨a2, d2, rfl⟩ := ho2.form
        have hgr : wr.grownBy w2 (Value.slice am L.length dm).ownBlock := ⟨hg2'.os, hg2'.tape, hg2'.output, by have := hg2'.size; simp at this; omega, fun b' hb' hn' => (hg2'.block b' (by simp; omega) hn').trans (heap_alloc_old _ _ hb')⟩
        have HG2 : Hid (w.grownBy w2 (Value.slice la l.length lc).ownBlock) := grown_on HG.out (by rcases HM.out with h | ⟨g', h, hg'⟩; exact .inl h; exact .inr ⟨g', h, by omega⟩) hgr
        have HM2 : Hid (Moved (w.heap.size + 1) (Value.slice la l.length lc) (.slice a2 L2.length d2)) := by
          rcases hm2 with h | ⟨g', h, hg'⟩
          · rcases HM.out with h3 | ⟨g3, h3, hg3⟩
            · exact .inl (h.trans h3)
            · exact .inr ⟨g3, h.trans h3, hg3⟩
          · exact .inr ⟨g', h, by simp at hg'; omega⟩
        have HO2 : Hid (OwnsN w2 B (.slice a2 L2.length d2) L2) := ho2
        have zz2 : w.heap.size < w2.heap.size := Nat.lt_of_lt_of_le hzw hgr.size
        have p0 : w2.cell? ⟨w.heap.size, 0, none⟩ = some (.int .i64 k) := (hgr.cell_far ⟨w.heap.size, 0, none⟩ hzw hnq).trans u0
        have p3 := (hgr.cell_far ⟨w.heap.size, 3, none⟩ hzw hnq).trans u3
        have p4 := (hgr.cell_far ⟨w.heap.size, 4, none⟩ hzw hnq).trans u4
        clear ho2 hg2' hm2 hL2 hgr e0 e1 e2 e3 e4
        go_wp2_with fail
        go_roundw
        case rel => exact ⟨m + 1, a2, d2, L2, by omega, by go_num, rfl, HL2, HO2, HG2, HM2, zz2, p0, p3, p4⟩
        case measure => simp [intOf]; omega
    · obtain rfl : m = ks.length := by omega
      rw [List.take_length] at HL
      clear hct hLl
      go_wp2
      go_ret
      refine ⟨_, rfl, ?_, HG.out, ?_⟩
      · rw [HF.out, show l ++ ⟨k, n, t, name, up⟩ :: Tr.flats ks (Tr.nmOf k nm) 0 l.length (l.length + 1) = L by rw [HL.out, HL1.out, List.append_assoc]; rfl]
        exact HOL.out
      · rcases HM.out with h | ⟨g', h, hg'⟩
        · exact .inl h
        · exact .inr ⟨g', h, by omega⟩

theorem l1Flat_any (t : Tr) : FlatSaid t := Tr.ind (P := FlatSaid) (fun k n t nm ks ih => l1Flat_step k n t nm ks ih) t

end Go.Proofs.YtbjifclgifkjmaaDoor
namespace Go.Proofs.YtbjifclgifkjmaaDoor
open Go.RowKit
set_option linter.unusedVariables false

set_option maxRecDepth 100000 in
set_option maxHeartbeats 1000000 in
theorem grow_any (m : Nat) (hm : m ≤ 2 ^ 20) (w : World) :
    Calls Tryd.prog 57 #[.slice none 0 0, .int .i64 (m : Int)] w fun e w' => ∃ v, e = .returned v ∧ w'.ownsRow w.heap.size 47 5 v 0 [] ∧ Below w.heap.size w w' := by
  by_cases h0 : m = 0
  · subst h0
    go_enter Tryd.func57, Tryd.ntmps57
    go_wp2
    go_ret
    exact ⟨_, rfl, World.ownsRow_nil _ _ _ _, Below.refl _ _⟩
  · obtain ⟨i0, hi, hz0, hz1, hz2⟩ := info_parts infoNode5
    have hr := Lib.run_append_nil_zeros (P := Tryd.prog) w 26 3 26 47 i0 _ .i64 .i64 Tryd.underlying26 Tryd.underlying3 hi hz0 m (by omega) (by rw [hz1]; decide) (by omega) (by rw [hz2]; omega)
    have i1 : (0 : Int) < (m : Int) := by omega
    have i2 : ¬ ((m : Int) < 0) := by omega
    go_enter Tryd.func57, Tryd.ntmps57
    go_wp2_with (first | (at_builtin; refine Lib.wpList_append_run _ rfl _ _ _ _ rfl _ _ rfl rfl _ _ hr ?_))
    go_ret
    refine ⟨_, rfl, ⟨by simp, .inr ⟨w.heap.size, grownCap w m 0 47, _, rfl, Nat.le_refl _, heap_alloc_new w _, Nat.zero_le _, grownCap_le_maxLen _ _ _ _ (by unfold maxLen; omega), ?_, by simp⟩⟩, ((Below.refl _ w).alloc (Nat.le_refl _) _).drew⟩
    have hge := grownCap_ge w m 0 47
    rw [Array.size_append, size_zeroCells, size_zeroCells, ← Nat.add_mul]
    congr 1
    omega

/-- A part that is put to the row: none at all, or cells that lie somewhere. -/
def PartS (w : World) (a : Option Addr) (m c : Nat) (xs : List Value) : Prop :=
  xs.length = m * 5 ∧ (∀ u ∈ xs, u.oneCell' = true) ∧ ((m = 0 ∧ a = none ∧ c = 0) ∨ ∃ b off, a = some ⟨b, off, none⟩ ∧ b < w.heap.size ∧ ∀ j u, xs[j]? = some u → w.cell? ⟨b, off + j, none⟩ = some u)
theorem PartS.below {w w' : World} {a : Option Addr} {m c : Nat} {xs : List Value} (h : PartS w a m c xs) (hb : Below w.heap.size w w') : PartS w' a m c xs := by
  obtain ⟨h1, h2, h3 | ⟨b, off, rfl, h3, h4⟩⟩ := h
  · exact ⟨h1, h2, .inl h3⟩
  · exact ⟨h1, h2, .inr ⟨b, off, rfl, Nat.lt_of_lt_of_le h3 hb.size, fun j u hu => (hb.cell h3).trans (h4 j u hu)⟩⟩

/-- A part is put to an own row. -/
theorem wpList_append_part {w : World} {ops : Array Oper} {rest : List Oper} {o : Oper} {a : Act} {Q : Exit → Act → World → Prop} (hgd : o.guard = none) (s x : Operand)
    (ho : o.op = .call { callee := .builtin .append, args := #[s, x], argTypes := #[26, 26] })
    (base : Nat) (v : Value) (n : Nat) (xs : List Value) (hs : a.eval s = v) (hown : w.ownsRow base 47 5 v n xs)
    (ax : Option Addr) (m c : Nat) (news : List Value) (hx : a.eval x = .slice ax m c) (hp : PartS w ax m c news)
    (hlen : n + m ≤ 2 ^ 30) (hbase : base ≤ w.heap.size)
    (h : ∀ v' w', w'.ownsRow base 47 5 v' (n + m) (xs ++ news) → w.grownBy w' v.ownBlock → wpList Tryd.prog ops Q rest (a.put o.dst v') w') : wpList Tryd.prog ops Q (o :: rest) a w := by
  obtain ⟨i0, hi, hz0, hz1, hz2⟩ := info_parts infoNode5
  obtain ⟨hl, h1, ⟨rfl, rfl, rfl⟩ | ⟨b, off, rfl, hb, hc⟩⟩ := hp
  · obtain rfl : news = [] := List.eq_nil_of_length_eq_zero (by simpa using hl)
    have hr := run_append_owned_none (P := Tryd.prog) (w := w) base 26 o.type 47 i0 5 Tryd.underlying26 hi v n xs hown
    exact Lib.wpList_append_run w hgd s x _ _ ho _ _ hs hx v w hr (h v w (by simpa using hown) ⟨rfl, rfl, rfl, Nat.le_refl _, fun _ _ _ => rfl⟩)
  · exact wpList_append_own w hgd s x 26 ho base 47 i0 _ 5 56 Tryd.underlying26 hi hz0 hz1 hz2 rfl (by decide) v n xs hs hown ⟨b, off, none⟩ m c news hx hl
      (fun j u hu => by rw [show ((⟨b, off, none⟩ : Addr).add j) = ⟨b, off + j, none⟩ by unfold Addr.add; split <;> simp_all]; exact hc j u hu) h1 (by unfold maxLen; omega) (by omega) hbase (fun v' w' h2 h3 _ => h v' w' h2 h3)

/-- The row of the first k parts. -/
def sumTo (pl : Nat → Nat) : Nat → Nat
  | 0 => 0
  | k + 1 => sumTo pl k + pl k
def catTo (px : Nat → List Value) : Nat → List Value
  | 0 => []
  | k + 1 => catTo px k ++ px k
theorem sumTo_le {pl : Nat → Nat} {n B : Nat} (h : sumTo pl n ≤ B) : ∀ k, k ≤ n → sumTo pl k ≤ B := by
  intro k hk
  have : ∀ d, sumTo pl k ≤ sumTo pl (k + d) := by
    intro d
    induction d with
    | zero => exact Nat.le_refl _
    | succ d ih => rw [← Nat.add_assoc, sumTo]; omega
  have := this (n - k)
  rw [show k + (n - k) = n by omega] at this
  omega

set_option maxRecDepth 100000 in
set_option maxHeartbeats 2000000 in
theorem concat_any (h n c : Nat) (pa : Nat → Option Addr) (pl pc : Nat → Nat) (px : Nat → List Value) (w : World) (hn : n ≤ 2 ^ 20) (hh : h < w.heap.size) (hat : ∀ i, i < n → w.cell? ⟨h, i, none⟩ = some (.slice (pa i) (pl i) (pc i))) (hp : ∀ i, i < n → PartS w (pa i) (pl i) (pc i) (px i)) (hsum : sumTo pl n ≤ 2 ^ 20) :
    Calls Tryd.prog 41 #[.slice (some ⟨h, 0, none⟩) n c] w fun e w' => ∃ v, e = .returned v ∧ w'.ownsRow w.heap.size 47 5 v (sumTo pl n) (catTo px n) ∧ Below w.heap.size w w' := by
  have HAT : Hid (∀ i, i < n → w.cell? ⟨h, i, none⟩ = some (.slice (pa i) (pl i) (pc i))) := hat
  have HP : Hid (∀ i, i < n → PartS w (pa i) (pl i) (pc i) (px i)) := hp
  have HSM : Hid (∀ k, k ≤ n → sumTo pl k ≤ 2 ^ 20) := sumTo_le hsum
  clear hat hp
  go_enter Tryd.func41, Tryd.ntmps41
  go_wp2_with fail
  go_loopw [3, 11] (fun q i wr => ∃ k : Nat, k ≤ n ∧ i = .int .i64 (k : Int) ∧ q = .int .i64 (sumTo pl k : Nat) ∧ w = wr) (fun _ i _ => n - (intOf i).toNat)
  case atStart => exact ⟨0, Nat.zero_le _, rfl, rfl, rfl⟩
  case round =>
    obtain ⟨k, hk, rfl, rfl, rfl⟩ := hrel
    by_cases hlt : k < n
    · have a0 := HAT.out k hlt
      have i0 : (0 : Int) ≤ (k : Int) := by omega
      have i1 : (k : Int) < (n : Int) := by omega
      have s1 := HSM.out (k + 1) (by omega)
      rw [sumTo] at s1
      have s2 : (0 : Int) ≤ ((sumTo pl k : Nat) : Int) + (pl k : Int) := by omega
      go_wp2
      go_roundw
      case rel => exact ⟨k + 1, by omega, by go_num, by rw [sumTo]; go_num, trivial⟩
      case measure => simp [intOf]; omega
    · obtain rfl : k = n := by omega
      go_wp2_with fail
      refine (grow_any (sumTo pl k) hsum _).mono ?_
      rintro e w1 ⟨v1, rfl, ho1, hb1⟩
      have HO1 : Hid (w1.ownsRow w.heap.size 47 5 v1 0 []) := ho1
      have HB1 : Hid (Below w.heap.size w w1) := hb1
      have hh1 : h < w1.heap.size := Nat.lt_of_lt_of_le hh hb1.size
      clear ho1 hb1
      go_wp2_with fail
      go_loopw [6, 27] (fun q i wr => ∃ j : Nat, j ≤ k ∧ i = .int .i64 (j : Int) ∧ Hid (wr.ownsRow w.heap.size 47 5 q (sumTo pl j) (catTo px j)) ∧ Hid (Below w.heap.size w wr)) (fun _ i _ => k - (intOf i).toNat)
      case atStart => exact ⟨0, Nat.zero_le _, rfl, HO1, HB1⟩
      case round =>
        obtain ⟨j, hj, rfl, HO, HB⟩ := hrel
        by_cases hjl : j < k
        · have a0 := (HB.out.cell (p := ⟨h, j, none⟩) hh).trans (HAT.out j hjl)
          have i0 : (0 : Int) ≤ (j : Int) := by omega
          have i1 : (j : Int) < (k : Int) := by omega
          have s1 := HSM.out (j + 1) (by omega)
          rw [sumTo] at s1
          go_wp2_with (first | (at_builtin; refine wpList_append_part rfl _ _ rfl w.heap.size _ (sumTo pl j) (catTo px j) rfl HO.out (pa j) (pl j) (pc j) (px j) rfl ((HP.out j hjl).below HB.out) (by omega) HB.out.size ?_))
          intro v3 w3 ho3 hg3
          have HO3 : Hid (w3.ownsRow w.heap.size 47 5 v3 (sumTo pl (j + 1)) (catTo px (j + 1))) := ho3
          have HB3 : Hid (Below w.heap.size w w3) := ⟨hg3.os.trans HB.out.os, hg3.tape.trans HB.out.tape, hg3.output.trans HB.out.output, Nat.le_trans HB.out.size hg3.size, fun b hb => (hg3.block b (Nat.lt_of_lt_of_le hb HB.out.size) (fun e => by have := own_lt HO.out e; omega)).trans (HB.out.block b hb)⟩
          clear ho3 hg3
          go_wp2
          go_roundw
          case rel => exact ⟨j + 1, by omega, by go_num, HO3, HB3⟩
          case measure => simp [intOf]; omega
        · obtain rfl : j = k := by omega
          go_wp2
          go_ret
          exact ⟨_, rfl, HO.out, HB.out⟩

end Go.Proofs.YtbjifclgifkjmaaDoor
namespace Go.Proofs.YtbjifclgifkjmaaDoor
open Go.RowKit
set_option linter.unusedVariables false

/-- The three parts that are put together. -/
def p3 {α : Type} (x y z : α) (i : Nat) : α := if i = 0 then x else if i = 1 then y else z

theorem put_own {w : World} {H B a b c : Nat} {v : Value} {x y z : List Nd} (h : w.ownsRow H 47 5 v (sumTo (p3 a b c) 3) (catTo (p3 (ndCells x) (ndCells y) (ndCells z)) 3)) (hB : B ≤ H) (hl : (x ++ y ++ z).length = a + b + c) (hp : 0 < a) : ∃ g cap, v = .slice (some ⟨g, 0, none⟩) (a + b + c) cap ∧ OwnsN w B (.slice (some ⟨g, 0, none⟩) (a + b + c) cap) (x ++ y ++ z) := by
  have e1 : sumTo (p3 a b c) 3 = a + b + c := by simp [sumTo, p3]
  have e2 : catTo (p3 (ndCells x) (ndCells y) (ndCells z)) 3 = ndCells (x ++ y ++ z) := by simp [catTo, p3, nd_append]
  rw [e1, e2] at h
  have ho : w.ownsRow B 47 5 v (a + b + c) (ndCells (x ++ y ++ z)) := by
    refine ⟨h.1, ?_⟩
    rcases h.2 with hn | ⟨g, cap, cur, rfl, hb, rest⟩
    · exact .inl hn
    · exact .inr ⟨g, cap, cur, rfl, by omega, rest⟩
  rcases ho.2 with ⟨_, h0⟩ | ⟨g, cap, cur, hv, _⟩
  · omega
  · refine ⟨g, cap, hv, ?_⟩
    unfold OwnsN
    rw [hl, ← hv]
    exact ho

set_option maxRecDepth 100000 in
set_option maxHeartbeats 4000000 in
theorem putBetween_any (b off c n p e : Nat) (N : Nat → Nd) (pa : Option Addr) (pc : Nat) (P : List Nd) (w : World) (hp : 0 < p) (hpe : p ≤ e) (he : e ≤ n) (hn : n ≤ 2 ^ 18) (hc : n ≤ c) (hP : P.length ≤ 2 ^ 18) (hb : b < w.heap.size) (hat : NodesAt w b off n N) (hup : ∀ i, i < n → -1 ≤ (N i).up ∧ (N i).up ≤ 2 ^ 20) (hpart : PartS w pa P.length pc (ndCells P)) :
    Calls Tryd.prog 21 #[.slice (some ⟨b, off, none⟩) n c, .int .i64 (p : Int), .int .i64 (e : Int), .slice pa P.length pc] w fun r w' => ∃ v, r = .returned v ∧ OwnsN w' w.heap.size v (putL N n p e P) ∧ Below w.heap.size w w' := by
  have HAT : Hid (NodesAt w b off n N) := hat
  have HPT : Hid (PartS w pa P.length pc (ndCells P)) := hpart
  have HUP : Hid (∀ i, i < n → -1 ≤ (N i).up ∧ (N i).up ≤ 2 ^ 20) := hup
  clear hat hpart hup
  have i0 : (0 : Int) ≤ (p : Int) := by omega
  have i1 : (p : Int) ≤ (c : Int) := by omega
  have i2 : (0 : Int) ≤ (e : Int) := by omega
  have i3 : (e : Int) ≤ (n : Int) := by omega
  have i4 : (n : Int) ≤ (c : Int) := by omega
  have i5 : p ≤ c := by omega
  have HP0 : Hid (PartS w (some ⟨b, off, none⟩) p c (ndCells ((List.range p).map fun i => N (0 + i)))) := ⟨by rw [nd_len]; simp, nd_ones _, .inr ⟨b, off, rfl, hb, fun j u hu => by have := nodes_cells HAT.out 0 p (by omega) j u hu; rwa [Nat.zero_mul, Nat.add_zero] at this⟩⟩
  have HPS : Hid (∀ o2, PartS w (some ⟨b, o2, none⟩) (n - e) (c - e) (ndCells ((List.range (n - e)).map fun i => N (e + i))) → ∀ W : World, Below w.heap.size w W → ∀ i, i < 3 → PartS W (p3 (some ⟨b, off, none⟩) pa (some ⟨b, o2, none⟩) i) (p3 p P.length (n - e) i) (p3 c pc (c - e) i) (p3 (ndCells ((List.range p).map fun i => N (0 + i))) (ndCells P) (ndCells ((List.range (n - e)).map fun i => N (e + i))) i)) := by
    intro o2 HP2 W hW i hi
    rcases (by omega : i = 0 ∨ i = 1 ∨ i = 2) with rfl | rfl | rfl
    · exact HP0.out.below hW
    · exact HPT.out.below hW
    · exact HP2.below hW
  have HAL : ∀ o, Below w.heap.size w (w.alloc o).drew := fun o => ((Below.refl _ _).alloc (Nat.le_refl _) o).drew
  go_enter Tryd.func21, Tryd.ntmps21
  go_upto_region 1 with fail
  go_cut [9] (fun v wx => ∃ g cap, v = .slice (some ⟨g, 0, none⟩) (p + P.length + (n - e)) cap ∧ Hid (OwnsN wx w.heap.size (.slice (some ⟨g, 0, none⟩) (p + P.length + (n - e)) cap) (((List.range p).map fun i => N (0 + i)) ++ P ++ (List.range (n - e)).map fun i => N (e + i)) ∧ Below w.heap.size w wx))
  case first =>
    by_cases hce : c = e
    · subst hce
      have HP2 : Hid (PartS w (some ⟨b, off, none⟩) (n - c) (c - c) (ndCells ((List.range (n - c)).map fun i => N (c + i)))) := by
        obtain rfl : n = c := by omega
        refine ⟨by rw [nd_len]; simp, nd_ones _, .inr ⟨b, off, rfl, hb, fun q u hu => ?_⟩⟩
        rw [Nat.sub_self] at hu
        simp [ndCells] at hu
      go_region_with (go_at_call 41; refine (concat_any w.heap.size 3 3 (p3 (some ⟨b, off, none⟩) pa (some ⟨b, off, none⟩)) (p3 p P.length (n - c)) (p3 c pc (c - c)) (p3 (ndCells ((List.range p).map fun i => N (0 + i))) (ndCells P) (ndCells ((List.range (n - c)).map fun i => N (c + i)))) _ (by decide) (by simp) (fun i hi => by rcases (by omega : i = 0 ∨ i = 1 ∨ i = 2) with rfl | rfl | rfl <;> (simp [p3, go_sem] <;> omega)) (HPS.out _ HP2.out _ (HAL _)) (by simp [sumTo, p3]; omega)).mono ?_; rintro r w1 ⟨v1, rfl, ho1, hb1⟩)
      all_goals
        obtain ⟨g, cap, rfl, ho⟩ := put_own (B := w.heap.size) ho1 (by simp) (by simp; omega) hp
        have HOUT : Hid (OwnsN w1 w.heap.size (.slice (some ⟨g, 0, none⟩) (p + P.length + (n - c)) cap) (((List.range p).map fun i => N (0 + i)) ++ P ++ (List.range (n - c)).map fun i => N (c + i)) ∧ Below w.heap.size w w1) := ⟨ho, (HAL _).trans (hb1.mono (HAL _).size)⟩
        clear ho ho1 hb1
        go_wp2_with fail
        go_meet
        case rel => exact ⟨g, cap, rfl, HOUT⟩
    · have HP2 : Hid (PartS w (some ⟨b, off + e * 5, none⟩) (n - e) (c - e) (ndCells ((List.range (n - e)).map fun i => N (e + i)))) := ⟨by rw [nd_len]; simp, nd_ones _, .inr ⟨b, off + e * 5, rfl, hb, nodes_cells HAT.out e (n - e) (by omega)⟩⟩
      go_region_with (go_at_call 41; refine (concat_any w.heap.size 3 3 (p3 (some ⟨b, off, none⟩) pa (some ⟨b, off + e * 5, none⟩)) (p3 p P.length (n - e)) (p3 c pc (c - e)) (p3 (ndCells ((List.range p).map fun i => N (0 + i))) (ndCells P) (ndCells ((List.range (n - e)).map fun i => N (e + i)))) _ (by decide) (by simp) (fun i hi => by rcases (by omega : i = 0 ∨ i = 1 ∨ i = 2) with rfl | rfl | rfl <;> (simp [p3, go_sem] <;> omega)) (HPS.out _ HP2.out _ (HAL _)) (by simp [sumTo, p3]; omega)).mono ?_; rintro r w1 ⟨v1, rfl, ho1, hb1⟩)
      all_goals
        obtain ⟨g, cap, rfl, ho⟩ := put_own (B := w.heap.size) ho1 (by simp) (by simp; omega) hp
        have HOUT : Hid (OwnsN w1 w.heap.size (.slice (some ⟨g, 0, none⟩) (p + P.length + (n - e)) cap) (((List.range p).map fun i => N (0 + i)) ++ P ++ (List.range (n - e)).map fun i => N (e + i)) ∧ Below w.heap.size w w1) := ⟨ho, (HAL _).trans (hb1.mono (HAL _).size)⟩
        clear ho ho1 hb1
        go_wp2_with fail
        go_meet
        case rel => exact ⟨g, cap, rfl, HOUT⟩
  case rest =>
    obtain ⟨g, cap, rfl, HOB⟩ := hcut
    clear HPS HP0 HPT HAT
    obtain ⟨M, hM⟩ : ∃ M, M = p + P.length + (n - e) := ⟨_, rfl⟩
    obtain ⟨L0, hL0⟩ : ∃ L0, L0 = ((List.range p).map fun i => N (0 + i)) ++ P ++ (List.range (n - e)).map fun i => N (e + i) := ⟨_, rfl⟩
    rw [← hM, ← hL0] at HOB
    have hL0l : L0.length = M := by rw [hL0, hM]; simp; omega
    have HL0 : Hid (∀ j (hj : j < L0.length), p + P.length ≤ j → -1 ≤ L0[j].up ∧ L0[j].up ≤ 2 ^ 20) := fun j hj hb => by
      subst hL0
      rw [List.getElem_append_right (by simp; omega)]
      simp only [List.getElem_map, List.getElem_range]
      exact HUP.out _ (by simp at hj ⊢; omega)
    have HDN : Hid (∀ L, MvTo L0 (p + P.length) e ((p : Int) + P.length - e) M L → L = putL N n p e P) := fun L h => by
      rw [hL0, hM] at h
      exact h.done
    rw [← hM]
    have hMb : p + P.length ≤ M := by omega
    have hM2 : M ≤ 2 ^ 20 := by omega
    have hd1 : IntKind.i64.wrap ((p : Int) + (P.length : Int)) = (p : Int) + P.length := by rw [IntKind.wrap_i64]; omega
    have hd2 : IntKind.i64.wrap ((p : Int) + (P.length : Int) - (e : Int)) = (p : Int) + P.length - e := by rw [IntKind.wrap_i64]; omega
    clear hM hL0 HUP
    go_wp2_with fail
    go_loopw [11] (fun v wr => ∃ (j : Nat) (L : List Nd), p + P.length ≤ j ∧ j ≤ M ∧ v = .int .i64 (j : Int) ∧ L.length = M ∧ Hid (MvTo L0 (p + P.length) e ((p : Int) + P.length - e) j L) ∧ Hid (OwnsN wr w.heap.size (.slice (some ⟨g, 0, none⟩) M cap) L) ∧ Hid (Below w.heap.size w wr)) (fun v _ => M - (intOf v).toNat)
    case atStart => exact ⟨p + P.length, L0, Nat.le_refl _, hMb, by go_num, hL0l, MvTo.start _ _ _ _, HOB.out.1, HOB.out.2⟩
    case round =>
      obtain ⟨j, L, hj1, hj2, rfl, hL, HMV, HO, HB⟩ := hrel
      by_cases hlt : j < M
      · have hjL : j < L.length := by omega
        have hj0 : j < L0.length := by omega
        obtain ⟨u, hu⟩ : ∃ u, u = L[j].up := ⟨_, rfl⟩
        have ho : OwnsN wr w.heap.size (.slice (some ⟨g, 0, none⟩) L.length cap) L := by rw [hL]; exact HO.out
        have a4 : wr.cell? ⟨g, j * 5 + 4, none⟩ = some (.int .i64 u) := by rw [hu]; exact row_up ho hjL
        have f4 : wr.frozen? ⟨g, j * 5 + 4, none⟩ = false := World.ownsRow.frozenAt ho _
        have hub : -1 ≤ u ∧ u ≤ 2 ^ 20 := by rw [hu, HMV.out.at hjL hj0]; exact HL0.out j hj0 hj1
        have hgB : w.heap.size ≤ g := (World.ownsRow.lt ho g rfl).1
        have i0' : (0 : Int) ≤ (j : Int) := by omega
        have i1' : (j : Int) < (M : Int) := by omega
        by_cases hue : (e : Int) ≤ u
        · have hd3 : IntKind.i64.wrap (u + ((p : Int) + (P.length : Int) - (e : Int))) = u + ((p : Int) + P.length - e) := by rw [IntKind.wrap_i64]; omega
          have HM2 : Hid (MvTo L0 (p + P.length) e ((p : Int) + P.length - e) (j + 1) (L.set j { L[j] with up := u + ((p : Int) + P.length - e) })) := by
            have := HMV.out.move hjL hj1 (by rw [← hu]; exact hue)
            rw [← hu] at this
            exact this
          have HO2 : Hid (OwnsN (wr.setCell ⟨g, j * 5 + 4, none⟩ (.int .i64 (u + ((p : Int) + P.length - e)))) w.heap.size (.slice (some ⟨g, 0, none⟩) M cap) (L.set j { L[j] with up := u + ((p : Int) + P.length - e) })) := by
            have := row_put (u := u + ((p : Int) + P.length - e)) ho hjL
            rw [hL] at this
            exact this
          have HB2 : Hid (Below w.heap.size w (wr.setCell ⟨g, j * 5 + 4, none⟩ (.int .i64 (u + ((p : Int) + P.length - e))))) := HB.out.setCell (p := ⟨g, j * 5 + 4, none⟩) hgB _
          clear ho hu
          go_wp2
          go_roundw
          case rel => exact ⟨j + 1, _, by omega, by omega, by go_num, by rw [List.length_set]; exact hL, HM2, HO2, HB2⟩
          case measure => simp [intOf]; omega
        · have HM2 : Hid (MvTo L0 (p + P.length) e ((p : Int) + P.length - e) (j + 1) L) := HMV.out.stay hjL (by rw [← hu]; exact hue)
          clear ho hu
          go_wp2
          go_roundw
          case rel => exact ⟨j + 1, L, by omega, by omega, by go_num, hL, HM2, HO, HB⟩
          case measure => simp [intOf]; omega
      · obtain rfl : j = M := by omega
        have HF : Hid (OwnsN wr w.heap.size (.slice (some ⟨g, 0, none⟩) j cap) (putL N n p e P)) := by
          show OwnsN _ _ _ _
          rw [← HDN.out L HMV.out]
          exact HO.out
        go_wp2
        go_ret
        exact ⟨_, rfl, HF.out, HB.out⟩

end Go.Proofs.YtbjifclgifkjmaaDoor
namespace Go.Proofs.YtbjifclgifkjmaaDoor
open Go.RowKit
set_option linter.unusedVariables false

set_option maxRecDepth 100000 in
set_option maxHeartbeats 1000000 in
theorem l1Of_any (t : Tr) (v : Value) (w : World) (h : Tree w t v) (hn : t.named) (hc : t.cnt ≤ 2 ^ 20) :
    Calls Tryd.prog 13 #[v] w fun e w' => ∃ lv, e = .returned (.agg #[lv]) ∧ OwnsN w' w.heap.size lv (t.flat ⟨#[]⟩ (-1) 0) ∧ Below w.heap.size w w' := by
  obtain ⟨k, n, tx, nm, ks⟩ := t
  obtain ⟨an, cn, ak, ck, rfl, _, _⟩ := h.open
  have HT : Hid (Tree w (.mk k n tx nm ks) _) := h
  have HN : Hid ((Tr.mk k n tx nm ks).named) := hn
  have HC : Hid ((Tr.mk k n tx nm ks).cnt ≤ 2 ^ 20) := hc
  clear h hn hc
  go_enter Tryd.func13, Tryd.ntmps13
  go_wp2_with fail
  have hb2 : ∀ o o', Below w.heap.size w ((w.alloc o).alloc o') := fun o o' => ((Below.refl _ _).alloc (Nat.le_refl _) o).alloc (by simp) o'
  refine (l1Flat_any (.mk k n tx nm ks) _ (.slice none 0 0) ⟨#[]⟩ (-1) [] (w.heap.size + 2) _ (TreeIs.keep (fun b _ hlt => (hb2 _ _).block b hlt) (fun b _ _ => by simp [Value.ownBlock]) (hb2 _ _).size _ _ HT.out) HN.out (World.ownsRow_nil _ _ _ _) (by simp) (by have := HC.out; simp; omega) (by decide) (by decide)).mono ?_
  rintro e w1 ⟨lv, rfl, ho1, hg1, _⟩
  rw [List.nil_append] at ho1
  have hb1 := grown_none hg1
  have r0 : w1.cell? ⟨w.heap.size + 1, 0, none⟩ = some (.slice none 0 0) ∧ w1.frozen? ⟨w.heap.size + 1, 0, none⟩ = false := by rw [hb1.cell (by simp), hb1.frozen (by simp)]; simp [go_sem]
  obtain ⟨r1, r2⟩ := r0
  obtain ⟨la, lc, rfl⟩ := ho1.form
  have HB : Hid (Below w.heap.size w w1) := (hb2 _ _).trans (hb1.mono (by simp; omega))
  have HO : Hid (OwnsN w1 (w.heap.size + 2) (.slice la ((Tr.mk k n tx nm ks).flat ⟨#[]⟩ (-1) 0).length lc) ((Tr.mk k n tx nm ks).flat ⟨#[]⟩ (-1) 0)) := ho1
  clear ho1 hg1 hb1 hb2
  go_wp2
  exact bodyPost_ret (v := .agg #[.slice la ((Tr.mk k n tx nm ks).flat ⟨#[]⟩ (-1) 0).length lc]) (by simp [results, Tryd.results13, go_sem, r1]) rfl ⟨_, rfl, (own_set HO.out (by omega)).low (by omega), Below.setR HB.out (by omega)⟩

end Go.Proofs.YtbjifclgifkjmaaDoor
