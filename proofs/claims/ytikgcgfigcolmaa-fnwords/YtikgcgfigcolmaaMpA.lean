/- Maps by texts, whatever they hold. No condition. -/
import Derived.Test.YtikgcgfigcolmaaIxM
import Derived.Maps.OwnSet
import Derived.Sort.KeysCollected
import Derived.Sort.Walk0
namespace Go.Proofs.Ytikgcgfigcolmaa
open Go.RowKit Go.Maps
set_option linter.unusedVariables false

/-- Each element as it lies. -/
def rawR (v : Value) : Option (DataW Value × List MemPlace) := some (.held v, [])
def encK (p : ByteArray × Value) : Lit × DataW Value := (.string p.1.data.toList, .held p.2)
theorem before_bytes : ∀ a b : List UInt8, bytesBefore a b = Op.bytesLess a b
  | [], [] => rfl
  | [], _ :: _ => rfl
  | _ :: _, [] => rfl
  | x :: r, y :: s => by rw [bytesBefore, Op.bytesLess, before_bytes r s]
theorem before_less (a b : ByteArray) : (Lit.string a.data.toList).before (.string b.data.toList) = lessB a b := by
  unfold lessB
  rw [ByteArray.toList_eq, ByteArray.toList_eq]
  exact before_bytes _ _
theorem same_key (a b : ByteArray) : (Lit.string a.data.toList).sameKey (.string b.data.toList) = decide (a = b) := by
  show (a.data.toList == b.data.toList) = decide (a = b)
  by_cases e : a = b
  · subst e
    simp
  · have h1 : a.data.toList ≠ b.data.toList := fun h => e (by rw [← strL_data a, ← strL_data b, h])
    rw [decide_eq_false e]
    simpa using h1
theorem ins_enc (p : ByteArray × Value) : ∀ L : List (ByteArray × Value), DataW.insert (encK p) (L.map encK) = (insK p L).map encK
  | [] => rfl
  | q :: r => by
    have hb : (encK p).1.before (encK q).1 = lessB p.1 q.1 := before_less _ _
    rw [List.map_cons, DataW.insert, insK, hb, ins_enc p r]
    by_cases h : lessB p.1 q.1 = true
    · rw [if_pos h, if_pos h]
      rfl
    · rw [if_neg h, if_neg h]
      rfl
theorem put_enc (x : ByteArray) (v : Value) (L : List (ByteArray × Value)) : (DataW.map (L.map encK)).put (.string x.data.toList) (.held v) = .map ((setK x v L).map encK) := by
  unfold DataW.put setK
  rw [← ins_enc]
  show DataW.map (DataW.insert (encK (x, v)) _) = _
  congr 2
  rw [List.filter_map]
  congr 1
  refine List.filter_congr fun p _ => ?_
  show (!(encK p).1.sameKey (.string x.data.toList)) = _
  rw [show (encK p).1 = .string p.1.data.toList from rfl, same_key]
theorem at_enc (x : ByteArray) (z : Value) (L : List (ByteArray × Value)) : (DataW.map (L.map encK)).atKey (.string x.data.toList) (.held z) = .held (getD x z L) := by
  unfold DataW.atKey getD getK
  induction L with
  | nil => rfl
  | cons p r ih =>
    have h : (encK p).1.sameKey (.string x.data.toList) = decide (p.1 = x) := same_key _ _
    simp only [List.map_cons, List.find?_cons, h]
    cases decide (p.1 = x) with
    | true => rfl
    | false => exact ih
/-- A map in block b. -/
def MapAt (w : World) (b : Nat) (L : List (ByteArray × Value)) : Prop := w.ownsMap Try.prog 9 rawR b L.length (.map (L.map encK)) ∧ RiseK L
theorem MapAt.tight {w : World} {b n : Nat} {L : List (ByteArray × Value)} (h : w.ownsMap Try.prog 9 rawR b n (.map (L.map encK))) : w.ownsMap Try.prog 9 rawR b L.length (.map (L.map encK)) := by
  obtain ⟨es, clock, h1, h2, h3, h4⟩ := h
  refine ⟨es, clock, h1, h2, ?_, h4⟩
  have := congrArg Maps.size h4
  simp only [Maps.size_eq, List.length_map, length_sorted] at this
  rw [this]
  simp
theorem MapAt.len {w : World} {b : Nat} {L : List (ByteArray × Value)} (h : MapAt w b L) : L.length ≤ maxLen := by
  obtain ⟨⟨es, clock, h1, h2, h3, h4⟩, _⟩ := h
  have := congrArg Maps.size h4
  simp only [Maps.size_eq, List.length_map, length_sorted] at this
  rw [this]
  simpa using h2.size
theorem MapAt.made (w : World) : MapAt (w.alloc (.map #[] 0)) w.heap.size [] := ⟨World.ownsMap_made w _ _ _, List.Pairwise.nil⟩
theorem MapAt.lt {w : World} {b : Nat} {L : List (ByteArray × Value)} (h : MapAt w b L) : b < w.heap.size := h.1.lt
theorem MapAt.block {w w' : World} {b : Nat} {L : List (ByteArray × Value)} (h : MapAt w b L) (hb : w'.heap[b]? = w.heap[b]?) : MapAt w' b L := by
  obtain ⟨⟨es, clock, h1, h2⟩, h3⟩ := h
  exact ⟨⟨es, clock, hb.trans h1, h2⟩, h3⟩
theorem MapAt.below {w w' : World} {b : Nat} {L : List (ByteArray × Value)} (h : MapAt w b L) (hb : Below w.heap.size w w') : MapAt w' b L := h.block (hb.block b h.lt)
theorem MapAt.alloc {w : World} {b : Nat} {L : List (ByteArray × Value)} (h : MapAt w b L) (o : Obj) : MapAt (w.alloc o) b L := ⟨h.1.alloc o, h.2⟩
theorem MapAt.look {w : World} {b : Nat} {L : List (ByteArray × Value)} (h : MapAt w b L) {t e : TypeId} (ht : Try.prog.underlying t = some (.map 9 e)) {z : Value} (hz : (zeroValue e).run Try.prog w = .ok z w) {x : ByteArray} (hx : x.size ≤ maxLen) :
    (Instr.lookup t (.map (some b)) (.string x) false).run Try.prog w = .ok (getD x z L) w := by
  obtain ⟨v, ps, hrun, hv⟩ := h.1.lookup (string_keyed Try.underlying9) ht hz (zd := .held z) (zp := []) rfl (WideMaps.keyOf_string_mk Try.underlying9 hx)
  rw [at_enc] at hv
  have hv2 : v = getD x z L := by
    unfold rawR at hv
    simp only [Option.some.injEq, Prod.mk.injEq, DataW.held.injEq] at hv
    exact hv.1
  rw [hrun, hv2]
theorem MapAt.set {w : World} {b : Nat} {L : List (ByteArray × Value)} (h : MapAt w b L) (hl : L.length < maxLen) {t e : TypeId} (ht : Try.prog.underlying t = some (.map 9 e)) {x : ByteArray} (hx : x.size ≤ maxLen) (v : Value) :
    ∃ w', (Instr.mapUpdate t (.map (some b)) (.string x) v).run Try.prog w = .ok () w' ∧ MapAt w' b (setK x v L) ∧ w.grownBy w' (some b) ∧ w'.heap.size = w.heap.size := by
  obtain ⟨es, clock, hb, F, hs, hD⟩ := h.1
  obtain ⟨es', clock', hrun, F', hput, _⟩ := Maps.fit_store (R' := rawR) (string_keyed Try.underlying9) ht hb F (Nat.lt_of_le_of_lt hs hl) (fun _ _ _ _ hz => hz) (WideMaps.keyOf_string_mk Try.underlying9 hx) (yv := (.held v, [])) rfl
  refine ⟨_, hrun, ⟨MapAt.tight (n := es'.size) ⟨es', clock', ChangeMaps.heap_setBlock_same hb _, F', Nat.le_refl _, ?_⟩, setK_rise h.2⟩, ⟨rfl, rfl, rfl, by simp [ChangeMaps.setBlock], fun i _ hi => ChangeMaps.heap_setBlock_other hb _ (fun e => hi (by rw [e]))⟩, by simp [ChangeMaps.setBlock]⟩
  rw [← put_enc, hD, DataW.put_eq, hput]
/-- m[x] = v at the operation. -/
theorem wpList_mapSet {w : World} {ops : Array Oper} {rest : List Oper} {o : Oper} {a : Act} {Q : Exit → Act → World → Prop} (hg : o.guard = none) (m x v : Operand) (t : TypeId) (hop : o.op = Op.mapUpdate t m x v)
    (e : TypeId) (ht : Try.prog.underlying t = some (.map 9 e)) (b : Nat) (L : List (ByteArray × Value)) (hm : a.eval m = .map (some b)) (h : MapAt w b L) (hl : L.length < maxLen) (key : ByteArray) (val : Value) (hx : a.eval x = .string key) (hk : key.size ≤ maxLen) (hv : a.eval v = val)
    (hK : ∀ w', MapAt w' b (setK key val L) → w.grownBy w' (some b) → w'.heap.size = w.heap.size → wpList Try.prog ops Q rest (a.put o.dst undef) w') : wpList Try.prog ops Q (o :: rest) a w := by
  refine wpList_plain hg fun K' hK' => ?_
  obtain ⟨w', hrun, r1, r2, r3⟩ := h.set hl ht hk val
  unfold Oper.wp
  simp [execOp, hop, hm, hx, hv, hrun, Result.andThen]
  exact hK' _ _ (hK w' r1 r2 r3)
/-- clear(m). -/
theorem MapAt.clear {w : World} {b : Nat} {L : List (ByteArray × Value)} (h : MapAt w b L) {t e ty : TypeId} (ht : Try.prog.underlying t = some (.map 9 e)) :
    ∃ w', (Builtin.clear_ #[t] ty #[.map (some b)]).run Try.prog w = .ok (.tuple #[]) w' ∧ MapAt w' b [] ∧ w.grownBy w' (some b) ∧ w'.heap.size = w.heap.size := by
  obtain ⟨⟨es, clock, hb, F, hs, hD⟩, _⟩ := h
  refine ⟨ChangeMaps.setBlock w b (.map #[] clock), ?_, ⟨⟨#[], clock, ChangeMaps.heap_setBlock_same hb _, ⟨by simp, MapKept.stamped_empty clock, by simp⟩, Nat.le_refl _, rfl⟩, List.Pairwise.nil⟩, ⟨rfl, rfl, rfl, by simp [ChangeMaps.setBlock], fun i _ hi => ChangeMaps.heap_setBlock_other hb _ (fun e => hi (by rw [e]))⟩, by simp [ChangeMaps.setBlock]⟩
  simp [Builtin.clear_, run_underlying ht, MapKept.run_getObj_map hb, MapKept.run_setObj_map _ hb, Result.andThen, ChangeMaps.setBlock]
theorem MapAt.size {w : World} {b : Nat} {L : List (ByteArray × Value)} (h : MapAt w b L) {t e : TypeId} (ht : Try.prog.underlying t = some (.map 9 e)) (ty : TypeId) : (Builtin.len_ #[t] ty #[.map (some b)]).run Try.prog w = .ok (.int .i64 L.length) w := by
  have := h.1.len ht ty
  rw [Maps.size_eq, List.length_map] at this
  exact this
/-- Keys that rise are sorted. -/
theorem keys_enc (L : List (ByteArray × Value)) : strKeys (DataW.map (L.map encK)) = L.map (fun p => p.1.data.toList) := by
  show (L.map encK).map (fun p => strOf p.1) = _
  rw [List.map_map]
  rfl
theorem lessB_lt {a b : ByteArray} (h : lessB a b = true) : a.data.toList < b.data.toList := by
  unfold lessB at h
  rw [ByteArray.toList_eq, ByteArray.toList_eq] at h
  rw [Proofs.bytesLess_eq] at h
  simpa using h
theorem keys_sorted {L : List (ByteArray × Value)} (h : RiseK L) {ss : List (List UInt8)} (hp : ss.Perm (strKeys (DataW.map (L.map encK)))) : ss.mergeSort (fun x y => decide (x ≤ y)) = L.map (fun p => p.1.data.toList) := by
  rw [keys_enc] at hp
  have s1 : (L.map (fun p : ByteArray × Value => p.1.data.toList)).Pairwise (fun x y => decide (x ≤ y) = true) := by
    rw [List.pairwise_map]
    exact h.imp fun {p q} hpq => decide_eq_true (Std.le_of_lt (lessB_lt hpq))
  have s2 : (ss.mergeSort (fun x y => decide (x ≤ y))).Pairwise (fun x y => decide (x ≤ y) = true) := by
    refine List.pairwise_mergeSort (le := fun x y => decide (x ≤ y)) (fun a b c hab hbc => ?_) (fun a b => ?_) ss
    · simp only [decide_eq_true_eq] at hab hbc ⊢
      exact List.le_trans hab hbc
    · simp only [Bool.or_eq_true, decide_eq_true_eq]
      exact List.le_total a b
  refine List.Perm.eq_of_pairwise (le := fun x y => decide (x ≤ y) = true) (fun a b _ _ hab hba => ?_) s2 s1 ((List.mergeSort_perm ss _).trans hp)
  simp only [decide_eq_true_eq] at hab hba
  exact List.le_antisymm hab hba
end Go.Proofs.Ytikgcgfigcolmaa
