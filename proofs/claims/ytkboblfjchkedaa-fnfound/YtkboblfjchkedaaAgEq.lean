/- Arrays of whole numbers held against each other. No condition. -/
import Derived.Test.YtkboblfjchkedaaBase0
import Derived.Laws.StructEq
namespace Go.Proofs.Ytkboblfjchkedaa
open Go.RowKit
set_option linter.unusedVariables false

theorem run_part_int (e : TypeId) (l : List Int) (i : Nat) (x : Int) (w : World) (ha : ∀ w, (isAgg e).run Try.prog w = .ok false w) (h : l[i]? = some x) : (part e (l.map (Value.int .i64)).toArray i).run Try.prog w = .ok (.int .i64 x) w := by
  simp [part, ha, h]
theorem run_equalIn_ints (d : Nat) (t e : TypeId) (n : Nat) (xs ys : List Int) (w : World) (ht : Try.prog.underlying t = some (.array n e)) (he : Try.prog.underlying e = some (.int .i64)) (hs : ∀ w, (Go.sizeOf e).run Try.prog w = .ok 1 w) (ha : ∀ w, (isAgg e).run Try.prog w = .ok false w) (hx : xs.length = n) (hy : ys.length = n) :
    (Op.equalIn (d + 1 + 1) t (.agg (xs.map (Value.int .i64)).toArray) (.agg (ys.map (Value.int .i64)).toArray)).run Try.prog w = .ok (xs == ys) w := by
  rw [Op.equalIn]
  simp only [Sem.run_bind, run_underlying ht, Result.andThen_ok, hs, Nat.mul_one]
  rw [Std.Legacy.Range.forIn_eq_forIn_range']
  have key : ∀ (m s : Nat), s + m = n → Sem.run Try.prog (forIn (List.range' s m 1) ((none, ()) : Option Bool × Unit) fun i __s => do
            let a ← part e (List.map (Value.int IntKind.i64) xs).toArray i
            let b ← part e (List.map (Value.int IntKind.i64) ys).toArray i
            let c ← Op.equalIn (d + 1) e a b
            if (!c) = true then pure (ForInStep.done (some false, ())) else pure (ForInStep.yield (none, ()))) w = .ok (if xs.drop s = ys.drop s then (none, ()) else (some false, ())) w := by
    intro m
    induction m with
    | zero =>
      intro s hsn
      rw [if_pos (by rw [List.drop_of_length_le (by omega), List.drop_of_length_le (by omega)])]
      simp
    | succ m ih =>
      intro s hsn
      obtain ⟨x, hxs⟩ : ∃ x, xs[s]? = some x := ⟨_, List.getElem?_eq_getElem (by omega)⟩
      obtain ⟨y, hys⟩ : ∃ y, ys[s]? = some y := ⟨_, List.getElem?_eq_getElem (by omega)⟩
      have dx : xs.drop s = x :: xs.drop (s + 1) := by
        obtain ⟨h1, rfl⟩ := List.getElem?_eq_some_iff.1 hxs
        exact List.drop_eq_getElem_cons h1
      have dy : ys.drop s = y :: ys.drop (s + 1) := by
        obtain ⟨h1, rfl⟩ := List.getElem?_eq_some_iff.1 hys
        exact List.drop_eq_getElem_cons h1
      have i2 := ih (s + 1) (by omega)
      rw [List.range'_succ]
      simp only [List.forIn_cons, Sem.run_bind, run_part_int e xs s x w ha hxs, run_part_int e ys s y w ha hys, Result.andThen_ok, run_equalIn_int w d e .i64 .i64 x y he]
      by_cases c : x = y
      · subst c
        simp only [BEq.rfl, Bool.not_true, Bool.false_eq_true, if_false, Sem.run_pure, Result.andThen_ok]
        refine Eq.trans i2 ?_
        rw [dx, dy]
        simp
      · have hb : (x == y) = false := by simpa using c
        simp only [hb, Bool.not_false, if_true, Sem.run_pure, Result.andThen_ok]
        rw [if_neg (by rw [dx, dy]; simp [c])]
  have k0 := key n 0 (by omega)
  simp only [List.drop_zero] at k0
  have hz : Std.Legacy.Range.size [:n] = n := by simp [Std.Legacy.Range.size]
  rw [hz]
  show ((Sem.run Try.prog (forIn (List.range' 0 n 1) _ _) w).andThen _) = _
  rw [k0]
  by_cases c : xs = ys
  · simp [c]
  · have hb : (xs == ys) = false := by simpa using c
    simp [c, hb]
theorem run_eql_ints (t e : TypeId) (n : Nat) (xs ys : List Int) (w : World) (ht : Try.prog.underlying t = some (.array n e)) (he : Try.prog.underlying e = some (.int .i64)) (hs : ∀ w, (Go.sizeOf e).run Try.prog w = .ok 1 w) (ha : ∀ w, (isAgg e).run Try.prog w = .ok false w) (hx : xs.length = n) (hy : ys.length = n) :
    (binOp .eql t (.agg (xs.map (Value.int .i64)).toArray) (.agg (ys.map (Value.int .i64)).toArray)).run Try.prog w = .ok (.bool (xs == ys)) w := by
  rw [run_eql_struct, run_equalIn_ints 9998 t e n xs ys w ht he hs ha hx hy]
  rfl
theorem run_neq_ints (t e : TypeId) (n : Nat) (xs ys : List Int) (w : World) (ht : Try.prog.underlying t = some (.array n e)) (he : Try.prog.underlying e = some (.int .i64)) (hs : ∀ w, (Go.sizeOf e).run Try.prog w = .ok 1 w) (ha : ∀ w, (isAgg e).run Try.prog w = .ok false w) (hx : xs.length = n) (hy : ys.length = n) :
    (binOp .neq t (.agg (xs.map (Value.int .i64)).toArray) (.agg (ys.map (Value.int .i64)).toArray)).run Try.prog w = .ok (.bool (!(xs == ys))) w := by
  rw [run_neq_struct, run_equalIn_ints 9998 t e n xs ys w ht he hs ha hx hy]
  rfl
end Go.Proofs.Ytkboblfjchkedaa
