/- Rows that grow by a whole row: append(a, b...); fronts and ends of rows; whole numbers. No condition. -/
import Derived.Test.YtdlodeklheapgaaAp2
namespace Go.Proofs.Ytdlodeklheapgaa
open Go.RowKit
set_option linter.unusedVariables false

theorem below_a1r (w : World) (o : Obj) : Below w.heap.size w (w.alloc o) := (Below.refl _ _).alloc (Nat.le_refl _) o
/-- The front of a row. -/
theorem row_take {α : Type} {K : Kd α} {o : Bool} {w : World} {S : Nat → Prop} {a : Option Addr} {n c : Nat} {l : List α} (h : (kRow K).is o w S [.slice a n c] l) {k : Nat} (hk : k ≤ n) : (kRow K).is o w S [.slice a k c] (l.take k) := by
  obtain ⟨a', c', e, h2, h3, h0⟩ := h
  simp only [List.cons.injEq, Value.slice.injEq, and_true] at e
  obtain ⟨rfl, rfl, rfl⟩ := e
  have hl : (l.take k).length = k := by rw [List.length_take]; omega
  refine ⟨a, c, by rw [hl], by omega, fun e => by have := h3 e; omega, ?_⟩
  rcases h0 with h0 | ⟨b, off, B, C, rfl, hlt, hb, hr, hs, hd⟩
  · left; rw [h0]; simp
  · right
    refine ⟨b, off, B, C, rfl, hlt, hb, fun i x hx => hr i x ?_, fun i q hi => hs i q (by omega), fun e => ⟨fun i hi => (hd e).1 i (by omega), fun i j q hi hj => (hd e).2 i j q (by omega) (by omega)⟩⟩
    have hi : i < k := by have := (List.getElem?_eq_some_iff.1 hx).1; omega
    rw [List.getElem?_take_of_lt hi] at hx
    exact hx
theorem app_zero {w : World} (base : Nat) (t ty e : TypeId) (i : TypeInfo) (size : Nat) (ht : Try.prog.underlying t = some (.slice e)) (hi : Try.prog.info? e = some i)
    (v : Value) (n : Nat) (xs : List Value) (hown : w.ownsRow base e size v n xs) (a : Option Addr) (c : Nat) :
    (Builtin.append_ #[t, t] ty #[v, .slice a 0 c]).run Try.prog w = .ok v w := by
  cases a with
  | none =>
    rcases hown.2 with ⟨rfl, rfl⟩ | ⟨g, cap, cur, rfl, _, _, hnc, _⟩
    · simp [Builtin.append_, run_underlying ht, sizeOf, typeInfo, hi, Builtin.lenOf, Builtin.firstCells]
    · simp [Builtin.append_, run_underlying ht, sizeOf, typeInfo, hi, Builtin.lenOf, Builtin.firstCells, hnc, storeCells]
  | some ad =>
    rcases hown.2 with ⟨rfl, rfl⟩ | ⟨g, cap, cur, rfl, _, _, hnc, _⟩
    · simp [Builtin.append_, run_underlying ht, sizeOf, typeInfo, hi, Builtin.lenOf, Builtin.firstCells, loadCells, loadCellsFrom]
    · simp [Builtin.append_, run_underlying ht, sizeOf, typeInfo, hi, Builtin.lenOf, Builtin.firstCells, hnc, storeCells, loadCells, loadCellsFrom]

theorem flat_len {α : Type} {cs : α → List Value} {n : Nat} (hn : ∀ x, (cs x).length = n) (l : List α) : (l.flatMap cs).length = l.length * n := by
  induction l with
  | nil => simp
  | cons y t ih => rw [List.flatMap_cons, List.length_append, ih, List.length_cons, hn, Nat.add_mul]; omega
theorem row_cells {α : Type} {K : Kd α} {cs : α → List Value} (hw : ∀ x, (cs x).length = K.wd) (hwd : 0 < K.wd) (hk : ∀ {w S C x}, K.is false w S C x → C = cs x) {w : World} {S : Nat → Prop} {ad : Addr} {n c : Nat} {l : List α} (h : (kRow K).is false w S [.slice (some ad) n c] l) : ∀ j u, (l.flatMap cs)[j]? = some u → w.cell? (ad.add j) = some u := by
  intro j u hu
  have hj : j < l.length * K.wd := by rw [← flat_len hw l]; exact (List.getElem?_eq_some_iff.1 hu).1
  have hq : j / K.wd < l.length := Nat.div_lt_of_lt_mul (by rw [Nat.mul_comm]; exact hj)
  have hr : j % K.wd < K.wd := Nat.mod_lt _ hwd
  have hdm : j / K.wd * K.wd + j % K.wd = j := by rw [Nat.mul_comm]; exact Nat.div_add_mod _ _
  obtain ⟨x, hx⟩ : ∃ x, l[j / K.wd]? = some x := ⟨_, List.getElem?_eq_getElem hq⟩
  obtain ⟨b, off, B, C, e, hb, _, hi, _, hc⟩ := row_at h hx
  obtain rfl := hk hi
  have := flat_get (cs := cs) (n := K.wd) hw l (j / K.wd) (j % K.wd) x hx hr
  rw [hdm, hu] at this
  have h1 := (hc (j % K.wd) u this.symm).1
  obtain rfl : ad = ⟨b, off, none⟩ := by injection e
  rw [show ((⟨b, off, none⟩ : Addr).add j) = ⟨b, off + j, none⟩ by unfold Addr.add; split <;> simp_all]
  rw [Nat.add_assoc, hdm] at h1
  exact h1
theorem row_none {α : Type} {K : Kd α} {o : Bool} {w : World} {S : Nat → Prop} {n c : Nat} {l : List α} (h : (kRow K).is o w S [.slice none n c] l) : l = [] := by
  obtain ⟨a', c', e, _, _, h0 | ⟨b, off, B, C, e', _⟩⟩ := h
  · exact h0
  · simp at e
    rw [← e.1] at e'
    cases e'

/-- append(v, row...): all put behind. -/
theorem wpList_appR {α : Type} {K : Kd α} (cs : α → List Value) {w : World} {ops : Array Oper} {rest : List Oper} {o : Oper} {a : Act} {Q : Exit → Act → World → Prop} (hgd : o.guard = none) (s x : Operand) (t : TypeId)
    (ho : o.op = .call { callee := .builtin .append, args := #[s, x], argTypes := #[t, t] })
    (B : Nat) (e : TypeId) (i : TypeInfo) (z : Value) (bytes : Nat) (ht : Try.prog.underlying t = some (.slice e)) (hi : Try.prog.info? e = some i) (hz : i.zero = some z)
    (hsize : i.size = K.wd) (hby : i.bytes = bytes) (hzs : z.cells.size = K.wd) (hsz : 0 < K.wd) (hb64 : bytes ≤ 256)
    (hw : ∀ x, (cs x).length = K.wd) (hk : ∀ {w S C x}, K.is false w S C x → C = cs x) (h1 : ∀ x, ∀ u ∈ cs x, u.oneCell' = true)
    (v : Value) (l : List α) (hs : a.eval s = v) (hown : OwnL cs e K.wd w B v l) (ra : Option Addr) (n c : Nat) (S : Nat → Prop) (l' : List α) (hx : a.eval x = .slice ra n c) (hr : (kRow K).is false w S [.slice ra n c] l')
    (hL : l.length + l'.length ≤ 2 ^ 30) (hbase : B ≤ w.heap.size)
    (h : ∀ v' w', OwnL cs e K.wd w' B v' (l ++ l') → Below B w w' → GrewO w w' v v' → wpList Try.prog ops Q rest (a.put o.dst v') w') : wpList Try.prog ops Q (o :: rest) a w := by
  have hn := row_len hr
  cases ra with
  | none =>
    have hl' := row_none hr
    subst hl'
    have hn0 : n = 0 := hn
    subst hn0
    refine wpList_plain hgd fun K' hK => ?_
    unfold Oper.wp execOp
    simp only [ho, resolve, invoke, builtin, Sem.run_bind, Sem.run_pure, Result.andThen_ok, List.map_toArray, List.map_cons, List.map_nil, hs, hx, app_zero B t o.type e i K.wd ht hi v l.length (l.flatMap cs) hown none c]
    refine hK _ _ ?_
    refine h v w ?_ (Below.refl _ _) (GrewO.refl _ _)
    rw [List.append_nil]
    exact hown
  | some ad =>
    have hbm : (l.length + n) * bytes ≤ 140737488355328 := by
      have := Nat.mul_le_mul (show l.length + n ≤ 2 ^ 30 by omega) hb64
      omega
    refine wpList_append_own_at w hgd s x t ho B e i z K.wd bytes ht hi hz hsize hby hzs hsz v l.length (l.flatMap cs) hs hown ad n c (l'.flatMap cs) hx (by rw [flat_len hw, hn]) (row_cells hw hsz hk hr) (fun u hu => by obtain ⟨y, _, hy⟩ := List.mem_flatMap.1 hu; exact h1 y u hy) (by unfold maxLen; omega) hbm hbase fun v' w' h2 h3 _ h5 => h v' w' ?_ ?_ (Grew.o ⟨h3.size, ⟨h3.os, h3.tape, h3.output, h3.size, fun k hk hn => h3.block k hk (fun e => hn e.symm)⟩, h5⟩)
    · unfold OwnL
      rw [List.length_append, List.flatMap_append, ← hn]
      exact h2
    · exact ⟨h3.os, h3.tape, h3.output, h3.size, fun k hk => h3.block k (by omega) (fun e => by have := (World.ownsRow.lt hown k e.symm).1; omega)⟩

/-- What is left of a row behind its front. -/
theorem row_drop {α : Type} {K : Kd α} {o : Bool} {w : World} {S : Nat → Prop} {b off : Nat} {n c : Nat} {l : List α} (h : (kRow K).is o w S [.slice (some ⟨b, off, none⟩) n c] l) {k : Nat} (hk : k ≤ n) : (kRow K).is o w S [.slice (some ⟨b, off + k * K.wd, none⟩) (n - k) (c - k)] (l.drop k) := by
  obtain ⟨a', c', e, h2, h3, h0⟩ := h
  simp only [List.cons.injEq, Value.slice.injEq, and_true] at e
  obtain ⟨rfl, rfl, rfl⟩ := e
  have hl : (l.drop k).length = l.length - k := by rw [List.length_drop]
  refine ⟨_, c - k, by rw [hl], by omega, fun e => by have := h3 e; omega, ?_⟩
  rcases h0 with h0 | ⟨b', off', B, C, e', hlt, hb, hr, hs, hd⟩
  · left; rw [h0]; simp
  · right
    obtain ⟨rfl, rfl⟩ : b = b' ∧ off = off' := by injection e' with e; injection e with e1 e2; exact ⟨e1, e2⟩
    refine ⟨b, off + k * K.wd, fun i => B (k + i), fun i => C (k + i), rfl, hlt, hb, fun i x hx => ?_, fun i q hi => hs (k + i) q (by omega), fun e => ⟨fun i hi => (hd e).1 (k + i) (by omega), fun i j q hi hj hn => (hd e).2 (k + i) (k + j) q (by omega) (by omega) (by omega)⟩⟩
    rw [List.getElem?_drop] at hx
    have := hr (k + i) x hx
    refine ⟨this.1, fun j v hj => ?_⟩
    have h4 := this.2 j v hj
    rw [show off + k * K.wd + i * K.wd + j = off + (k + i) * K.wd + j by rw [Nat.add_mul]; omega]
    exact h4

/-- A whole number, its cell. -/
def inC (y : Int) : List Value := [.int .i64 y]
theorem inC_one (x : Int) : ∀ u ∈ inC x, u.oneCell' = true := by
  intro u hu
  simp [inC] at hu
  rw [hu]; rfl
theorem inC_is {w : World} {S : Nat → Prop} {C : List Value} {x : Int} (h : kInt.is false w S C x) : C = inC x := h.1
/-- append(out, l...) of whole numbers. -/
theorem app_ints {w : World} {ops : Array Oper} {rest : List Oper} {o : Oper} {a : Act} {Q : Exit → Act → World → Prop} (hgd : o.guard = none) (s x : Operand)
    (ho : o.op = .call { callee := .builtin .append, args := #[s, x], argTypes := #[79, 79] })
    (B : Nat) (v : Value) (l : List Int) (hs : a.eval s = v) (hown : OwnL inC 3 1 w B v l) (ra : Option Addr) (n c : Nat) (S : Nat → Prop) (l' : List Int) (hx : a.eval x = .slice ra n c) (hr : (kRow kInt).is false w S [.slice ra n c] l')
    (hL : l.length + l'.length ≤ 2 ^ 30) (hbase : B ≤ w.heap.size)
    (h : ∀ v' w', OwnL inC 3 1 w' B v' (l ++ l') → Below B w w' → GrewO w w' v v' → wpList Try.prog ops Q rest (a.put o.dst v') w') : wpList Try.prog ops Q (o :: rest) a w := by
  obtain ⟨i0, hi, hz0, hz1, hz2⟩ := info_parts infoIntA
  exact wpList_appR (K := kInt) inC hgd s x 79 ho B 3 i0 _ 8 Try.underlying79 hi hz0 hz1 hz2 rfl (by decide) (by decide) (fun _ => rfl) inC_is inC_one v l hs hown ra n c S l' hx hr hL hbase h
theorem rowI_ok {w : World} {S : Nat → Prop} {o : Bool} {a : Option Addr} {n c : Nat} {l : List Int} (h : (kRow kInt).is o w S [.slice a n c] l) : ∀ x ∈ l, IntOk x := by
  intro x hx
  obtain ⟨i, hi⟩ := List.getElem?_of_mem hx
  obtain ⟨b, off, B, C, _, _, _, hk, _⟩ := row_at h hi
  exact hk.2
theorem own_intK {w : World} {B : Nat} {a : Option Addr} {n c : Nat} {l : List Int} (h : OwnL inC 3 1 w B (.slice a n c) l) (hl : l.length ≤ 2 ^ 30) (hk : ∀ x ∈ l, IntOk x) : (kRow kInt).is true w (fun k => B ≤ k) [.slice a n c] l :=
  own_kRow (K := kInt) (fun _ => rfl) h (by unfold maxLen; omega) (fun x hx W S => ⟨rfl, hk x hx⟩)
theorem rowI_at {w : World} {S : Nat → Prop} {o : Bool} {a : Option Addr} {n c : Nat} {l : List Int} (h : (kRow kInt).is o w S [.slice a n c] l) {i : Nat} {x : Int} (hx : l[i]? = some x) : ∃ b off, a = some ⟨b, off, none⟩ ∧ b < w.heap.size ∧ S b ∧ w.cell? ⟨b, off + i, none⟩ = some (.int .i64 x) := by
  obtain ⟨b, off, B, C, e, hb, hS, hk, _, hc⟩ := row_at h hx
  obtain ⟨rfl, _⟩ := hk
  refine ⟨b, off, e, hb, hS, ?_⟩
  have := (hc 0 _ rfl).1
  rw [show off + i * kInt.wd + 0 = off + i by show off + i * 1 + 0 = _; omega] at this
  exact this
theorem row_cap {α : Type} {K : Kd α} {w : World} {S : Nat → Prop} {a : Option Addr} {n c : Nat} {l : List α} (h : (kRow K).is true w S [.slice a n c] l) : n ≤ c := by
  have hn := row_len h
  obtain ⟨_, _, e, _, h⟩ := row_form h
  simp only [List.cons.injEq, Value.slice.injEq, and_true] at e
  have := h rfl
  omega
end Go.Proofs.Ytdlodeklheapgaa
