/- Copies cloned, and some of them written into: both sides. No condition but that rows fit in memory. -/
import Derived.Test.YtbkdkiodkcpbeaaQuB
import Derived.Test.YtbkdkiodkcpbeaaQuH
import Derived.Sort.Grow
namespace Go.Proofs.Ytbkdkiodkcpbeaa
open Go.RowKit
set_option linter.unusedVariables false

/-- A copy, its cells. -/
def cpC (y : DCopy) : List Value := [.int .i64 y.1, .int .i64 y.2.1, .string y.2.2]
theorem cpC_one (x : DCopy) : ∀ u ∈ cpC x, u.oneCell' = true := by
  intro u hu
  simp [cpC] at hu
  rcases hu with rfl | rfl | rfl <;> rfl
theorem cpC_is {w : World} {S : Nat → Prop} {C : List Value} {x : DCopy} (h : kCopy.is false w S C x) : C = cpC x := by
  obtain ⟨x0, x1, x2⟩ := x
  exact (kCopy_open h).1
theorem infoCpA : (Try.prog.info? 40).map (fun i => (i.zero, i.size, i.bytes)) = some (some (.agg #[.int .i64 0, .int .i64 0, .string ⟨#[]⟩]), 3, 32) := by kernel_rfl
theorem app_cps {w : World} {ops : Array Oper} {rest : List Oper} {o : Oper} {a : Act} {Q : Exit → Act → World → Prop} (hgd : o.guard = none) (s x : Operand)
    (ho : o.op = .call { callee := .builtin .append, args := #[s, x], argTypes := #[23, 23] })
    (B : Nat) (v : Value) (l : List DCopy) (hs : a.eval s = v) (hown : OwnL cpC 40 3 w B v l) (ra : Option Addr) (n c : Nat) (S : Nat → Prop) (l' : List DCopy) (hx : a.eval x = .slice ra n c) (hr : (kRow kCopy).is false w S [.slice ra n c] l')
    (hL : l.length + l'.length ≤ 2 ^ 30) (hbase : B ≤ w.heap.size)
    (h : ∀ v' w', OwnL cpC 40 3 w' B v' (l ++ l') → Below B w w' → GrewO w w' v v' → wpList Try.prog ops Q rest (a.put o.dst v') w') : wpList Try.prog ops Q (o :: rest) a w := by
  obtain ⟨i0, hi, hz0, hz1, hz2⟩ := info_parts infoCpA
  exact wpList_appR (K := kCopy) cpC hgd s x 23 ho B 40 i0 _ 32 Try.underlying23 hi hz0 hz1 hz2 rfl (by decide) (by decide) (fun _ => rfl) cpC_is cpC_one v l hs hown ra n c S l' hx hr hL hbase h
theorem app_cp {w : World} {ops : Array Oper} {rest : List Oper} {o : Oper} {a : Act} {Q : Exit → Act → World → Prop} (hgd : o.guard = none) (s x : Operand)
    (ho : o.op = .call { callee := .builtin .append, args := #[s, x], argTypes := #[23, 23] })
    (B : Nat) (v : Value) (l : List DCopy) (hs : a.eval s = v) (hown : OwnL cpC 40 3 w B v l) (b : Nat) (y : DCopy) (hx : a.eval x = .slice (some ⟨b, 0, none⟩) 1 1) (hc0 : w.cell? ⟨b, 0, none⟩ = some (.int .i64 y.1)) (hc1 : w.cell? ⟨b, 1, none⟩ = some (.int .i64 y.2.1)) (hc2 : w.cell? ⟨b, 2, none⟩ = some (.string y.2.2))
    (hL : l.length < 2 ^ 30) (hbase : B ≤ w.heap.size)
    (h : ∀ v' w', OwnL cpC 40 3 w' B v' (l ++ [y]) → Below B w w' → Grew w w' v v' → wpList Try.prog ops Q rest (a.put o.dst v') w') : wpList Try.prog ops Q (o :: rest) a w := by
  obtain ⟨i0, hi, hz0, hz1, hz2⟩ := info_parts infoCpA
  exact wpList_app1 cpC hgd s x 23 ho B 40 i0 _ 3 32 Try.underlying23 hi hz0 hz1 hz2 rfl (by decide) (by decide) v l hs hown b y hx rfl (cpC_one y) (fun j u hj => by
    match j, hj with
    | 0, hj => obtain rfl : Value.int .i64 y.1 = u := by simpa [cpC] using hj
               exact hc0
    | 1, hj => obtain rfl : Value.int .i64 y.2.1 = u := by simpa [cpC] using hj
               exact hc1
    | 2, hj => obtain rfl : Value.string y.2.2 = u := by simpa [cpC] using hj
               exact hc2) hL hbase h
/-- What every copy is, that lies in memory. -/
def CpI (x : DCopy) : Prop := IntOk x.1 ∧ IntOk x.2.1 ∧ x.2.2.size ≤ maxLen
theorem row_cpi {w : World} {S : Nat → Prop} {o : Bool} {a : Option Addr} {n c : Nat} {l : List DCopy} (h : (kRow kCopy).is o w S [.slice a n c] l) : ∀ x ∈ l, CpI x := by
  intro x hx
  obtain ⟨i, hi⟩ := List.getElem?_of_mem hx
  obtain ⟨b, off, B, C, _, _, _, hk, _⟩ := row_at h hi
  obtain ⟨x0, x1, x2⟩ := x
  obtain ⟨_, h1, h2, h3⟩ := kCopy_open hk
  exact ⟨h1, h2, h3⟩
theorem cp_shut {x : DCopy} {o : Bool} {w : World} {S : Nat → Prop} (h : CpI x) : kCopy.is o w S (cpC x) x := by
  obtain ⟨x0, x1, x2⟩ := x
  exact kCopy_shut h.1 h.2.1 h.2.2
/-- A row that grew is a row of one's own. -/
theorem own_cps {w : World} {B : Nat} {a : Option Addr} {n c : Nat} {l : List DCopy} (h : OwnL cpC 40 3 w B (.slice a n c) l) (hl : l.length ≤ 2 ^ 30) (hk : ∀ x ∈ l, CpI x) : (kRow kCopy).is true w (fun k => B ≤ k) [.slice a n c] l :=
  own_kRow (K := kCopy) (fun _ => rfl) h (by unfold maxLen; omega) (fun x hx W S => cp_shut (hk x hx))
theorem heap_new (w : World) (o : Obj) : (w.alloc o).heap[w.heap.size]? = some o := by
  show (w.heap.push o)[w.heap.size]? = some o
  simp
theorem own_empC (w : World) (B : Nat) (hB : B ≤ w.heap.size) : OwnL cpC 40 3 (w.alloc (.cells #[] 40)) B (.slice (some ⟨w.heap.size, 0, none⟩) 0 0) [] :=
  ⟨by simp, .inr ⟨w.heap.size, 0, #[], rfl, hB, heap_new w _, Nat.le_refl _, Nat.zero_le _, by simp, by simp⟩⟩
set_option maxRecDepth 100000 in
set_option maxHeartbeats 4000000 in
theorem cloneC_k (l : List DCopy) (a : Option Addr) (n c : Nat) (S : Nat → Prop) (w : World) (h : (kRow kCopy).is false w S [.slice a n c] l) (hn : n ≤ 7) :
    Calls Try.prog 77 #[.slice a n c] w fun e w' => ∃ a' c', e = .returned (.slice a' n c') ∧ (kRow kCopy).is true w' (fun k => w.heap.size ≤ k) [.slice a' n c'] l ∧ Below w.heap.size w w' := by
  have HR : Hid ((kRow kCopy).is false w S [.slice a n c] l) := h
  have HI : Hid (∀ x ∈ l, CpI x) := row_cpi h
  have HN : Hid (n = l.length) := row_len h
  have hl7 : l.length ≤ 7 := by rw [← HN.out]; exact hn
  clear h
  cases a with
  | none =>
    have HL : Hid (l = []) := by
      cases l with
      | nil => exact rfl
      | cons x t =>
        obtain ⟨_, _, e, _⟩ := rowC_at HR.out (k := 0) (by rw [HN.out]; simp)
        cases e
    have hn0 : n = 0 := by rw [HN.out, HL.out]; rfl
    subst hn0
    have hnil : ∀ w : World, (binOp .eql 23 (.slice none 0 c) (.slice none 0 0)).run Try.prog w = .ok (.bool true) w := fun w => by kernel_rfl
    go_enter Try.func77, Try.ntmps77
    go_wp2
    go_ret
    exact ⟨none, 0, rfl, by rw [HL.out]; exact row_nil _ _ _ _ _ _, Below.refl _ _⟩
  | some ad =>
    have HOE : Hid (OwnL cpC 40 3 (w.alloc (.cells #[] 40)) w.heap.size (.slice (some ⟨w.heap.size, 0, none⟩) 0 0) []) := own_empC w w.heap.size (Nat.le_refl _)
    have HR1 : Hid ((kRow kCopy).is false (w.alloc (.cells #[] 40)) S [.slice (some ad) n c] l) := Kd.below HR.out (below_a1q _ _)
    have hnil : ∀ w : World, (binOp .eql 23 (.slice (some ad) n c) (.slice none 0 0)).run Try.prog w = .ok (.bool false) w := fun w => by kernel_rfl
    go_enter Try.func77, Try.ntmps77
    go_wp2_with (first | (at_builtin; go_loud (refine app_cps rfl _ _ rfl w.heap.size _ [] rfl HOE.out (some ad) n c S l rfl HR1.out (by simp; omega) (by simp) ?_)))
    intro v3 w3 ho3 hb3 _
    obtain ⟨a3, c3, rfl, _⟩ := ho3.form
    have HO : Hid (OwnL cpC 40 3 w3 w.heap.size (.slice a3 l.length c3) l) := ho3
    have HB : Hid (Below w.heap.size w w3) := (below_a1q _ _).trans hb3
    clear ho3 hb3
    go_wp2
    go_ret
    exact ⟨a3, c3, by rw [HN.out]; rfl, by rw [HN.out]; exact own_cps HO.out (by omega) HI.out, HB.out⟩
/-- A copy of a row of one's own, its Version and its Text written anew. -/
theorem rowC_put {w : World} {S : Nat → Prop} {a : Option Addr} {n c : Nat} {l : List DCopy} (h : (kRow kCopy).is true w S [.slice a n c] l) {k : Nat} (hk : k < n) (y : Int) (t : ByteArray) (hy : IntOk y) (ht : t.size ≤ maxLen) :
    ∃ b o, a = some ⟨b, o, none⟩ ∧ b < w.heap.size ∧ S b ∧ (w.cell? ⟨b, o + k * 3 + 1, none⟩).isSome = true ∧ (w.cell? ⟨b, o + k * 3 + 2, none⟩).isSome = true ∧ w.frozen? ⟨b, o + k * 3 + 1, none⟩ = false ∧ w.frozen? ⟨b, o + k * 3 + 2, none⟩ = false ∧
      ∃ v1 v2, w.cell? ⟨b, o + k * 3 + 1, none⟩ = some (.int .i64 v1) ∧ w.cell? ⟨b, o + k * 3 + 2, none⟩ = some (.string v2) ∧
      (kRow kCopy).is true ((w.setCell ⟨b, o + k * 3 + 1, none⟩ (.int .i64 y)).setCell ⟨b, o + k * 3 + 2, none⟩ (.string t)) S [.slice a n c] (l.set k ((cp l k).1, y, t)) ∧
      KeptO S w ((w.setCell ⟨b, o + k * 3 + 1, none⟩ (.int .i64 y)).setCell ⟨b, o + k * 3 + 2, none⟩ (.string t)) := by
  have hl := row_len h
  obtain ⟨b, o, B, C, e, hb, hS, hBb, hi, hBS, hc, hput⟩ := row_put h (cp_at (show k < l.length by omega))
  generalize cp l k = x at *
  obtain ⟨x1, x2, x3⟩ := x
  obtain ⟨rfl, g1, g2, g3⟩ := kCopy_open hi
  have c0 := (hc 0 _ rfl).1
  have c1 := hc 1 _ rfl
  have c2 := hc 2 _ rfl
  have hwd : kCopy.wd = 3 := rfl
  rw [hwd] at c0 c1 c2 hput
  have hon : OnlyO B b (o + k * 3) (o + k * 3 + 3) w ((w.setCell ⟨b, o + k * 3 + 1, none⟩ (.int .i64 y)).setCell ⟨b, o + k * 3 + 2, none⟩ (.string t)) := (OnlyO.set w _ (by omega) (by omega)).thenSet (by omega) (by omega)
  refine ⟨b, o, e, hb, hS, by rw [c1.1]; rfl, by rw [c2.1]; rfl, c1.2, c2.2, x2, x3, c1.1, c2.1, ?_, ?_⟩
  · refine hput _ (x1, y, t) (cpC (x1, y, t)) hon (cp_shut ⟨g1, hy, ht⟩) ?_
    intro j v hj
    match j, hj with
    | 0, hj => obtain rfl : Value.int .i64 x1 = v := by simpa [cpC] using hj
               exact set_other (set_other c0 (by omega)) (by omega)
    | 1, hj => obtain rfl : Value.int .i64 y = v := by simpa [cpC] using hj
               exact set_other (set_same c1.1) (by omega)
    | 2, hj => obtain rfl : Value.string t = v := by simpa [cpC] using hj
               exact set_same (set_other c2.1 (by omega))
  · exact (hon.to (S' := fun q => q = b ∨ B q) (.inl rfl) (fun q h => .inr h)).mono fun q h => h.elim (fun e => e ▸ hS) (fun h => hBS q h)
/-- Three cells of a block. -/
structure Tri (w : World) (g : Nat) (v0 v1 v2 : Value) : Prop where
  c0 : w.cell? ⟨g, 0, none⟩ = some v0
  c1 : w.cell? ⟨g, 1, none⟩ = some v1
  c2 : w.cell? ⟨g, 2, none⟩ = some v2
  f0 : w.frozen? ⟨g, 0, none⟩ = false
  f1 : w.frozen? ⟨g, 1, none⟩ = false
  f2 : w.frozen? ⟨g, 2, none⟩ = false
theorem Tri.lt {w : World} {g : Nat} {v0 v1 v2 : Value} (h : Tri w g v0 v1 v2) : g < w.heap.size := World.block_lt_of_cell? _ _ h.c0
theorem Tri.keep {w w' : World} {g : Nat} {v0 v1 v2 : Value} (h : Tri w g v0 v1 v2) (hb : w'.heap[g]? = w.heap[g]?) : Tri w' g v0 v1 v2 :=
  ⟨(World.cell?_of_block hb).trans h.c0, (World.cell?_of_block hb).trans h.c1, (World.cell?_of_block hb).trans h.c2, (World.frozen?_of_block hb).trans h.f0, (World.frozen?_of_block hb).trans h.f1, (World.frozen?_of_block hb).trans h.f2⟩
theorem Tri.below {w w' : World} {g : Nat} {v0 v1 v2 : Value} (h : Tri w g v0 v1 v2) (hb : Below w.heap.size w w') : Tri w' g v0 v1 v2 := h.keep (hb.block g h.lt)
def put3 (w : World) (g : Nat) (v0 v1 v2 : Value) : World := ((w.setCell ⟨g, 0, none⟩ v0).setCell ⟨g, 1, none⟩ v1).setCell ⟨g, 2, none⟩ v2
theorem Tri.put {w : World} {g : Nat} {v0 v1 v2 : Value} (h : Tri w g v0 v1 v2) (u0 u1 u2 : Value) : Tri (put3 w g u0 u1 u2) g u0 u1 u2 := by
  unfold put3
  refine ⟨?_, ?_, ?_, ?_, ?_, ?_⟩
  · exact set_other (set_other (set_same h.c0) (by omega)) (by omega)
  · exact set_other (set_same (set_other h.c1 (by omega))) (by omega)
  · exact set_same (set_other (set_other h.c2 (by omega)) (by omega))
  · exact frozen_set (frozen_set (frozen_set h.f0))
  · exact frozen_set (frozen_set (frozen_set h.f1))
  · exact frozen_set (frozen_set (frozen_set h.f2))
theorem put3_size (w : World) (g : Nat) (u0 u1 u2 : Value) : (put3 w g u0 u1 u2).heap.size = w.heap.size := by simp [put3, World.setCell]
theorem put3_block (w : World) (g : Nat) (u0 u1 u2 : Value) {k : Nat} (h : k ≠ g) : (put3 w g u0 u1 u2).heap[k]? = w.heap[k]? := by
  unfold put3
  rw [heap_set_ne h, heap_set_ne h, heap_set_ne h]
theorem put3_kept (w : World) (g : Nat) (u0 u1 u2 : Value) : KeptO (fun k => k = g) w (put3 w g u0 u1 u2) :=
  ⟨rfl, rfl, rfl, by rw [put3_size]; exact Nat.le_refl _, fun k _ hn => put3_block w g u0 u1 u2 hn⟩
theorem below_put3 {B : Nat} {a w : World} (h : Below B a w) {g : Nat} (hg : B ≤ g) (u0 u1 u2 : Value) : Below B a (put3 w g u0 u1 u2) :=
  ⟨h.os, h.tape, h.output, by rw [put3_size]; exact h.size, fun k hk => (put3_block w g u0 u1 u2 (by omega)).trans (h.block k hk)⟩
theorem alloc_tri (w : World) (v0 v1 v2 : Value) (ty : TypeId) : Tri (w.alloc (.cells #[v0, v1, v2] ty)) w.heap.size v0 v1 v2 := by
  refine ⟨?_, ?_, ?_, ?_, ?_, ?_⟩ <;> simp [go_sem]
/-- A voting of one's own in memory. -/
def VotAt (w : World) (B : Nat) (C : List Value) (v : DVoting) : Prop := ∃ (a : Option Addr) (n c : Nat), C = [.slice a n c, .int .i64 v.2.1, .int .i64 v.2.2] ∧ (kRow kCopy).is true w (fun k => B ≤ k) [.slice a n c] v.1
theorem vot_shut {w : World} {B : Nat} {a : Option Addr} {n c : Nat} {v : DVoting} (h : (kRow kCopy).is true w (fun k => B ≤ k) [.slice a n c] v.1) (h1 : IntOk v.2.1) (h2 : IntOk v.2.2) : kVoting.is true w (fun k => B ≤ k) [.slice a n c, .int .i64 v.2.1, .int .i64 v.2.2] v := by
  obtain ⟨l, r, s⟩ := v
  have hn := row_len h
  subst hn
  obtain ⟨_, _, e, hm, _⟩ := row_form h
  exact kVoting_shut h1 h2 h (fun k h => h)
/-- While it is written. -/
structure HoAt (w wr : World) (a : Option Addr) (n c : Nat) (r t : Int) (L : List DCopy) : Prop where
  row : (kRow kCopy).is true wr (fun k => w.heap.size + 2 ≤ k) [.slice a n c] L
  c0 : wr.cell? ⟨w.heap.size, 0, none⟩ = some (.slice a n c)
  c1 : wr.cell? ⟨w.heap.size, 1, none⟩ = some (.int .i64 r)
  c2 : wr.cell? ⟨w.heap.size, 2, none⟩ = some (.int .i64 t)
  r0 : wr.cell? ⟨w.heap.size + 1, 0, none⟩ = some (.slice none 0 0)
  r1 : wr.cell? ⟨w.heap.size + 1, 1, none⟩ = some (.int .i64 0)
  r2 : wr.cell? ⟨w.heap.size + 1, 2, none⟩ = some (.int .i64 0)
  f0 : wr.frozen? ⟨w.heap.size + 1, 0, none⟩ = false
  f1 : wr.frozen? ⟨w.heap.size + 1, 1, none⟩ = false
  f2 : wr.frozen? ⟨w.heap.size + 1, 2, none⟩ = false
  bel : Below w.heap.size w wr
  siz : w.heap.size + 2 ≤ wr.heap.size
theorem HoAt.kept {w wr w' : World} {a : Option Addr} {n c : Nat} {r t : Int} {L L' : List DCopy} (h : HoAt w wr a n c r t L) (hk : KeptO (fun k => w.heap.size + 2 ≤ k) wr w') (hr : (kRow kCopy).is true w' (fun k => w.heap.size + 2 ≤ k) [.slice a n c] L') : HoAt w w' a n c r t L' := by
  have hs := h.siz
  have hb : ∀ k, k < w.heap.size + 2 → w'.heap[k]? = wr.heap[k]? := fun k hk' => hk.block k (by omega) (by omega)
  have BC : ∀ k o, k < w.heap.size + 2 → w'.cell? ⟨k, o, none⟩ = wr.cell? ⟨k, o, none⟩ := fun k o hk => World.cell?_of_block (hb k hk)
  have BF : ∀ k o, k < w.heap.size + 2 → w'.frozen? ⟨k, o, none⟩ = wr.frozen? ⟨k, o, none⟩ := fun k o hk => World.frozen?_of_block (hb k hk)
  refine ⟨hr, (BC _ _ (by omega)).trans h.c0, (BC _ _ (by omega)).trans h.c1, (BC _ _ (by omega)).trans h.c2, (BC _ _ (by omega)).trans h.r0, (BC _ _ (by omega)).trans h.r1, (BC _ _ (by omega)).trans h.r2, (BF _ _ (by omega)).trans h.f0, (BF _ _ (by omega)).trans h.f1, (BF _ _ (by omega)).trans h.f2, h.bel.trans (hk.below h.bel.size (fun k hk' h' => by omega)), by have := hk.size; omega⟩
set_option maxRecDepth 100000 in
set_option maxHeartbeats 4000000 in
theorem holding_k (l : List DCopy) (a : Option Addr) (n c : Nat) (S : Nat → Prop) (r t : Int) (s : List Int) (a1 : Option Addr) (n1 c1 : Nat) (S1 : Nat → Prop) (y : Int) (tx : ByteArray) (w : World) (h : (kRow kCopy).is false w S [.slice a n c] l) (hn7 : n ≤ 7) (h1 : (kRow kInt).is false w S1 [.slice a1 n1 c1] s) (hs : someOk s n = true) (hy : IntOk y) (ht : tx.size ≤ 12) :
    Calls Try.prog 47 #[.agg #[.slice a n c, .int .i64 r, .int .i64 t], .slice a1 n1 c1, .int .i64 y, .string tx] w fun e w' => ∃ a' c', e = .returned (.agg #[.slice a' n c', .int .i64 r, .int .i64 t]) ∧ (kRow kCopy).is true w' (fun k => w.heap.size ≤ k) [.slice a' n c'] (hol l s y tx n1) ∧ Below w.heap.size w w' := by
  have HN1 : Hid (n1 = s.length) := row_len h1
  have hmx := row_max h1
  have H : Hid ((kRow kCopy).is false w S [.slice a n c] l) := h
  have H1 : Hid ((kRow kInt).is false w S1 [.slice a1 n1 c1] s) := h1
  have HS : Hid (someTil s n s.length = true) := hs
  have HNL : Hid (n = l.length) := row_len h
  have HTX : Hid (tx.size ≤ maxLen) := by show tx.size ≤ maxLen; unfold maxLen; omega
  have HY : Hid (IntOk y) := hy
  clear h h1 hs hy
  go_enter Try.func47, Try.ntmps47
  go_wp2_with fail
  obtain ⟨W0, hW0⟩ : ∃ W, W = (w.alloc (.cells #[.slice a n c, .int .i64 r, .int .i64 t] 25)).alloc (.cells #[.slice none 0 0, .int .i64 0, .int .i64 0] 25) := ⟨_, rfl⟩
  have C : (W0.cell? ⟨w.heap.size, 0, none⟩ = some (.slice a n c) ∧ W0.cell? ⟨w.heap.size, 1, none⟩ = some (.int .i64 r) ∧ W0.cell? ⟨w.heap.size, 2, none⟩ = some (.int .i64 t)) ∧ (W0.frozen? ⟨w.heap.size, 0, none⟩ = false) ∧ (W0.cell? ⟨w.heap.size + 1, 0, none⟩ = some (.slice none 0 0) ∧ W0.cell? ⟨w.heap.size + 1, 1, none⟩ = some (.int .i64 0) ∧ W0.cell? ⟨w.heap.size + 1, 2, none⟩ = some (.int .i64 0)) ∧ W0.frozen? ⟨w.heap.size + 1, 0, none⟩ = false ∧ W0.frozen? ⟨w.heap.size + 1, 1, none⟩ = false ∧ W0.frozen? ⟨w.heap.size + 1, 2, none⟩ = false := by rw [hW0]; simp [go_sem]
  have HB0 : Hid (Below w.heap.size w W0) := by show Below _ _ _; rw [hW0]; exact below_a2q _ _ _
  have hz0 : W0.heap.size = w.heap.size + 2 := by rw [hW0]; simp
  rw [← hW0]
  clear hW0
  refine (cloneC_k l a n c S W0 (Kd.below H.out HB0.out) hn7).mono ?_
  rintro e w1 ⟨a', c', rfl, hr, hb1⟩
  have hb : ∀ k, k < W0.heap.size → w1.heap[k]? = W0.heap[k]? := hb1.block
  have BC : ∀ k o, k < W0.heap.size → w1.cell? ⟨k, o, none⟩ = W0.cell? ⟨k, o, none⟩ := fun k o hk => World.cell?_of_block (hb k hk)
  have BF : ∀ k o, k < W0.heap.size → w1.frozen? ⟨k, o, none⟩ = W0.frozen? ⟨k, o, none⟩ := fun k o hk => World.frozen?_of_block (hb k hk)
  obtain ⟨⟨C0, C1, C2⟩, CF, ⟨R0, R1, R2⟩, F0, F1, F2⟩ := C
  rw [← BC _ _ (by omega)] at C0 C1 C2 R0 R1 R2
  rw [← BF _ _ (by omega)] at CF F0 F1 F2
  have HB1 : Hid (Below w.heap.size w w1) := HB0.out.trans (hb1.mono HB0.out.size)
  have HR1 : Hid ((kRow kCopy).is true w1 (fun k => w.heap.size + 2 ≤ k) [.slice a' n c'] l) := by show (kRow kCopy).is _ _ _ _ _; rw [← hz0]; exact hr
  have hz1 : w.heap.size + 2 ≤ w1.heap.size := by have := hb1.size; omega
  have HH0 : Hid (HoAt w (w1.setCell ⟨w.heap.size, 0, none⟩ (.slice a' n c')) a' n c' r t l) := by
    have hkk : KeptO (fun k => k = w.heap.size) w1 (w1.setCell ⟨w.heap.size, 0, none⟩ (.slice a' n c')) := ⟨rfl, rfl, rfl, by simp, fun k hk hn => heap_set_ne hn⟩
    have hne : w.heap.size + 1 ≠ w.heap.size := by omega
    exact ⟨Kd.kept HR1.out hkk (fun k _ h e => by omega), set_same C0, set_other C1 (by omega), set_other C2 (by omega), cell_keptO hkk R0 hne, cell_keptO hkk R1 hne, cell_keptO hkk R2 hne, frozen_keptO hkk R0 F0 hne, frozen_keptO hkk R1 F1 hne, frozen_keptO hkk R2 F2 hne, HB1.out.trans (hkk.below (B := w.heap.size) (by omega) (fun k hk e => by omega)), by simp; omega⟩
  clear hr hb1 hb BC BF hz0 HB0 HR1 HB1
  go_wp2_with fail
  generalize w1.setCell ⟨w.heap.size, 0, none⟩ (.slice a' n c') = W2 at *
  clear C0 C1 C2 R0 R1 R2 CF F0 F1 F2 hz1
  go_loopw [17] (fun iv wr => ∃ j : Nat, j ≤ n1 ∧ iv = .int .i64 j ∧ Hid (HoAt w wr a' n c' r t (hol l s y tx j))) (fun iv _ => n1 - (intOf iv).toNat)
  case atStart => exact ⟨0, Nat.zero_le _, rfl, HH0⟩
  case round =>
    obtain ⟨j, hj, rfl, HA⟩ := hrel
    have E0 := HA.out.c0
    have hsz := HA.out.siz
    by_cases hlt : j < n1
    · obtain ⟨b1, o1, rfl, hb1, A0, _⟩ := rowN_at (Kd.below H1.out HA.out.bel) hlt
      obtain ⟨e1, hkn⟩ := some_nat HS.out (show j < s.length by rw [← HN1.out]; exact hlt)
      have HW : Hid (hol l s y tx (j + 1) = (hol l s y tx j).set (nat s j) ((cp l (nat s j)).1, y, tx)) := rfl
      have HWT : Hid ((cp (hol l s y tx j) (nat s j)).1 = (cp l (nat s j)).1) := by
        show _ = _
        rw [hol_cp HS.out (by rw [← HNL.out]; exact hkn) (by rw [← HN1.out]; omega)]
        split <;> rfl
      rw [e1] at A0
      clear e1
      generalize nat s j = k at *
      obtain ⟨b, o, rfl, hbl, hbS, _, _, q1, q2, v1, v2, p1, p2, hrow, hkp⟩ := rowC_put HA.out.row hkn y tx HY.out HTX.out
      rw [HWT.out, ← HW.out] at hrow
      have HN : Hid (HoAt w ((wr.setCell ⟨b, o + k * 3 + 1, none⟩ (.int .i64 y)).setCell ⟨b, o + k * 3 + 2, none⟩ (.string tx)) (some ⟨b, o, none⟩) n c' r t (hol l s y tx (j + 1))) := HA.out.kept hkp hrow
      have hbS' : w.heap.size + 2 ≤ b := hbS
      have i0 : (j : Int) < (n1 : Int) := by omega
      have i1 : (0 : Int) ≤ (j : Int) := by omega
      have i2 : (k : Int) < (n : Int) := by omega
      have i3 : (0 : Int) ≤ (k : Int) := by omega
      clear hrow hkp
      go_wp2
      go_roundw
      case rel => exact ⟨j + 1, by omega, by go_num, HN⟩
      case measure => simp [intOf]; omega
    · obtain rfl : j = n1 := by omega
      have i0 : ¬ (j : Int) < (j : Int) := by omega
      obtain ⟨hrow, g0, g1, g2, k0, k1, k2, f0, f1, f2, hbel, _⟩ := HA.out
      have HRW : Hid ((kRow kCopy).is true wr (fun k => w.heap.size + 2 ≤ k) [.slice a' n c'] (hol l s y tx j)) := hrow
      have HBL : Hid (Below w.heap.size w wr) := hbel
      clear hrow hbel
      have HT : Hid (Tri wr (w.heap.size + 1) (.slice none 0 0) (.int .i64 0) (.int .i64 0)) := ⟨k0, k1, k2, f0, f1, f2⟩
      go_wp2
      have q := HT.out.put (.slice a' n c') (.int .i64 r) (.int .i64 t)
      obtain ⟨Q0, Q1, Q2, _, _, _⟩ := q
      have hk := put3_kept wr (w.heap.size + 1) (.slice a' n c') (.int .i64 r) (.int .i64 t)
      have hb := below_put3 HBL.out (show w.heap.size ≤ w.heap.size + 1 by omega) (.slice a' n c') (.int .i64 r) (.int .i64 t)
      unfold put3 at Q0 Q1 Q2 hk hb
      refine bodyPost_ret (v := .agg #[.slice a' n c', .int .i64 r, .int .i64 t]) (by simp [results, Try.results47, go_sem, Q0, Q1, Q2]) rfl ?_
      exact ⟨a', c', rfl, Kd.mono (Kd.kept HRW.out hk (fun q _ h e => by omega)) (fun q hq => by omega), hb⟩
end Go.Proofs.Ytbkdkiodkcpbeaa
