/- Rows of terms while they are built. Terms put behind others, kids' numbers so much more: the program's appendTerms. -/
import Derived.Test.YtjohocnfcnjciaaGreatDoorFilTo
import Derived.Deep.AppendLies
import Derived.Laws.OwnMore
import Derived.Lib.AppendZeros
import Derived.Test.YtjohocnfcnjciaaGreatDoorQuote
namespace Go.Proofs.YtjohocnfcnjciaaGreatDoor
open Go.RowKit
set_option linter.unusedVariables false

/-- The cells of the first n elements. -/
def rowL (f : Nat → List Value) : Nat → List Value
  | 0 => []
  | n + 1 => rowL f n ++ f n
theorem rowL_len {f : Nat → List Value} {k : Nat} (hf : ∀ i, (f i).length = k) : ∀ n, (rowL f n).length = n * k := by
  intro n
  induction n with
  | zero => simp [rowL]
  | succ n ih => rw [rowL, List.length_append, ih, hf, Nat.succ_mul]
theorem rowL_get {f : Nat → List Value} {k : Nat} (hf : ∀ i, (f i).length = k) : ∀ n i j, i < n → j < k → (rowL f n)[i * k + j]? = (f i)[j]? := by
  intro n
  induction n with
  | zero => intro i j h; omega
  | succ n ih =>
    intro i j hi hj
    rw [rowL]
    have hl := rowL_len hf n
    by_cases e : i = n
    · subst e
      rw [List.getElem?_append_right (by omega), hl]
      congr 1
      omega
    · have hlt : i * k + j < n * k := by
        have : (i + 1) * k ≤ n * k := Nat.mul_le_mul_right k (by omega)
        rw [Nat.succ_mul] at this
        omega
      rw [List.getElem?_append_left (by omega)]
      exact ih i j (by omega) hj
theorem rowL_ones {f : Nat → List Value} (hf : ∀ i, ∀ u ∈ f i, u.oneCell' = true) : ∀ n, ∀ u ∈ rowL f n, u.oneCell' = true := by
  intro n
  induction n with
  | zero => intro u h; simp [rowL] at h
  | succ n ih =>
    intro u h
    rw [rowL, List.mem_append] at h
    rcases h with h | h
    · exact ih u h
    · exact hf n u h
theorem rowL_same {f g : Nat → List Value} : ∀ n, (∀ i, i < n → f i = g i) → rowL f n = rowL g n := by
  intro n
  induction n with
  | zero => intro _; rfl
  | succ n ih => intro h; rw [rowL, rowL, ih (fun i hi => h i (by omega)), h n (by omega)]

def ndC (x : Nd) : List Value := [.int .i64 x.kind, .int .i64 x.num, .string x.text, .string x.name, .int .i64 x.up]
def tcC (x : Tc) : List Value := [.int .i64 x.kind, .string x.path, .slice x.va x.vn x.vc, .slice x.ka x.km x.kc]
def nodeL (N : Nat → Nd) (n : Nat) : List Value := rowL (fun i => ndC (N i)) n
def kidL (K : Nat → Int) (n : Nat) : List Value := rowL (fun i => [.int .i64 (K i)]) n
def termL (R : Nat → Tc) (n : Nat) : List Value := rowL (fun i => tcC (R i)) n

theorem row_open {w : World} {B : Nat} {e : TypeId} {z : Nat} {v : Value} {n : Nat} {xs : List Value} (h : w.ownsRow B e z v n xs) : (v = .slice none 0 0 ∧ n = 0) ∨ ∃ g cap, v = .slice (some ⟨g, 0, none⟩) n cap ∧ B ≤ g ∧ g < w.heap.size ∧ n ≤ cap ∧ (∀ j, j < n * z → w.cell? ⟨g, j, none⟩ = xs[j]?) ∧ ∀ j, w.frozen? ⟨g, j, none⟩ = false := by
  have h0 := h
  rcases h.2 with h1 | ⟨g, cap, cur, rfl, hb, hg, hc, _, _, _⟩
  · exact .inl h1
  · exact .inr ⟨g, cap, rfl, hb, (Array.getElem?_eq_some_iff.1 hg).1, hc, fun j hj => h0.cellAt j hj, fun j => by simp [World.frozen?, hg]⟩

theorem own_nodeL {w : World} {B : Nat} {v : Value} {n : Nat} {N : Nat → Nd} (h : w.ownsRow B 94 5 v n (nodeL N n)) (hn : n ≤ 2 ^ 30) : ∃ a c g, v = .slice a n c ∧ n ≤ c ∧ (n ≠ 0 → B ≤ g ∧ g < w.heap.size) ∧ OwnAt w g v n N := by
  rcases row_open h with ⟨rfl, rfl⟩ | ⟨g, cap, rfl, h1, h2, h3, h4, h5⟩
  · exact ⟨none, 0, 0, rfl, Nat.le_refl _, fun h => absurd rfl h, none, 0, 0, rfl, hn, .inl rfl⟩
  · refine ⟨_, cap, g, rfl, h3, fun _ => ⟨h1, h2⟩, _, cap, 0, rfl, hn, .inr ⟨rfl, h2, fun i hi => ?_, fun o _ => by rw [Nat.zero_add]; exact h5 o⟩⟩
    have q : ∀ j, j < 5 → w.cell? ⟨g, 0 + i * 5 + j, none⟩ = (ndC (N i))[j]? := fun j hj => by
      rw [Nat.zero_add, h4 (i * 5 + j) (by omega)]
      exact rowL_get (k := 5) (fun _ => rfl) n i j hi hj
    exact ⟨q 0 (by omega), q 1 (by omega), q 2 (by omega), q 3 (by omega), q 4 (by omega)⟩
theorem own_kidL {w : World} {B : Nat} {v : Value} {n : Nat} {K : Nat → Int} (h : w.ownsRow B 3 1 v n (kidL K n)) (hn : n ≤ 2 ^ 30) : ∃ a c g, v = .slice a n c ∧ n ≤ c ∧ (n ≠ 0 → B ≤ g ∧ g < w.heap.size) ∧ OwnK w g v n K := by
  rcases row_open h with ⟨rfl, rfl⟩ | ⟨g, cap, rfl, h1, h2, h3, h4, h5⟩
  · exact ⟨none, 0, 0, rfl, Nat.le_refl _, fun h => absurd rfl h, none, 0, rfl, hn, .inl rfl⟩
  · refine ⟨_, cap, g, rfl, h3, fun _ => ⟨h1, h2⟩, _, cap, rfl, hn, .inr ⟨rfl, h2, fun i hi => ⟨?_, h5 i⟩⟩⟩
    have := h4 i (by omega)
    rw [this]
    have q := rowL_get (f := fun i => [Value.int .i64 (K i)]) (k := 1) (fun _ => rfl) n i 0 hi (by omega)
    simpa [kidL] using q

/-- A row of k terms F, of its own from B on, while it is built. -/
def TBld (w : World) (B : Nat) (v : Value) (k : Nat) (F : Nat → Tm) : Prop := ∃ (R : Nat → Tc) (P Q : Nat → Nat), w.ownsRow B 90 4 v k (termL R k) ∧ (∀ i, i < k → TermOwn w (P i) (Q i) (R i) (F i)) ∧
  (∀ i, i < k → B ≤ P i ∧ Q i ≤ w.heap.size ∧ ∀ g, v.ownBlock = some g → g < P i ∨ Q i ≤ g) ∧ ∀ i j, i < j → j < k → Q i ≤ P j ∨ Q j ≤ P i
/-- Its cells told. -/
def TBldR (w : World) (B : Nat) (v : Value) (k : Nat) (F : Nat → Tm) (R : Nat → Tc) : Prop := ∃ (P Q : Nat → Nat), w.ownsRow B 90 4 v k (termL R k) ∧ (∀ i, i < k → TermOwn w (P i) (Q i) (R i) (F i)) ∧
  (∀ i, i < k → B ≤ P i ∧ Q i ≤ w.heap.size ∧ ∀ g, v.ownBlock = some g → g < P i ∨ Q i ≤ g) ∧ ∀ i j, i < j → j < k → Q i ≤ P j ∨ Q j ≤ P i
theorem TBld.rows {w : World} {B : Nat} {v : Value} {k : Nat} {F : Nat → Tm} (h : TBld w B v k F) : ∃ R, TBldR w B v k F R := h
theorem TBldR.row {w : World} {B : Nat} {v : Value} {k : Nat} {F : Nat → Tm} {R : Nat → Tc} (h : TBldR w B v k F R) : w.ownsRow B 90 4 v k (termL R k) := by
  obtain ⟨P, Q, h1, _⟩ := h
  exact h1
theorem tc_ones (x : Tc) : ∀ u ∈ tcC x, u.oneCell' = true := by
  intro u hu
  simp [tcC] at hu
  rcases hu with rfl | rfl | rfl | rfl <;> rfl
theorem tc_news (W : World) (x : Tc) (T : TypeId) : ∀ (j : Nat) (u : Value), (tcC x)[j]? = some u → (W.alloc (.cells #[.int .i64 x.kind, .string x.path, .slice x.va x.vn x.vc, .slice x.ka x.km x.kc] T)).cell? ((⟨W.heap.size, 0, none⟩ : Addr).add j) = some u := by
  intro j u hj
  rw [show ((⟨W.heap.size, 0, none⟩ : Addr).add j) = ⟨W.heap.size, j, none⟩ by unfold Addr.add; split <;> simp_all, World.cell?_alloc_new]
  simpa [tcC] using hj
theorem TBld.nil (w : World) (B : Nat) (F : Nat → Tm) : TBld w B (.slice none 0 0) 0 F := ⟨fun _ => zeroTc, fun _ => 0, fun _ => 0, World.ownsRow_nil _ _ _ _, fun i h => by omega, fun i h => by omega, fun i j _ h => by omega⟩
theorem TBld.form {w : World} {B : Nat} {v : Value} {k : Nat} {F : Nat → Tm} (h : TBld w B v k F) : ∃ a c, v = .slice a k c := by
  obtain ⟨R, P, Q, h1, _⟩ := h
  rcases row_open h1 with ⟨rfl, rfl⟩ | ⟨g, cap, rfl, _⟩
  · exact ⟨_, _, rfl⟩
  · exact ⟨_, _, rfl⟩
theorem TBld.own {w : World} {B : Nat} {v : Value} {k : Nat} {F : Nat → Tm} (h : TBld w B v k F) (hk : k ≤ 2 ^ 30) : ∃ a c b P Q, v = .slice a k c ∧ k ≤ c ∧ (k ≠ 0 → B ≤ b ∧ b < w.heap.size) ∧ (∀ i, i < k → B ≤ P i) ∧ FOwn w b a k F P Q := by
  obtain ⟨R, P, Q, h1, h2, h3, h4⟩ := h
  rcases row_open h1 with ⟨rfl, rfl⟩ | ⟨g, cap, rfl, g1, g2, g3, g4, g5⟩
  · exact ⟨none, 0, 0, P, Q, rfl, Nat.le_refl _, fun h => absurd rfl h, fun i hi => by omega, hk, .inl rfl, fun i hi => by omega, fun i j _ hj => by omega⟩
  · refine ⟨_, cap, g, P, Q, rfl, g3, fun _ => ⟨g1, g2⟩, fun i hi => (h3 i hi).1, hk, .inr ⟨rfl, g2, R, fun i hi => ?_, fun o _ => by rw [Nat.zero_add]; exact g5 o, h2⟩, fun i hi => ⟨(h3 i hi).2.2 g rfl, (h3 i hi).2.1⟩, h4⟩
    have q : ∀ j, j < 4 → w.cell? ⟨g, 0 + i * 4 + j, none⟩ = (tcC (R i))[j]? := fun j hj => by
      rw [Nat.zero_add, g4 (i * 4 + j) (by omega)]
      exact rowL_get (k := 4) (fun _ => rfl) k i j hi hj
    exact ⟨q 0 (by omega), q 1 (by omega), q 2 (by omega), q 3 (by omega)⟩

theorem row_keep {w w' : World} {B : Nat} {e : TypeId} {z : Nat} {v : Value} {n : Nat} {xs : List Value} (h : w.ownsRow B e z v n xs) (hb : Below w.heap.size w w') : w'.ownsRow B e z v n xs := by
  refine ⟨h.1, ?_⟩
  rcases h.2 with hn | ⟨g, cap, cur, rfl, hB, hgg, rest⟩
  · exact .inl hn
  · exact .inr ⟨g, cap, cur, rfl, hB, (hb.block g (Array.getElem?_eq_some_iff.1 hgg).1).trans hgg, rest⟩
theorem TBld.below {w w' : World} {B : Nat} {v : Value} {k : Nat} {F : Nat → Tm} (h : TBld w B v k F) (hb : Below w.heap.size w w') : TBld w' B v k F := by
  obtain ⟨R, P, Q, h1, h2, h3, h4⟩ := h
  exact ⟨R, P, Q, row_keep h1 hb, fun i hi => (h2 i hi).below hb, fun i hi => ⟨(h3 i hi).1, Nat.le_trans (h3 i hi).2.1 hb.size, (h3 i hi).2.2⟩, h4⟩
theorem TBld.same {w : World} {B : Nat} {v : Value} {k : Nat} {F G : Nat → Tm} (h : TBld w B v k F) (e : ∀ i, i < k → F i = G i) : TBld w B v k G := by
  obtain ⟨R, P, Q, h1, h2, h3, h4⟩ := h
  exact ⟨R, P, Q, h1, fun i hi => by rw [← e i hi]; exact h2 i hi, h3, h4⟩

theorem grown_own {w w' : World} {g : Nat} {row : Option Nat} {v : Value} {n : Nat} {N : Nat → Nd} (h : OwnAt w g v n N) (hg : w.grownBy w' row) (hne : n ≠ 0 → some g ≠ row) : OwnAt w' g v n N := by
  obtain ⟨a, c, off, rfl, hb, h0⟩ := h
  by_cases e : n = 0
  · exact ⟨a, c, off, rfl, hb, .inl e⟩
  rcases h0 with h0 | ⟨rfl, hlt, hat, hf⟩
  · exact absurd h0 e
  · refine ⟨_, c, off, rfl, hb, .inr ⟨rfl, Nat.lt_of_lt_of_le hlt hg.size, fun i hi => ?_, fun o ho => (hg.frozen_far _ hlt (hne e)).trans (hf o ho)⟩⟩
    obtain ⟨h0, h1, h2, h3, h4⟩ := hat i hi
    exact ⟨(hg.cell_far _ hlt (hne e)).trans h0, (hg.cell_far _ hlt (hne e)).trans h1, (hg.cell_far _ hlt (hne e)).trans h2, (hg.cell_far _ hlt (hne e)).trans h3, (hg.cell_far _ hlt (hne e)).trans h4⟩
theorem grown_kids {w w' : World} {g : Nat} {row : Option Nat} {v : Value} {n : Nat} {K : Nat → Int} (h : OwnK w g v n K) (hg : w.grownBy w' row) (hne : n ≠ 0 → some g ≠ row) : OwnK w' g v n K := by
  obtain ⟨a, c, rfl, hb, h0⟩ := h
  by_cases e : n = 0
  · exact ⟨a, c, rfl, hb, .inl e⟩
  rcases h0 with h0 | ⟨rfl, hlt, hat⟩
  · exact absurd h0 e
  · exact ⟨_, c, rfl, hb, .inr ⟨rfl, Nat.lt_of_lt_of_le hlt hg.size, fun i hi => ⟨(hg.cell_far _ hlt (hne e)).trans (hat i hi).1, (hg.frozen_far _ hlt (hne e)).trans (hat i hi).2⟩⟩⟩
theorem grown_term {w w' : World} {lo hi : Nat} {row : Option Nat} {x : Tc} {y : Tm} (h : TermOwn w lo hi x y) (hg : w.grownBy w' row) (hne : ∀ g, row = some g → g < lo ∨ hi ≤ g) : TermOwn w' lo hi x y := by
  obtain ⟨h0, h1, h2, h3, gv, gk, h4, h5, h6, h7, h8⟩ := h
  exact ⟨h0, h1, h2, h3, gv, gk, h4, h5, h6, grown_own h7 hg (fun h e => by have := h4 h; have := hne gv e.symm; omega), grown_kids h8 hg (fun h e => by have := h5 h; have := hne gk e.symm; omega)⟩

/-- A term of its own is put to the row. -/
theorem TBld.next {w w1 w3 : World} {B : Nat} {v : Value} {k g cap : Nat} {F : Nat → Tm} {R : Nat → Tc} {x : Tc} {y : Tm} {u : Value} (h : TBldR w B v k F R) (hB : B ≤ w.heap.size) (hb : Below w.heap.size w w1) (hy : TermOwn w1 w.heap.size w1.heap.size x y)
    (hg : w1.grownBy w3 v.ownBlock) (hat : v.ownBlock = some g ∨ w1.heap.size ≤ g) (hu : u = .slice (some ⟨g, 0, none⟩) (k + 1) cap)
    (hown : w3.ownsRow B 90 4 u (k + 1) (termL R k ++ tcC x)) :
    TBld w3 B u (k + 1) (fun i => if i = k then y else F i) := by
  obtain ⟨P, Q, h1, h2, h3, h4⟩ := h
  have z1 := hb.size
  have z2 := hg.size
  have hold : ∀ q, v.ownBlock = some q → q < w.heap.size := fun q hq => by
    rcases row_open h1 with ⟨rfl, rfl⟩ | ⟨g', cap', rfl, _, g2, _⟩
    · simp [Value.ownBlock] at hq
    · simp [Value.ownBlock] at hq; omega
  refine ⟨fun i => if i = k then x else R i, fun i => if i = k then w.heap.size else P i, fun i => if i = k then w1.heap.size else Q i, ?_, fun i hi => ?_, fun i hi => ?_, fun i j hij hj => ?_⟩
  · have e : termL (fun i => if i = k then x else R i) (k + 1) = termL R k ++ tcC x := by
      unfold termL
      rw [rowL]
      simp only [if_true]
      rw [rowL_same k (g := fun i => tcC (R i)) (fun i hi => by simp only [if_neg (show ¬ i = k by omega)])]
    rw [e]
    exact hown
  · by_cases e : i = k
    · subst e
      simp only [if_true]
      exact grown_term hy hg (fun q hq => .inl (hold q hq))
    · simp only [if_neg e]
      exact grown_term ((h2 i (by omega)).below hb) hg (h3 i (by omega)).2.2
  · subst hu
    by_cases e : i = k
    · subst e
      simp only [if_true]
      refine ⟨hB, z2, fun q hq => ?_⟩
      simp [Value.ownBlock] at hq
      subst hq
      rcases hat with h | h
      · exact .inl (hold _ h)
      · exact .inr h
    · simp only [if_neg e]
      obtain ⟨p1, p2, p3⟩ := h3 i (by omega)
      refine ⟨p1, by omega, fun q hq => ?_⟩
      simp [Value.ownBlock] at hq
      subst hq
      rcases hat with h | h
      · exact p3 _ h
      · omega
  · have e : i ≠ k := by omega
    simp only [if_neg e]
    by_cases e2 : j = k
    · simp only [if_pos e2]
      exact .inl (h3 i (by omega)).2.1
    · simp only [if_neg e2]
      exact h4 i j hij (by omega)

theorem run_append_zero {w : World} (base : Nat) (t ty e : TypeId) (i : TypeInfo) (size : Nat) (ht : Tryz.prog.underlying t = some (.slice e)) (hi : Tryz.prog.info? e = some i)
    (v : Value) (n : Nat) (xs : List Value) (hown : w.ownsRow base e size v n xs) (a : Option Addr) (c : Nat) :
    (Builtin.append_ #[t, t] ty #[v, .slice a 0 c]).run Tryz.prog w = .ok v w := by
  cases a with
  | none =>
    rcases hown.2 with ⟨rfl, rfl⟩ | ⟨g, cap, cur, rfl, _, _, hnc, _⟩
    · simp [Builtin.append_, run_underlying ht, sizeOf, typeInfo, hi, Builtin.lenOf, Builtin.firstCells]
    · simp [Builtin.append_, run_underlying ht, sizeOf, typeInfo, hi, Builtin.lenOf, Builtin.firstCells, hnc, storeCells]
  | some ad =>
    rcases hown.2 with ⟨rfl, rfl⟩ | ⟨g, cap, cur, rfl, _, _, hnc, _⟩
    · simp [Builtin.append_, run_underlying ht, sizeOf, typeInfo, hi, Builtin.lenOf, Builtin.firstCells, loadCells, loadCellsFrom]
    · simp [Builtin.append_, run_underlying ht, sizeOf, typeInfo, hi, Builtin.lenOf, Builtin.firstCells, hnc, storeCells, loadCells, loadCellsFrom]

end Go.Proofs.YtjohocnfcnjciaaGreatDoor
namespace Go.Proofs.YtjohocnfcnjciaaGreatDoor
open Go.RowKit
set_option linter.unusedVariables false

def shiftT (by' : Int) (x : Tm) : Tm := { x with K := fun j => x.K j + by' }
/-- Terms F, k of them, and G behind them. -/
def catF (F : Nat → Tm) (k : Nat) (G : Nat → Tm) (i : Nat) : Tm := if i < k then F i else shiftT k (G (i - k))
theorem catF_step (F : Nat → Tm) (k : Nat) (G : Nat → Tm) (i q : Nat) (hq : q < k + i + 1) : (if q = k + i then shiftT k (G i) else catF F k G q) = catF F k G q := by
  by_cases e : q = k + i
  · subst e
    have h : ¬ k + i < k := by omega
    simp [catF, h]
  · simp [e]

/-- Nodes that came in are put to none. -/
theorem wpList_append_nodes {w : World} {ops : Array Oper} {rest : List Oper} {o : Oper} {a : Act} {Q : Exit → Act → World → Prop} (hgd : o.guard = none) (s x : Operand)
    (ho : o.op = .call { callee := .builtin .append, args := #[s, x], argTypes := #[36, 36] })
    (base : Nat) (v : Value) (hs : a.eval s = v) (hown : w.ownsRow base 94 5 v 0 [])
    (ax : Option Addr) (n c : Nat) (N : Nat → Nd) (hx : a.eval x = .slice ax n c) (hp : ArgIs w ax n N)
    (hlen : n ≤ 2 ^ 30) (hbase : base ≤ w.heap.size)
    (h : ∀ v' w', w'.ownsRow base 94 5 v' n (nodeL N n) → w.grownBy w' v.ownBlock → wpList Tryz.prog ops Q rest (a.put o.dst v') w') : wpList Tryz.prog ops Q (o :: rest) a w := by
  obtain ⟨i0, hi, hz0, hz1, hz2⟩ := info_parts infoNode
  by_cases n0 : n = 0
  · subst n0
    have hr := run_append_zero (w := w) base 36 o.type 94 i0 5 Tryz.underlying36 hi v 0 [] hown ax c
    exact Lib.wpList_append_run w hgd s x _ _ ho _ _ hs hx v w hr (h v w (by simpa [nodeL, rowL] using hown) ⟨rfl, rfl, rfl, Nat.le_refl _, fun _ _ _ => rfl⟩)
  · rcases hp with h0 | ⟨b, off, rfl, hb, hat⟩
    · exact absurd h0 n0
    · have hl : (nodeL N n).length = n * 5 := rowL_len (k := 5) (fun _ => rfl) n
      refine wpList_append_own w hgd s x 36 ho base 94 i0 _ 5 56 Tryz.underlying36 hi hz0 hz1 hz2 rfl (by decide) v 0 [] hs hown ⟨b, off, none⟩ n c (nodeL N n) hx hl
        (fun j u hu => ?_) (rowL_ones (fun i u hu => by simp [ndC] at hu; rcases hu with rfl | rfl | rfl | rfl | rfl <;> rfl) n) (by unfold maxLen; omega) (by omega) hbase (fun v' w' h2 h3 _ => h v' w' (by simpa using h2) h3)
      rw [show ((⟨b, off, none⟩ : Addr).add j) = ⟨b, off + j, none⟩ by unfold Addr.add; split <;> simp_all]
      have hj : j < n * 5 := by rw [← hl]; exact (List.getElem?_eq_some_iff.1 hu).1
      obtain ⟨q, r, hr, rfl⟩ : ∃ q r, r < 5 ∧ j = q * 5 + r := ⟨j / 5, j % 5, by omega, by omega⟩
      have hqn : q < n := by omega
      unfold nodeL at hu
      rw [rowL_get (f := fun i => ndC (N i)) (k := 5) (fun _ => rfl) n q r hqn hr] at hu
      obtain ⟨c0, c1, c2, c3, c4⟩ := hat q hqn
      have hm : r = 0 ∨ r = 1 ∨ r = 2 ∨ r = 3 ∨ r = 4 := by omega
      rcases hm with rfl | rfl | rfl | rfl | rfl <;> simp [ndC] at hu <;> subst hu
      · exact c0
      · exact c1
      · exact c2
      · exact c3
      · exact c4

set_option maxRecDepth 100000 in
set_option maxHeartbeats 4000000 in
theorem appendTerms_any (w0 w : World) (a : Option Addr) (c t : Nat) (G : Nat → Tm) (v : Value) (k : Nat) (F : Nat → Tm) (hG : FArg w0 a t G) (hs : SmallF t G) (ht : t ≤ 2 ^ 10) (hK : ∀ i, i < t → ∀ j, j < (G i).m → 0 ≤ (G i).K j ∧ (G i).K j ≤ 2 ^ 20) (h0 : Below w0.heap.size w0 w) (hT : TBld w w0.heap.size v k F) (hk : k ≤ 2 ^ 22) :
    Calls Tryz.prog 70 #[v, .slice a t c] w fun e w' => ∃ v', e = .returned v' ∧ TBld w' w0.heap.size v' (k + t) (catF F k G) ∧ Below w0.heap.size w w' := by
  obtain ⟨va, vc, rfl⟩ := hT.form
  have HG : Hid (FArg w0 a t G) := hG
  have HS : Hid (SmallF t G) := hs
  have HK : Hid (∀ i, i < t → ∀ j, j < (G i).m → 0 ≤ (G i).K j ∧ (G i).K j ≤ 2 ^ 20) := hK
  have H0 : Hid (Below w0.heap.size w0 w) := h0
  have HT : Hid (TBld w w0.heap.size (.slice va k vc) k F) := hT
  clear hG hs hK h0 hT
  obtain ⟨iI, hi, hz0, hz1, hz2⟩ := info_parts infoInt
  have HII : Hid (Tryz.prog.info? 3 = some iI ∧ iI.zero = some (.int .i64 0) ∧ iI.size = 1 ∧ iI.bytes = 8) := ⟨hi, hz0, hz1, hz2⟩
  clear hi hz0 hz1 hz2
  obtain ⟨iT, hi, hz0, hz1, hz2⟩ := info_parts infoTerm
  have HIT : Hid (Tryz.prog.info? 90 = some iT ∧ iT.zero = some (.agg #[.int .i64 0, .string ⟨#[]⟩, .slice none 0 0, .slice none 0 0]) ∧ iT.size = 4 ∧ iT.bytes = 72) := ⟨hi, hz0, hz1, hz2⟩
  clear hi hz0 hz1 hz2
  go_enter Tryz.func70, Tryz.ntmps70
  go_wp2_with fail
  go_loopw [0, 16] (fun v i wr => ∃ (j : Nat) (va : Option Addr) (vc : Nat), j ≤ t ∧ i = .int .i64 (j : Int) ∧ v = .slice va (k + j) vc ∧ Below w0.heap.size w wr ∧ Hid (TBld wr w0.heap.size (.slice va (k + j) vc) (k + j) (catF F k G))) (fun _ i _ => t - (intOf i).toNat)
  case atStart => exact ⟨0, va, vc, Nat.zero_le _, rfl, rfl, Below.refl _ _, HT.out.same fun i hi => by simp only [catF, if_pos (show i < k by omega)]⟩
  case round =>
    clear HT
    obtain ⟨j, va, vc, hj, rfl, rfl, hnx, HT⟩ := hrel
    rename World => x0
    by_cases hlt : j < t
    · obtain ⟨b, off, va', vc', ka, kc, rfl, hb, a0, a1, a2, a3, hv, hkk⟩ := HG.out.at hlt
      have hB : Below w0.heap.size w0 x0 := H0.out.trans hnx
      replace a0 := (hB.cell hb).trans a0
      replace a1 := (hB.cell hb).trans a1
      replace a2 := (hB.cell hb).trans a2
      replace a3 := (hB.cell hb).trans a3
      have i0 : (0 : Int) ≤ (j : Int) := by omega
      have i1 : (j : Int) < (t : Int) := by omega
      have zB := hB.size
      have hbw : b < x0.heap.size := by omega
      have HV : Hid (ArgIs w0 va' (G j).n (G j).N ∧ ArgI w0 ka (G j).m (G j).K) := ⟨hv, hkk⟩
      have HST : Hid (SmallT (G j)) := HS.out.2 j hlt
      have HKB : Hid (∀ i, i < (G j).m → 0 ≤ (G j).K i ∧ (G j).K i ≤ 2 ^ 20) := HK.out j hlt
      have HB0 : Hid (Below w0.heap.size w0 x0) := hB
      have HNX : Hid (Below w0.heap.size w x0) := hnx
      have HCF : Hid (∀ q, q < k + j + 1 → (if q = k + j then shiftT k (G j) else catF F k G q) = catF F k G q) := fun q hq => catF_step F k G j q hq
      obtain ⟨y, hy⟩ : ∃ y, y = G j := ⟨_, rfl⟩
      rw [← hy] at a0 a1 a2 a3 HV HST HKB HCF
      clear hv hkk hB hnx hy
      obtain ⟨kd, p, n, N, m, K⟩ := y
      dsimp only at a0 a1 a2 a3 HV HST HKB HCF
      have m20 : m ≤ 2 ^ 20 := HST.out.2.2
      have n20 : n ≤ 2 ^ 20 := HST.out.2.1.1
      go_wp2_with fail
      obtain ⟨X1, hX1⟩ : ∃ X1, X1 = x0.alloc (.cells #[.int .i64 kd, .string p, .slice va' n vc', .slice ka m kc] 90) := ⟨_, rfl⟩
      have zX : x0.heap.size < X1.heap.size := by rw [hX1]; simp
      have bX : Below x0.heap.size x0 X1 := by rw [hX1]; exact (Below.refl _ _).alloc (Nat.le_refl _) _
      have t0 : X1.cell? ⟨x0.heap.size, 0, none⟩ = some (.int .i64 kd) := by rw [hX1]; simp [World.cell?_alloc_new]
      have t1 : X1.cell? ⟨x0.heap.size, 1, none⟩ = some (.string p) := by rw [hX1]; simp [World.cell?_alloc_new]
      have t2 : X1.cell? ⟨x0.heap.size, 2, none⟩ = some (.slice va' n vc') := by rw [hX1]; simp [World.cell?_alloc_new]
      have t3 : X1.cell? ⟨x0.heap.size, 3, none⟩ = some (.slice ka m kc) := by rw [hX1]; simp [World.cell?_alloc_new]
      rw [← hX1]
      clear hX1 a0 a1 a2 a3
      go_loopw [8, 23] (fun kv i wr => ∃ (q : Nat) (ak : Option Addr) (ck : Nat), q ≤ m ∧ i = .int .i64 (q : Int) ∧ kv = .slice ak q ck ∧ Below X1.heap.size X1 wr ∧ Hid (wr.ownsRow X1.heap.size 3 1 (.slice ak q ck) q (kidL (fun i => K i + k) q))) (fun _ i _ => m - (intOf i).toNat)
      case atStart => exact ⟨0, none, 0, Nat.zero_le _, rfl, rfl, Below.refl _ _, World.ownsRow_nil _ _ _ _⟩
      case round =>
        obtain ⟨q, ak, ck, hq, rfl, rfl, hnx2, HR⟩ := hrel
        have z2 := hnx2.size
        by_cases hqm : q < m
        · rcases HV.out.2 with h0 | ⟨b', off', rfl, hb', hat⟩
          · omega
          have hB2 : Below w0.heap.size w0 wr := HB0.out.trans ((bX.mono zB).trans (hnx2.mono (by omega)))
          have d0 := (hB2.cell hb').trans (hat q hqm)
          obtain ⟨k0, k1⟩ := HKB.out q hqm
          have HKS : Hid (kidL (fun i => K i + k) (q + 1) = kidL (fun i => K i + k) q ++ [.int .i64 (K q + k)]) := rfl
          have HN2 : Hid (Below X1.heap.size X1 wr) := hnx2
          have j0 : (0 : Int) ≤ (q : Int) := by omega
          have j1 : (q : Int) < (m : Int) := by omega
          obtain ⟨x, hx⟩ : ∃ x, x = K q := ⟨_, rfl⟩
          rw [← hx] at d0 k0 k1 HKS
          clear hat hB2 hx hnx2
          go_wp2_with (first | (at_builtin; refine wpList_append_own _ rfl _ _ 49 rfl X1.heap.size 3 iI (.int .i64 0) 1 8 Tryz.underlying49 HII.out.1 HII.out.2.1 HII.out.2.2.1 HII.out.2.2.2 rfl (by decide) _ _ _ rfl (HR.out.alloc _) ⟨wr.heap.size, 0, none⟩ 1 1 [.int .i64 (x + k)] rfl rfl ?c1 ?c2 ?c3 ?c4 ?c5 ?_))
          case c1 => exact one_news _ _ _
          case c2 => intro u hu; simp at hu; subst hu; rfl
          case c3 => unfold maxLen; omega
          case c4 => omega
          case c5 => simp; omega
          intro v' w2 hown' hgrow _
          have HB2 : Hid (Below X1.heap.size X1 w2) := grow_below HR.out _ HN2.out z2 hgrow
          have HR2 : Hid (w2.ownsRow X1.heap.size 3 1 v' (q + 1) (kidL (fun i => K i + k) (q + 1))) := by
            show World.ownsRow _ _ _ _ _ _ _
            rw [HKS.out]
            exact hown'
          obtain ⟨ak', ck', rfl⟩ : ∃ a c, v' = .slice a (q + 1) c := by
            rcases row_open HR2.out with ⟨_, h⟩ | ⟨g, cap, e, _⟩
            · omega
            · exact ⟨_, _, e⟩
          clear hown' hgrow HR HN2 d0
          go_wp2
          go_roundw
          case rel => exact ⟨q + 1, ak', ck', by omega, by go_num, rfl, HB2.out, HR2⟩
          case measure => simp [intOf]; omega
        · obtain rfl : q = m := by omega
          have s0 : wr.cell? ⟨x0.heap.size, 0, none⟩ = some (.int .i64 kd) := (hnx2.cell (by show x0.heap.size < _; omega)).trans t0
          have s1 : wr.cell? ⟨x0.heap.size, 1, none⟩ = some (.string p) := (hnx2.cell (by show x0.heap.size < _; omega)).trans t1
          have s2 : wr.cell? ⟨x0.heap.size, 2, none⟩ = some (.slice va' n vc') := (hnx2.cell (by show x0.heap.size < _; omega)).trans t2
          have HN2 : Hid (Below X1.heap.size X1 wr) := hnx2
          have HAN : Hid (ArgIs wr va' n N) := HV.out.1.below (HB0.out.trans ((bX.mono zB).trans (hnx2.mono (by omega))))
          clear t0 t1 t2 t3 hnx2
          go_wp2_with (first | (at_builtin; refine wpList_append_nodes rfl _ _ rfl wr.heap.size (.slice none 0 0) rfl (World.ownsRow_nil _ _ _ _) va' n vc' N rfl HAN.out (by omega) (Nat.le_refl _) ?_))
          intro v2 w2 hown2 hg2
          have z3 := hg2.size
          have n30 : n ≤ 2 ^ 30 := by omega
          have q30 : q ≤ 2 ^ 30 := by omega
          obtain ⟨av, cv, gv, rfl, hcv, hgv, hov⟩ := own_nodeL hown2 n30
          obtain ⟨ak', ck', gk, ek, hck, hgk, hok⟩ := own_kidL HR.out q30
          injection ek with e1 e2 e3
          subst e1 e3
          have r0 : w2.cell? ⟨x0.heap.size, 0, none⟩ = some (.int .i64 kd) := (hg2.cell_far _ (by show x0.heap.size < _; omega) (by simp [Value.ownBlock])).trans s0
          have r1 : w2.cell? ⟨x0.heap.size, 1, none⟩ = some (.string p) := (hg2.cell_far _ (by show x0.heap.size < _; omega) (by simp [Value.ownBlock])).trans s1
          have bw2 : Below wr.heap.size wr w2 := (Below.refl _ _).grown hg2 (Nat.le_refl _) (fun k hk => by simp [Value.ownBlock] at hk)
          have HB2 : Hid (Below x0.heap.size x0 w2) := bX.trans ((HN2.out.trans (bw2.mono z2)).mono (by omega))
          have HTO : Hid (TermOwn w2 x0.heap.size w2.heap.size ⟨kd, p, av, n, cv, ak, q, ck⟩ (shiftT k ⟨kd, p, n, N, q, K⟩)) := by
            refine ⟨rfl, rfl, hcv, hck, gv, gk, fun h => ⟨by have := hgv h; omega, by have := hgv h; omega⟩, fun h => ⟨by have := hgk h; omega, by have := hgk h; omega⟩, fun h h' => by have := hgv h; have := hgk h'; omega, hov, hok.below bw2⟩
          clear hown2 hg2 hov hok bw2 s0 s1 s2 HR HAN hgv hgk HN2
          obtain ⟨R, hR⟩ := HT.out.rows
          have HR : Hid (TBldR x0 w0.heap.size (.slice va (k + j) vc) (k + j) (catF F k G) R) := hR
          have HRW : Hid (w2.ownsRow w0.heap.size 90 4 (.slice va (k + j) vc) (k + j) (termL R (k + j))) := row_keep hR.row HB2.out
          have HTN := tc_news w2 ⟨kd, p, av, n, cv, ak, q, ck⟩ 90
          clear hR
          go_wp2_with (first | (at_builtin; refine wpList_append_lies _ rfl _ _ 32 rfl w0.heap.size 90 iT _ 4 72 Tryz.underlying32 HIT.out.1 HIT.out.2.1 HIT.out.2.2.1 HIT.out.2.2.2 rfl (by decide) _ _ _ rfl (HRW.out.alloc _) ⟨w2.heap.size, 0, none⟩ 1 1 (tcC ⟨kd, p, av, n, cv, ak, q, ck⟩) rfl rfl HTN (tc_ones _) (by decide) ?c3 ?c4 ?c5 (w2.heap.size + 1) ?c6 ?_))
          case c3 => unfold maxLen; omega
          case c4 => omega
          case c5 => omega
          intro g cap w3 hown3 hg3 hat3 hlt3
          have hal2 : Below x0.heap.size x0 (w2.alloc (.cells #[.int .i64 kd, .string p, .slice av n cv, .slice ak q ck] 90)) := HB2.out.trans ((Below.refl _ _).alloc HB2.out.size _)
          have hrow := HRW.out
          have HT3 : Hid (TBld w3 w0.heap.size (.slice (some ⟨g, 0, none⟩) (k + j + 1) cap) (k + j + 1) (catF F k G)) := (TBld.next (u := .slice (some ⟨g, 0, none⟩) (k + j + 1) cap) HR.out zB hal2 ((HTO.out.below ((Below.refl _ _).alloc (Nat.le_refl _) _)).wide (Nat.le_refl _) (by simp)) hg3 (by simp; rcases hat3 with h | h; exact .inl h; exact .inr (by omega)) rfl hown3).same HCF.out
          have HB3 : Hid (Below w0.heap.size w w3) := (HNX.out.trans (hal2.mono zB)).grown hg3 (by simp; have := HB2.out.size; omega) (fun b hb => (hrow.lt b hb).1)
          clear hown3 hg3 hat3 hal2 hrow HTN HRW HR HTO HB2 r0 r1
          go_wp2
          go_roundw
          case rel => exact ⟨j + 1, _, cap, by omega, by go_num, rfl, HB3.out, HT3⟩
          case measure => simp [intOf]; omega
    · obtain rfl : j = t := by omega
      go_wp2
      go_ret
      exact ⟨_, rfl, HT.out, hnx⟩

end Go.Proofs.YtjohocnfcnjciaaGreatDoor
