/- A value of one's own, read as what came in. A filter in memory: a row of terms, each with a value and the numbers of its kids. No condition. Clauses: terms that have their kids themselves. -/
import Derived.Test.YtjbjgkkkkghcgaaGreatDoorSzL
import Derived.Test.YtjbjgkkkkghcgaaGreatDoorToC
import Derived.Test.YtjbjgkkkkghcgaaGreatDoorDeepest
namespace Go.Proofs.YtjbjgkkkkghcgaaGreatDoor
open Go.RowKit
set_option linter.unusedVariables false

theorem OwnAt.argOf {w : World} {b : Nat} {a : Option Addr} {n c n' : Nat} {N : Nat → Nd} (h : OwnAt w b (.slice a n' c) n N) : n' = n ∧ ArgIs w a n N := by
  obtain ⟨a', c', off, e, hn, h0⟩ := h
  injection e with e1 e2 e3
  subst e1 e2
  refine ⟨rfl, ?_⟩
  rcases h0 with h0 | ⟨rfl, hb, hat, hf⟩
  · exact .inl h0
  · exact .inr ⟨b, off, rfl, hb, hat⟩
theorem OwnAt.butN {w w' : World} {b g : Nat} {v : Value} {n : Nat} {f : Nat → Nd} (h : OwnAt w g v n f) (hb : BelowBut w.heap.size b w w') (hne : n ≠ 0 → g ≠ b) : OwnAt w' g v n f := by
  by_cases h0 : n = 0
  · obtain ⟨a, c, off, rfl, hn, _⟩ := h
    exact ⟨a, c, off, rfl, hn, .inl h0⟩
  · exact h.but hb (hne h0)

theorem ArgIs.slice {w : World} {a : Option Addr} {n c : Nat} {N : Nat → Nd} (h : ArgIs w a n N) (hn : n ≤ 2 ^ 40) : SliceIs w w.heap.size (.slice a n c) n N := by
  rcases h with h | ⟨b, off, rfl, hlt, hat⟩
  · exact ⟨a, c, rfl, hn, .inl h⟩
  · exact ⟨_, c, rfl, hn, .inr ⟨b, off, rfl, hlt, hat⟩⟩

end Go.Proofs.YtjbjgkkkkghcgaaGreatDoor
namespace Go.Proofs.YtjbjgkkkkghcgaaGreatDoor
open Go.RowKit
set_option linter.unusedVariables false

/-- What a term says. -/
structure Tm where
  kind : Int
  path : ByteArray
  n : Nat
  N : Nat → Nd
  m : Nat
  K : Nat → Int

/-- Its four cells. -/
structure Tc where
  kind : Int
  path : ByteArray
  va : Option Addr
  vn : Nat
  vc : Nat
  ka : Option Addr
  km : Nat
  kc : Nat

def zeroTc : Tc := ⟨0, ⟨#[]⟩, none, 0, 0, none, 0, 0⟩
def Tc.agg (x : Tc) : Value := .agg #[.int .i64 x.kind, .string x.path, .slice x.va x.vn x.vc, .slice x.ka x.km x.kc]

/-- The slice value that came in: m whole numbers K. -/
def ArgI (w : World) (a : Option Addr) (m : Nat) (K : Nat → Int) : Prop := m = 0 ∨ ∃ b off, a = some ⟨b, off, none⟩ ∧ b < w.heap.size ∧ ∀ i, i < m → w.cell? ⟨b, off + i, none⟩ = some (.int .i64 (K i))
theorem ArgI.below {w w' : World} {a : Option Addr} {m : Nat} {K : Nat → Int} (h : ArgI w a m K) (hb : Below w.heap.size w w') : ArgI w' a m K := by
  rcases h with h | ⟨b, off, rfl, hlt, hat⟩
  · exact .inl h
  · exact .inr ⟨b, off, rfl, Nat.lt_of_lt_of_le hlt hb.size, fun i hi => (hb.cell hlt).trans (hat i hi)⟩

/-- t terms' cells R lie in block b from off on. -/
def RowAt (w : World) (b off t : Nat) (R : Nat → Tc) : Prop := ∀ i, i < t → w.cell? ⟨b, off + i * 4, none⟩ = some (.int .i64 (R i).kind) ∧ w.cell? ⟨b, off + i * 4 + 1, none⟩ = some (.string (R i).path) ∧
  w.cell? ⟨b, off + i * 4 + 2, none⟩ = some (.slice (R i).va (R i).vn (R i).vc) ∧ w.cell? ⟨b, off + i * 4 + 3, none⟩ = some (.slice (R i).ka (R i).km (R i).kc)
def FreeR (w : World) (b off t : Nat) : Prop := ∀ o, o < t * 4 → w.frozen? ⟨b, off + o, none⟩ = false
theorem RowAt.below {w w' : World} {B b off t : Nat} {R : Nat → Tc} (h : RowAt w b off t R) (hb : Below B w w') (hB : b < B) : RowAt w' b off t R := fun i hi => by
  obtain ⟨h0, h1, h2, h3⟩ := h i hi
  exact ⟨(hb.cell hB).trans h0, (hb.cell hB).trans h1, (hb.cell hB).trans h2, (hb.cell hB).trans h3⟩
theorem RowAt.but {w w' : World} {B g b off t : Nat} {R : Nat → Tc} (h : RowAt w b off t R) (hb : BelowBut B g w w') (hB : b < B) (hne : b ≠ g) : RowAt w' b off t R := fun i hi => by
  obtain ⟨h0, h1, h2, h3⟩ := h i hi
  exact ⟨(hb.cell hB hne).trans h0, (hb.cell hB hne).trans h1, (hb.cell hB hne).trans h2, (hb.cell hB hne).trans h3⟩
theorem FreeR.below {w w' : World} {B b off t : Nat} (h : FreeR w b off t) (hb : Below B w w') (hB : b < B) : FreeR w' b off t := fun o ho => (hb.frozen hB).trans (h o ho)
theorem FreeR.but {w w' : World} {B g b off t : Nat} (h : FreeR w b off t) (hb : BelowBut B g w w') (hB : b < B) (hne : b ≠ g) : FreeR w' b off t := fun o ho => (hb.frozen hB hne).trans (h o ho)

/-- The cells x are the term y, in memory that is read alone. -/
def TermIs (w : World) (x : Tc) (y : Tm) : Prop := x.kind = y.kind ∧ x.path = y.path ∧ x.vn = y.n ∧ x.km = y.m ∧ ArgIs w x.va y.n y.N ∧ ArgI w x.ka y.m y.K
theorem TermIs.below {w w' : World} {x : Tc} {y : Tm} (h : TermIs w x y) (hb : Below w.heap.size w w') : TermIs w' x y :=
  ⟨h.1, h.2.1, h.2.2.1, h.2.2.2.1, h.2.2.2.2.1.below hb, h.2.2.2.2.2.below hb⟩

/-- The slice value that came in: t terms F. -/
def FArg (w : World) (a : Option Addr) (t : Nat) (F : Nat → Tm) : Prop := t = 0 ∨ ∃ b off R, a = some ⟨b, off, none⟩ ∧ b < w.heap.size ∧ RowAt w b off t R ∧ ∀ i, i < t → TermIs w (R i) (F i)
theorem FArg.below {w w' : World} {a : Option Addr} {t : Nat} {F : Nat → Tm} (h : FArg w a t F) (hb : Below w.heap.size w w') : FArg w' a t F := by
  rcases h with h | ⟨b, off, R, rfl, hlt, hat, ht⟩
  · exact .inl h
  · exact .inr ⟨b, off, R, rfl, Nat.lt_of_lt_of_le hlt hb.size, hat.below hb hlt, fun i hi => (ht i hi).below hb⟩
/-- One of them, with its cells. -/
theorem FArg.at {w : World} {a : Option Addr} {t : Nat} {F : Nat → Tm} (h : FArg w a t F) {i : Nat} (hi : i < t) : ∃ b off va vc ka kc, a = some ⟨b, off, none⟩ ∧ b < w.heap.size ∧
    w.cell? ⟨b, off + i * 4, none⟩ = some (.int .i64 (F i).kind) ∧ w.cell? ⟨b, off + i * 4 + 1, none⟩ = some (.string (F i).path) ∧ w.cell? ⟨b, off + i * 4 + 2, none⟩ = some (.slice va (F i).n vc) ∧ w.cell? ⟨b, off + i * 4 + 3, none⟩ = some (.slice ka (F i).m kc) ∧
    ArgIs w va (F i).n (F i).N ∧ ArgI w ka (F i).m (F i).K := by
  rcases h with h | ⟨b, off, R, rfl, hlt, hat, ht⟩
  · omega
  · obtain ⟨h0, h1, h2, h3⟩ := hat i hi
    obtain ⟨e0, e1, e2, e3, hv, hk⟩ := ht i hi
    rw [e0] at h0
    rw [e1] at h1
    rw [e2] at h2
    rw [e3] at h3
    exact ⟨b, off, _, _, _, _, rfl, hlt, h0, h1, h2, h3, hv, hk⟩

/-- The slice value v is m whole numbers K, at the head of block g, which may be written. -/
def OwnK (w : World) (g : Nat) (v : Value) (m : Nat) (K : Nat → Int) : Prop := ∃ a c, v = .slice a m c ∧ m ≤ 2 ^ 30 ∧ (m = 0 ∨ (a = some ⟨g, 0, none⟩ ∧ g < w.heap.size ∧ IntsAt w g m K))
theorem OwnK.below {w w' : World} {g : Nat} {v : Value} {n : Nat} {f : Nat → Int} (h : OwnK w g v n f) (hb : Below w.heap.size w w') : OwnK w' g v n f := by
  obtain ⟨a, c, rfl, hn, h0 | ⟨rfl, hlt, hat⟩⟩ := h
  · exact ⟨a, c, rfl, hn, .inl h0⟩
  · exact ⟨_, c, rfl, hn, .inr ⟨rfl, Nat.lt_of_lt_of_le hlt hb.size, hat.below hb hlt⟩⟩
theorem OwnK.but {w w' : World} {b g : Nat} {v : Value} {n : Nat} {f : Nat → Int} (h : OwnK w g v n f) (hb : BelowBut w.heap.size b w w') (hne : n ≠ 0 → g ≠ b) : OwnK w' g v n f := by
  obtain ⟨a, c, rfl, hn, h0 | ⟨rfl, hlt, hat⟩⟩ := h
  · exact ⟨a, c, rfl, hn, .inl h0⟩
  · by_cases h0 : n = 0
    · exact ⟨_, c, rfl, hn, .inl h0⟩
    · exact ⟨_, c, rfl, hn, .inr ⟨rfl, Nat.lt_of_lt_of_le hlt hb.size, fun i hi => ⟨(hb.cell hlt (hne h0)).trans (hat i hi).1, (hb.frozen hlt (hne h0)).trans (hat i hi).2⟩⟩⟩
theorem OwnK.arg {w : World} {g : Nat} {a : Option Addr} {m c m' : Nat} {K : Nat → Int} (h : OwnK w g (.slice a m' c) m K) : m' = m ∧ ArgI w a m K := by
  obtain ⟨a', c', e, hn, h0⟩ := h
  injection e with e1 e2 e3
  subst e1 e2
  refine ⟨rfl, ?_⟩
  rcases h0 with h0 | ⟨rfl, hlt, hat⟩
  · exact .inl h0
  · exact .inr ⟨g, 0, rfl, hlt, fun i hi => by rw [Nat.zero_add]; exact (hat i hi).1⟩
/-- The cells x are the term y, in memory of its own: blocks from lo on, below hi. -/
def TermOwn (w : World) (lo hi : Nat) (x : Tc) (y : Tm) : Prop := x.kind = y.kind ∧ x.path = y.path ∧ y.n ≤ x.vc ∧ y.m ≤ x.kc ∧ ∃ gv gk, (y.n ≠ 0 → lo ≤ gv ∧ gv < hi) ∧ (y.m ≠ 0 → lo ≤ gk ∧ gk < hi) ∧ (y.n ≠ 0 → y.m ≠ 0 → gv ≠ gk) ∧
  OwnAt w gv (.slice x.va x.vn x.vc) y.n y.N ∧ OwnK w gk (.slice x.ka x.km x.kc) y.m y.K
theorem TermOwn.below {w w' : World} {lo hi : Nat} {x : Tc} {y : Tm} (h : TermOwn w lo hi x y) (hb : Below w.heap.size w w') : TermOwn w' lo hi x y := by
  obtain ⟨h0, h1, h2, h3, gv, gk, h4, h5, h6, h7, h8⟩ := h
  exact ⟨h0, h1, h2, h3, gv, gk, h4, h5, h6, h7.below hb, h8.below hb⟩
theorem TermOwn.but {w w' : World} {b lo hi : Nat} {x : Tc} {y : Tm} (h : TermOwn w lo hi x y) (hb : BelowBut w.heap.size b w w') (hne : b < lo ∨ hi ≤ b) : TermOwn w' lo hi x y := by
  obtain ⟨h0, h1, h2, h3, gv, gk, h4, h5, h6, h7, h8⟩ := h
  exact ⟨h0, h1, h2, h3, gv, gk, h4, h5, h6, h7.butN hb (fun h => by have := h4 h; omega), h8.but hb (fun h => by have := h5 h; omega)⟩
theorem TermOwn.wide {w : World} {lo hi lo' hi' : Nat} {x : Tc} {y : Tm} (h : TermOwn w lo hi x y) (h1 : lo' ≤ lo) (h2 : hi ≤ hi') : TermOwn w lo' hi' x y := by
  obtain ⟨h0, h1, h2, h3, gv, gk, h4, h5, h6, h7, h8⟩ := h
  exact ⟨h0, h1, h2, h3, gv, gk, fun h => by have := h4 h; omega, fun h => by have := h5 h; omega, h6, h7, h8⟩
theorem TermOwn.is {w : World} {lo hi : Nat} {x : Tc} {y : Tm} (h : TermOwn w lo hi x y) : TermIs w x y := by
  obtain ⟨h0, h1, h2, h3, gv, gk, h4, h5, h6, h7, h8⟩ := h
  obtain ⟨e1, a1⟩ := h7.argOf
  obtain ⟨e2, a2⟩ := h8.arg
  exact ⟨h0, h1, e1, e2, a1, a2⟩

/-- The slice value is t terms F in memory of their own: the row in block b, each term's own in blocks from P i on, below Q i. -/
def FOwn (w : World) (b : Nat) (a : Option Addr) (t : Nat) (F : Nat → Tm) (P Q : Nat → Nat) : Prop := t ≤ 2 ^ 30 ∧ (t = 0 ∨ (a = some ⟨b, 0, none⟩ ∧ b < w.heap.size ∧ ∃ R, RowAt w b 0 t R ∧ FreeR w b 0 t ∧ ∀ i, i < t → TermOwn w (P i) (Q i) (R i) (F i))) ∧
  (∀ i, i < t → (b < P i ∨ Q i ≤ b) ∧ Q i ≤ w.heap.size) ∧ ∀ i j, i < j → j < t → Q i ≤ P j ∨ Q j ≤ P i
theorem FOwn.arg {w : World} {b : Nat} {a : Option Addr} {t : Nat} {F : Nat → Tm} {P Q : Nat → Nat} (h : FOwn w b a t F P Q) : FArg w a t F := by
  rcases h.2.1 with h0 | ⟨e, hlt, R, h1, h2, h3⟩
  · exact .inl h0
  · exact .inr ⟨b, 0, R, e, hlt, h1, fun i hi => (h3 i hi).is⟩
theorem FOwn.below {w w' : World} {b : Nat} {a : Option Addr} {t : Nat} {F : Nat → Tm} {P Q : Nat → Nat} (h : FOwn w b a t F P Q) (hb : Below w.heap.size w w') : FOwn w' b a t F P Q := by
  obtain ⟨h1, h2, h3, h4⟩ := h
  refine ⟨h1, ?_, fun i hi => ⟨(h3 i hi).1, Nat.le_trans (h3 i hi).2 hb.size⟩, h4⟩
  rcases h2 with h0 | ⟨e, hlt, R, h5, h6, h7⟩
  · exact .inl h0
  · exact .inr ⟨e, Nat.lt_of_lt_of_le hlt hb.size, R, h5.below hb hlt, h6.below hb hlt, fun i hi => (h7 i hi).below hb⟩

theorem FOwn.but {w w' : World} {b g : Nat} {a : Option Addr} {t : Nat} {F : Nat → Tm} {P Q : Nat → Nat} (h : FOwn w b a t F P Q) (hb : BelowBut w.heap.size g w w') (hne : b ≠ g) (hi : ∀ i, i < t → g < P i ∨ Q i ≤ g) : FOwn w' b a t F P Q := by
  obtain ⟨h1, h2, h3, h4⟩ := h
  refine ⟨h1, ?_, fun i hi => ⟨(h3 i hi).1, Nat.le_trans (h3 i hi).2 hb.size⟩, h4⟩
  rcases h2 with h0 | ⟨e, hlt, R, h5, h6, h7⟩
  · exact .inl h0
  · exact .inr ⟨e, Nat.lt_of_lt_of_le hlt hb.size, R, h5.but hb hlt hne, h6.but hb hlt hne, fun i hi' => (h7 i hi').but hb (hi i hi')⟩

/-- A whole term stored. -/
theorem store_term {w1 : World} {b off n k : Nat} {M : Nat → Tc} {x : Tc} (hk : k < n) (h : RowAt w1 b off n M) (hf : FreeR w1 b off n) (W : World)
    (hW : W = (((w1.setCell ⟨b, off + k * 4, none⟩ (.int .i64 x.kind)).setCell ⟨b, off + k * 4 + 1, none⟩ (.string x.path)).setCell ⟨b, off + k * 4 + 2, none⟩ (.slice x.va x.vn x.vc)).setCell ⟨b, off + k * 4 + 3, none⟩ (.slice x.ka x.km x.kc)) :
    RowAt W b off n (fun j => if j = k then x else M j) ∧ FreeR W b off n ∧ BelowBut w1.heap.size b w1 W := by
  subst hW
  obtain ⟨a0, a1, a2, a3⟩ := h k hk
  have p3 : ∀ o, ((((w1.setCell ⟨b, off + k * 4, none⟩ (.int .i64 x.kind)).setCell ⟨b, off + k * 4 + 1, none⟩ (.string x.path)).setCell ⟨b, off + k * 4 + 2, none⟩ (.slice x.va x.vn x.vc)).setCell ⟨b, off + k * 4 + 3, none⟩ (.slice x.ka x.km x.kc)).cell? ⟨b, o, none⟩ =
      if o = off + k * 4 + 3 then some (.slice x.ka x.km x.kc) else if o = off + k * 4 + 2 then some (.slice x.va x.vn x.vc) else if o = off + k * 4 + 1 then some (.string x.path) else if o = off + k * 4 then some (.int .i64 x.kind) else w1.cell? ⟨b, o, none⟩ := fun o => by
    have e0 : (w1.cell? ⟨b, off + k * 4, none⟩).isSome = true := by rw [a0]; rfl
    have e1 : ((w1.setCell ⟨b, off + k * 4, none⟩ (.int .i64 x.kind)).cell? ⟨b, off + k * 4 + 1, none⟩).isSome = true := by rw [cell_set e0, if_neg (by omega), a1]; rfl
    have e2 : (((w1.setCell ⟨b, off + k * 4, none⟩ (.int .i64 x.kind)).setCell ⟨b, off + k * 4 + 1, none⟩ (.string x.path)).cell? ⟨b, off + k * 4 + 2, none⟩).isSome = true := by rw [cell_set e1, if_neg (by omega), cell_set e0, if_neg (by omega), a2]; rfl
    have e3 : ((((w1.setCell ⟨b, off + k * 4, none⟩ (.int .i64 x.kind)).setCell ⟨b, off + k * 4 + 1, none⟩ (.string x.path)).setCell ⟨b, off + k * 4 + 2, none⟩ (.slice x.va x.vn x.vc)).cell? ⟨b, off + k * 4 + 3, none⟩).isSome = true := by rw [cell_set e2, if_neg (by omega), cell_set e1, if_neg (by omega), cell_set e0, if_neg (by omega), a3]; rfl
    rw [cell_set e3, cell_set e2, cell_set e1, cell_set e0]
  refine ⟨fun j hj => ?_, fun o ho => ?_, ?_⟩
  · simp only [p3]
    by_cases e : j = k
    · subst e
      simp
    · obtain ⟨c0, c1, c2, c3⟩ := h j hj
      simp only [if_neg e]
      refine ⟨?_, ?_, ?_, ?_⟩
      · rw [if_neg (by omega), if_neg (by omega), if_neg (by omega), if_neg (by omega), c0]
      · rw [if_neg (by omega), if_neg (by omega), if_neg (by omega), if_neg (by omega), c1]
      · rw [if_neg (by omega), if_neg (by omega), if_neg (by omega), if_neg (by omega), c2]
      · rw [if_neg (by omega), if_neg (by omega), if_neg (by omega), if_neg (by omega), c3]
  · rw [World.frozen?_setCell, World.frozen?_setCell, World.frozen?_setCell, World.frozen?_setCell]
    exact hf o ho
  · exact (((BelowBut.setCell w1 _ _).trans (BelowBut.setCell _ _ _)).trans (BelowBut.setCell _ _ _)).trans (BelowBut.setCell _ _ _)

theorem infoTerm : (Tryz.prog.info? 62).map (fun i => (i.zero, i.size, i.bytes)) = some (some (.agg #[.int .i64 0, .string ⟨#[]⟩, .slice none 0 0, .slice none 0 0]), 4, 72) := by kernel_rfl
def zeroTs : Array Value := #[.int .i64 0, .string ⟨#[]⟩, .slice none 0 0, .slice none 0 0]
theorem make_terms (n : Nat) (hn : n ≤ 2 ^ 30) (W : World) : (Instr.makeSlice 28 (.int .i64 (n : Int)) (.int .i64 (n : Int))).run Tryz.prog W = .ok (.slice (some ⟨W.heap.size, 0, none⟩) n n) (W.alloc (.cells (madeCells zeroTs (n * 4)) 62)) := by
  obtain ⟨i0, hi, hz0, hz1, hz2⟩ := info_parts infoTerm
  have h := run_make (P := Tryz.prog) W 28 62 i0 _ Tryz.underlying28 hi hz0 .i64 .i64 n n (by omega) (by omega) (by rw [hz2]; omega) (by omega)
  rw [hz1] at h
  simpa [Value.cells, zeroTs] using h
theorem made_term (n j : Nat) (hj : j < n * 4) : (madeCells zeroTs (n * 4))[j]? = zeroTs[j % 4]? := by
  have : zeroTs.size = 4 := rfl
  simp only [madeCells, Array.getElem?_map, Array.getElem?_range, if_pos hj, Option.map_some, this]
  rw [Array.getElem!_eq_getD, Array.getD_eq_getD_getElem?]
  have h5 : j % 4 < zeroTs.size := by rw [this]; omega
  rw [Array.getElem?_eq_getElem h5]
  rfl
theorem terms_made (n : Nat) (W : World) (T : TypeId) : RowAt (W.alloc (.cells (madeCells zeroTs (n * 4)) T)) W.heap.size 0 n (fun _ => zeroTc) ∧ FreeR (W.alloc (.cells (madeCells zeroTs (n * 4)) T)) W.heap.size 0 n := by
  refine ⟨fun i hi => ?_, fun o ho => World.frozen?_alloc_new _ _ _ _⟩
  simp only [World.cell?_alloc_new]
  refine ⟨?_, ?_, ?_, ?_⟩
  · rw [made_term _ _ (by omega), show (0 + i * 4) % 4 = 0 by omega]; rfl
  · rw [made_term _ _ (by omega), show (0 + i * 4 + 1) % 4 = 1 by omega]; rfl
  · rw [made_term _ _ (by omega), show (0 + i * 4 + 2) % 4 = 2 by omega]; rfl
  · rw [made_term _ _ (by omega), show (0 + i * 4 + 3) % 4 = 3 by omega]; rfl

/-- What comes in is no greater than memory; what is weighed is small. -/
def BigT (x : Tm) : Prop := x.path.size ≤ maxLen ∧ x.n ≤ maxLen ∧ (∀ i, i < x.n → (x.N i).text.size ≤ maxLen ∧ (x.N i).name.size ≤ maxLen) ∧ x.m ≤ maxLen
def SmallT (x : Tm) : Prop := x.path.size ≤ 2 ^ 20 ∧ SmallN x.n x.N ∧ x.m ≤ 2 ^ 20
def SmallF (t : Nat) (F : Nat → Tm) : Prop := t ≤ 2 ^ 20 ∧ ∀ i, i < t → SmallT (F i)

end Go.Proofs.YtjbjgkkkkghcgaaGreatDoor
namespace Go.Proofs.YtjbjgkkkkghcgaaGreatDoor
open Go.RowKit
set_option linter.unusedVariables false

/-- A term that has its kids themselves. -/
inductive Cl where
  | leaf (x : Tm)
  | all (l : List Cl)
  | any (l : List Cl)
  | neg (c : Cl)

/-- The clause of term k. -/
def clF (F : Nat → Tm) : Nat → Nat → Cl
  | 0, k => .leaf (F k)
  | f + 1, k =>
    if (F k).kind = 6 then .all ((List.range (F k).m).map fun j => clF F f ((F k).K j).toNat)
    else if (F k).kind = 7 then .any ((List.range (F k).m).map fun j => clF F f ((F k).K j).toNat)
    else if (F k).kind = 8 then .neg (clF F f ((F k).K 0).toNat)
    else .leaf (F k)

/-- How much is told matters not, where it is enough. -/
theorem clF_same {F : Nat → Tm} {t : Nat} (h : ∀ i, i < t → ∀ j, j < (F i).m → 0 ≤ (F i).K j ∧ (F i).K j < i) (h8 : ∀ i, i < t → (F i).kind = 8 → 0 < (F i).m) :
    ∀ k, k < t → ∀ f f', k < f → k < f' → clF F f k = clF F f' k := by
  intro k
  induction k using Nat.strongRecOn with
  | ind k ih =>
    intro hkt f f' hf hf'
    obtain ⟨g, rfl⟩ : ∃ g, f = g + 1 := ⟨f - 1, by omega⟩
    obtain ⟨g', rfl⟩ : ∃ g', f' = g' + 1 := ⟨f' - 1, by omega⟩
    have hkid : ∀ j, j < (F k).m → clF F g ((F k).K j).toNat = clF F g' ((F k).K j).toNat := fun j hj => by
      have hb := h k hkt j hj
      exact ih _ (by omega) (by omega) g g' (by omega) (by omega)
    rw [clF, clF]
    by_cases k6 : (F k).kind = 6
    · rw [if_pos k6, if_pos k6]
      congr 1
      exact List.map_congr_left fun j hj => hkid j (by simpa using hj)
    · rw [if_neg k6, if_neg k6]
      by_cases k7 : (F k).kind = 7
      · rw [if_pos k7, if_pos k7]
        congr 1
        exact List.map_congr_left fun j hj => hkid j (by simpa using hj)
      · rw [if_neg k7, if_neg k7]
        by_cases k8 : (F k).kind = 8
        · rw [if_pos k8, if_pos k8, hkid 0 (h8 k hkt k8)]
        · rw [if_neg k8, if_neg k8]

mutual
def Cl.plain : Cl → Cl
  | .leaf x => .leaf x
  | .all l => .all (Cl.plains l)
  | .any l => .any (Cl.plains l)
  | .neg c => c.turn
def Cl.plains : List Cl → List Cl
  | [] => []
  | c :: l => c.plain :: Cl.plains l
def Cl.turn : Cl → Cl
  | .leaf x => .neg (.leaf x)
  | .all l => .any (Cl.turns l)
  | .any l => .all (Cl.turns l)
  | .neg c => c.plain
def Cl.turns : List Cl → List Cl
  | [] => []
  | c :: l => c.turn :: Cl.turns l
end

mutual
/-- How many terms a clause is told by. -/
def Cl.size : Cl → Nat
  | .leaf _ => 1
  | .all l => Cl.sizes l + 1
  | .any l => Cl.sizes l + 1
  | .neg c => c.size + 1
def Cl.sizes : List Cl → Nat
  | [] => 0
  | c :: l => c.size + Cl.sizes l
end
theorem Cl.size_one (c : Cl) : 1 ≤ c.size := by cases c <;> simp [Cl.size]
theorem Cl.len_sizes : ∀ l : List Cl, l.length ≤ Cl.sizes l
  | [] => by simp
  | c :: l => by
    have h1 := Cl.size_one c
    have h2 := Cl.len_sizes l
    simp only [Cl.sizes, List.length_cons]
    omega
theorem Cl.size_in : ∀ {l : List Cl} {c : Cl}, c ∈ l → c.size ≤ Cl.sizes l
  | [], c, h => by simp at h
  | d :: l, c, h => by
    simp only [List.mem_cons] at h
    simp only [Cl.sizes]
    rcases h with rfl | h
    · omega
    · have := Cl.size_in h; omega

end Go.Proofs.YtjbjgkkkkghcgaaGreatDoor
