/- Data of any kind in memory: numbers, texts, pairs and rows of them. No condition. -/
import Derived.Test.YtdlodeklheapgaaBase0
namespace Go.Proofs.Ytdlodeklheapgaa
open Go.RowKit
set_option linter.unusedVariables false

/-- All blocks but those of S are as they were. -/
structure KeptO (S : Nat → Prop) (w w' : World) : Prop where
  os : w'.os = w.os
  tape : w'.tape = w.tape
  output : w'.output = w.output
  size : w.heap.size ≤ w'.heap.size
  block : ∀ k, k < w.heap.size → ¬ S k → w'.heap[k]? = w.heap[k]?

theorem KeptO.refl (S : Nat → Prop) (w : World) : KeptO S w w := ⟨rfl, rfl, rfl, Nat.le_refl _, fun _ _ _ => rfl⟩
theorem KeptO.trans {S : Nat → Prop} {a c d : World} (h : KeptO S a c) (k : KeptO S c d) : KeptO S a d :=
  ⟨k.os.trans h.os, k.tape.trans h.tape, k.output.trans h.output, Nat.le_trans h.size k.size, fun i hi hn => (k.block i (Nat.lt_of_lt_of_le hi h.size) hn).trans (h.block i hi hn)⟩
theorem KeptO.of {S : Nat → Prop} {w w' : World} (h : Below w.heap.size w w') : KeptO S w w' := ⟨h.os, h.tape, h.output, h.size, fun k hk _ => h.block k hk⟩
theorem KeptO.mono {S S' : Nat → Prop} {w w' : World} (h : KeptO S w w') (hs : ∀ k, S k → S' k) : KeptO S' w w' := ⟨h.os, h.tape, h.output, h.size, fun k hk hn => h.block k hk (fun hk' => hn (hs k hk'))⟩
theorem KeptO.below {S : Nat → Prop} {B : Nat} {w w' : World} (h : KeptO S w w') (hB : B ≤ w.heap.size) (hs : ∀ k, k < B → ¬ S k) : Below B w w' := ⟨h.os, h.tape, h.output, h.size, fun k hk => h.block k (by omega) (hs k hk)⟩
theorem KeptO.cell {S : Nat → Prop} {w w' : World} (h : KeptO S w w') {g o : Nat} (hg : g < w.heap.size) (hn : ¬ S g) : w'.cell? ⟨g, o, none⟩ = w.cell? ⟨g, o, none⟩ := World.cell?_of_block (w := w) (h.block g hg hn)
theorem KeptO.frozen {S : Nat → Prop} {w w' : World} (h : KeptO S w w') {g o : Nat} (hg : g < w.heap.size) (hn : ¬ S g) : w'.frozen? ⟨g, o, none⟩ = w.frozen? ⟨g, o, none⟩ := World.frozen?_of_block (w := w) (h.block g hg hn)
theorem KeptO.drew {S : Nat → Prop} {a w : World} (h : KeptO S a w) : KeptO S a w.drew := ⟨h.os, h.tape, h.output, h.size, h.block⟩

/-- All blocks but those of S and block b are as they were, and of b all cells but those from lo on, below hi. -/
structure OnlyO (S : Nat → Prop) (b lo hi : Nat) (w w' : World) : Prop where
  os : w'.os = w.os
  tape : w'.tape = w.tape
  output : w'.output = w.output
  size : w.heap.size ≤ w'.heap.size
  block : ∀ k, k < w.heap.size → k ≠ b → ¬ S k → w'.heap[k]? = w.heap[k]?
  cell : ∀ o, (o < lo ∨ hi ≤ o) → w'.cell? ⟨b, o, none⟩ = w.cell? ⟨b, o, none⟩
  frozen : ∀ o, w'.frozen? ⟨b, o, none⟩ = w.frozen? ⟨b, o, none⟩

theorem OnlyO.refl (S : Nat → Prop) (b lo hi : Nat) (w : World) : OnlyO S b lo hi w w := ⟨rfl, rfl, rfl, Nat.le_refl _, fun _ _ _ _ => rfl, fun _ _ => rfl, fun _ => rfl⟩
theorem OnlyO.trans {S : Nat → Prop} {b lo hi : Nat} {a c d : World} (h : OnlyO S b lo hi a c) (k : OnlyO S b lo hi c d) : OnlyO S b lo hi a d :=
  ⟨k.os.trans h.os, k.tape.trans h.tape, k.output.trans h.output, Nat.le_trans h.size k.size, fun i hi hn hs => (k.block i (Nat.lt_of_lt_of_le hi h.size) hn hs).trans (h.block i hi hn hs), fun o ho => (k.cell o ho).trans (h.cell o ho), fun o => (k.frozen o).trans (h.frozen o)⟩
theorem OnlyO.kept {S S' : Nat → Prop} {b lo hi : Nat} {w w' : World} (h : KeptO S' w w') (hb : b < w.heap.size) (hs : ∀ k, S' k → S k) (hn : ¬ S' b) : OnlyO S b lo hi w w' :=
  ⟨h.os, h.tape, h.output, h.size, fun k hk _ hn => h.block k hk (fun hk' => hn (hs k hk')), fun o _ => h.cell hb hn, fun o => h.frozen hb hn⟩
theorem OnlyO.below {S : Nat → Prop} {b lo hi : Nat} {w w' : World} (h : Below w.heap.size w w') (hb : b < w.heap.size) : OnlyO S b lo hi w w' :=
  ⟨h.os, h.tape, h.output, h.size, fun k hk _ _ => h.block k hk, fun o _ => h.cell hb, fun o => h.frozen hb⟩
theorem OnlyO.set {S : Nat → Prop} {b lo hi o : Nat} (w : World) (v : Value) (h0 : lo ≤ o) (h1 : o < hi) : OnlyO S b lo hi w (w.setCell ⟨b, o, none⟩ v) :=
  ⟨rfl, rfl, rfl, by simp [World.setCell], fun k _ hk _ => Below.heap_setCell _ _ _ _ hk, fun x hx => World.cell?_setCell_other _ _ _ _ (fun e => by injection e with _ e2 _; omega), fun x => World.frozen?_setCell _ _ _ _⟩
theorem OnlyO.thenSet {S : Nat → Prop} {b lo hi o : Nat} {a w : World} {v : Value} (h : OnlyO S b lo hi a w) (h0 : lo ≤ o) (h1 : o < hi) : OnlyO S b lo hi a (w.setCell ⟨b, o, none⟩ v) := h.trans (OnlyO.set w v h0 h1)
theorem OnlyO.drew {S : Nat → Prop} {b lo hi : Nat} {a w : World} (h : OnlyO S b lo hi a w) : OnlyO S b lo hi a w.drew := ⟨h.os, h.tape, h.output, h.size, h.block, h.cell, h.frozen⟩
theorem OnlyO.to {S S' : Nat → Prop} {b lo hi : Nat} {w w' : World} (h : OnlyO S b lo hi w w') (hb : S' b) (hs : ∀ k, S k → S' k) : KeptO S' w w' :=
  ⟨h.os, h.tape, h.output, h.size, fun k hk hn => h.block k hk (fun e => hn (e ▸ hb)) (fun e => hn (hs k e))⟩

theorem heap_set_ne {w : World} {b o k : Nat} {v : Value} (h : k ≠ b) : (w.setCell ⟨b, o, none⟩ v).heap[k]? = w.heap[k]? := Below.heap_setCell _ _ _ _ h
theorem set_other {w : World} {b o o' : Nat} {v u : Value} (h : w.cell? ⟨b, o, none⟩ = some u) (hn : o' ≠ o) : (w.setCell ⟨b, o', none⟩ v).cell? ⟨b, o, none⟩ = some u := by
  rw [World.cell?_setCell_other _ _ _ _ (fun e => by injection e with _ e2 _; omega)]
  exact h
theorem set_same {w : World} {b o : Nat} {v u : Value} (h : w.cell? ⟨b, o, none⟩ = some u) : (w.setCell ⟨b, o, none⟩ v).cell? ⟨b, o, none⟩ = some v := by
  rw [cell_set (by rw [h]; rfl), if_pos rfl]

/-- How data of one kind lie in cells: the values vs are d, in blocks of S; true: they may be written and lie apart. -/
structure Kd (α : Type) where
  wd : Nat
  is : Bool → World → (Nat → Prop) → List Value → α → Prop
  sz : α → Nat
  cnt : α → Nat
  mrk : α → Int → α
  len : ∀ {o w S vs d}, is o w S vs d → vs.length = wd
  keep : ∀ {o} {w w' : World} {S vs d}, is o w S vs d → w.heap.size ≤ w'.heap.size → (∀ k, k < w.heap.size → S k → w'.heap[k]? = w.heap[k]?) → is o w' S vs d
  read : ∀ {w S vs d}, is true w S vs d → is false w S vs d
  tight : ∀ {o} {w : World} {S S' : Nat → Prop} {vs d}, is o w S vs d → (∀ k, k < w.heap.size → S k → S' k) → is o w S' vs d

theorem Kd.below {α : Type} {K : Kd α} {o : Bool} {w w' : World} {S : Nat → Prop} {vs : List Value} {d : α} (h : K.is o w S vs d) (hb : Below w.heap.size w w') : K.is o w' S vs d := K.keep h hb.size (fun k hk _ => hb.block k hk)
theorem Kd.kept {α : Type} {K : Kd α} {o : Bool} {w w' : World} {S S' : Nat → Prop} {vs : List Value} {d : α} (h : K.is o w S vs d) (hb : KeptO S' w w') (hs : ∀ k, k < w.heap.size → S k → ¬ S' k) : K.is o w' S vs d := K.keep h hb.size (fun k hk h' => hb.block k hk (hs k hk h'))
theorem Kd.mono {α : Type} {K : Kd α} {o : Bool} {w : World} {S S' : Nat → Prop} {vs : List Value} {d : α} (h : K.is o w S vs d) (hs : ∀ k, S k → S' k) : K.is o w S' vs d := K.tight h (fun k _ => hs k)

def IntOk (n : Int) : Prop := -9223372036854775808 ≤ n ∧ n ≤ 9223372036854775807

def kInt : Kd Int where
  wd := 1
  is _ _ _ vs d := vs = [.int .i64 d] ∧ IntOk d
  sz _ := 0
  cnt _ := 1
  mrk _ k := k
  len h := by rw [h.1]; rfl
  keep h _ _ := h
  read h := h
  tight h _ := h
def kStr : Kd ByteArray where
  wd := 1
  is _ _ _ vs d := vs = [.string d] ∧ d.size ≤ maxLen
  sz d := d.size
  cnt _ := 1
  mrk _ k := mtext k
  len h := by rw [h.1]; rfl
  keep h _ _ := h
  read h := h
  tight h _ := h
def kBool : Kd Bool where
  wd := 1
  is _ _ _ vs d := vs = [.bool d]
  sz _ := 0
  cnt _ := 1
  mrk _ k := k.tmod 3 == 0
  len h := by rw [h]; rfl
  keep h _ _ := h
  read h := h
  tight h _ := h

/-- One behind the other. -/
def kPair {α β : Type} (A : Kd α) (B : Kd β) : Kd (α × β) where
  wd := A.wd + B.wd
  is o w S vs d := ∃ S1 S2 v1 v2, vs = v1 ++ v2 ∧ A.is o w S1 v1 d.1 ∧ B.is o w S2 v2 d.2 ∧ (∀ k, S1 k → S k) ∧ (∀ k, S2 k → S k) ∧ (o = true → ∀ k, S1 k → ¬ S2 k)
  sz d := A.sz d.1 + B.sz d.2
  cnt d := A.cnt d.1 + B.cnt d.2
  mrk d k := (A.mrk d.1 k, B.mrk d.2 (k + A.cnt d.1))
  len h := by
    obtain ⟨S1, S2, v1, v2, rfl, h1, h2, _⟩ := h
    rw [List.length_append, A.len h1, B.len h2]
  keep h hz hk := by
    obtain ⟨S1, S2, v1, v2, rfl, h1, h2, s1, s2, hd⟩ := h
    exact ⟨S1, S2, v1, v2, rfl, A.keep h1 hz (fun k h0 h' => hk k h0 (s1 k h')), B.keep h2 hz (fun k h0 h' => hk k h0 (s2 k h')), s1, s2, hd⟩
  read h := by
    obtain ⟨S1, S2, v1, v2, rfl, h1, h2, s1, s2, hd⟩ := h
    exact ⟨S1, S2, v1, v2, rfl, A.read h1, B.read h2, s1, s2, fun h => by cases h⟩
  tight {o w S S' vs d} h hs := by
    obtain ⟨S1, S2, v1, v2, rfl, h1, h2, s1, s2, hd⟩ := h
    exact ⟨fun k => S1 k ∧ k < w.heap.size, fun k => S2 k ∧ k < w.heap.size, v1, v2, rfl, A.tight h1 (fun k h0 h' => ⟨h', h0⟩), B.tight h2 (fun k h0 h' => ⟨h', h0⟩), fun k h' => hs k h'.2 (s1 k h'.1), fun k h' => hs k h'.2 (s2 k h'.1), fun e k h' h'' => hd e k h'.1 h''.1⟩

/-- The cells of a row. -/
def RowC {α : Type} (K : Kd α) (o : Bool) (w : World) (b off : Nat) (B : Nat → Nat → Prop) (C : Nat → List Value) (l : List α) : Prop :=
  ∀ i x, l[i]? = some x → K.is o w (B i) (C i) x ∧ ∀ j v, (C i)[j]? = some v → w.cell? ⟨b, off + i * K.wd + j, none⟩ = some v ∧ (o = true → w.frozen? ⟨b, off + i * K.wd + j, none⟩ = false)
/-- What each of a row has for itself lies apart. -/
def Apart (b n : Nat) (B : Nat → Nat → Prop) : Prop := (∀ i, i < n → ¬ B i b) ∧ ∀ i j k, i < n → j < n → i ≠ j → B i k → ¬ B j k

def sums {α : Type} (f : α → Nat) : List α → Nat
  | [] => 0
  | x :: t => f x + sums f t
def mks {α : Type} (K : Kd α) : List α → Int → List α
  | [], _ => []
  | x :: t, k => K.mrk x k :: mks K t (k + K.cnt x)

/-- A row of them. -/
def kRow {α : Type} (K : Kd α) : Kd (List α) where
  wd := 1
  is o w S vs l := ∃ a c, vs = [.slice a l.length c] ∧ l.length ≤ maxLen ∧ (o = true → l.length ≤ c) ∧ (l = [] ∨ ∃ b off B C, a = some ⟨b, off, none⟩ ∧ b < w.heap.size ∧ S b ∧ RowC K o w b off B C l ∧ (∀ i k, i < l.length → B i k → S k) ∧ (o = true → Apart b l.length B))
  sz l := l.length + sums K.sz l
  cnt l := sums K.cnt l
  mrk l k := mks K l k
  len h := by obtain ⟨a, c, rfl, _⟩ := h; rfl
  keep {o w w' S vs l} h hz hk := by
    obtain ⟨a, c, rfl, hl, hc, h0 | ⟨b, off, B, C, rfl, hlt, hb, hr, hs, hd⟩⟩ := h
    · exact ⟨a, c, rfl, hl, hc, .inl h0⟩
    · refine ⟨_, c, rfl, hl, hc, .inr ⟨b, off, B, C, rfl, Nat.lt_of_lt_of_le hlt hz, hb, fun i x hx => ?_, hs, hd⟩⟩
      have hi : i < l.length := (List.getElem?_eq_some_iff.1 hx).1
      obtain ⟨h1, h2⟩ := hr i x hx
      refine ⟨K.keep h1 hz (fun k h' h'' => hk k h' (hs i k hi h'')), fun j v hj => ?_⟩
      rw [World.cell?_of_block (w := w) (hk b hlt hb), World.frozen?_of_block (w := w) (hk b hlt hb)]
      exact h2 j v hj
  read h := by
    obtain ⟨a, c, rfl, hl, hc, h0 | ⟨b, off, B, C, rfl, hlt, hb, hr, hs, hd⟩⟩ := h
    · exact ⟨a, c, rfl, hl, fun h => (by cases h), .inl h0⟩
    · exact ⟨_, c, rfl, hl, fun h => (by cases h), .inr ⟨b, off, B, C, rfl, hlt, hb, fun i x hx => ⟨K.read (hr i x hx).1, fun j v hj => ⟨((hr i x hx).2 j v hj).1, fun h => by cases h⟩⟩, hs, fun h => by cases h⟩⟩
  tight {o w S S' vs l} h hs' := by
    obtain ⟨a, c, rfl, hl, hc, h0 | ⟨b, off, B, C, rfl, hlt, hb, hr, hs, hd⟩⟩ := h
    · exact ⟨a, c, rfl, hl, hc, .inl h0⟩
    · refine ⟨_, c, rfl, hl, hc, .inr ⟨b, off, fun i k => B i k ∧ k < w.heap.size, C, rfl, hlt, hs' b hlt hb, fun i x hx => ⟨K.tight (hr i x hx).1 (fun k h0 h' => ⟨h', h0⟩), (hr i x hx).2⟩, fun i k hi h' => hs' k h'.2 (hs i k hi h'.1), fun e => ⟨fun i hi h' => (hd e).1 i hi h'.1, fun i j k hi hj hn h' h'' => (hd e).2 i j k hi hj hn h'.1 h''.1⟩⟩⟩

/-- What is marked at the head of a value: only what lies behind it. -/
def kHead {α : Type} (K : Kd α) : Kd α := { K with cnt := fun _ => 0, mrk := fun d _ => d }

theorem sums_append {α : Type} (f : α → Nat) : ∀ a b : List α, sums f (a ++ b) = sums f a + sums f b
  | [], b => by simp [sums]
  | x :: t, b => by simp only [List.cons_append, sums, sums_append f t b]; omega
theorem sums_take_le {α : Type} (f : α → Nat) : ∀ (l : List α) (i : Nat), sums f (l.take i) ≤ sums f l
  | [], i => by simp [sums]
  | x :: t, 0 => by simp [sums]
  | x :: t, i + 1 => by simp only [List.take_succ_cons, sums]; have := sums_take_le f t i; omega
theorem sums_next {α : Type} (f : α → Nat) (l : List α) (i : Nat) (x : α) (h : l[i]? = some x) : sums f (l.take (i + 1)) = sums f (l.take i) + f x := by
  rw [List.take_add_one, h, sums_append]
  rfl
theorem sums_le_of {α : Type} (f g : α → Nat) (c : Nat) (h : ∀ x, f x ≤ c * (1 + g x)) : ∀ l : List α, sums f l ≤ c * (l.length + sums g l)
  | [] => by simp [sums]
  | x :: t => by
    have h1 := sums_le_of f g c h t
    have h2 := h x
    simp only [sums, List.length_cons, Nat.mul_add, Nat.mul_one] at *
    omega
theorem sums_zero {α : Type} (l : List α) : sums (fun _ => 0) l = 0 := by
  induction l with
  | nil => rfl
  | cons x t ih => simp [sums, ih]
theorem sums_const {α : Type} (c : Nat) (l : List α) : sums (fun _ => c) l = l.length * c := by
  induction l with
  | nil => simp [sums]
  | cons x t ih => simp only [sums, ih, List.length_cons, Nat.add_mul, Nat.one_mul]; omega
theorem sums_ge {α : Type} (f : α → Nat) (l : List α) (i : Nat) (x : α) (h : l[i]? = some x) : f x ≤ sums f l := by
  have h1 := sums_next f l i x h
  have h2 := sums_take_le f l (i + 1)
  omega
theorem mks_length {α : Type} (K : Kd α) : ∀ (l : List α) (k : Int), (mks K l k).length = l.length
  | [], _ => rfl
  | x :: t, k => by simp [mks, mks_length K t]
theorem mks_append {α : Type} (K : Kd α) : ∀ (a b : List α) (k : Int), mks K (a ++ b) k = mks K a k ++ mks K b (k + sums K.cnt a)
  | [], b, k => by simp [mks, sums]
  | x :: t, b, k => by
    simp only [List.cons_append, mks, mks_append K t b, sums]
    congr 2
    congr 1
    omega
theorem mks_at {α : Type} (K : Kd α) : ∀ (l : List α) (k : Int) (i : Nat) (x : α), l[i]? = some x → (mks K l k)[i]? = some (K.mrk x (k + sums K.cnt (l.take i)))
  | [], _, i, x, h => by simp at h
  | y :: t, k, 0, x, h => by
    obtain rfl : y = x := by simpa using h
    simp [mks, sums]
  | y :: t, k, i + 1, x, h => by
    have h' : t[i]? = some x := by simpa using h
    have := mks_at K t (k + K.cnt y) i x h'
    simp only [mks, List.getElem?_cons_succ, this, List.take_succ_cons, sums]
    congr 2
    omega
/-- The first i marked, the others not yet. -/
def mkTil {α : Type} (K : Kd α) (l : List α) (k0 : Int) (i : Nat) : List α := mks K (l.take i) k0 ++ l.drop i
theorem mkTil_zero {α : Type} (K : Kd α) (l : List α) (k0 : Int) : mkTil K l k0 0 = l := by simp [mkTil, mks]
theorem mkTil_all {α : Type} (K : Kd α) (l : List α) (k0 : Int) : mkTil K l k0 l.length = mks K l k0 := by simp [mkTil]
theorem mkTil_length {α : Type} (K : Kd α) (l : List α) (k0 : Int) (i : Nat) : (mkTil K l k0 i).length = l.length := by
  simp only [mkTil, List.length_append, mks_length, List.length_take, List.length_drop]
  omega
theorem mkTil_at {α : Type} (K : Kd α) (l : List α) (k0 : Int) (i : Nat) (h : i < l.length) : (mkTil K l k0 i)[i]? = l[i]? := by
  unfold mkTil
  rw [List.getElem?_append_right (by rw [mks_length, List.length_take]; omega), mks_length, List.length_take, List.getElem?_drop]
  congr 1
  omega
theorem mkTil_next {α : Type} (K : Kd α) (l : List α) (k0 : Int) (i : Nat) (x : α) (h : l[i]? = some x) : (mkTil K l k0 i).set i (K.mrk x (k0 + sums K.cnt (l.take i))) = mkTil K l k0 (i + 1) := by
  have hi : i < l.length := (List.getElem?_eq_some_iff.1 h).1
  have hd : l.drop i = x :: l.drop (i + 1) := by
    rw [List.drop_eq_getElem_cons hi]
    congr 1
    exact (List.getElem?_eq_some_iff.1 h).2
  have ht : l.take (i + 1) = l.take i ++ [x] := by rw [List.take_add_one, h]; rfl
  have hlen : (mks K (l.take i) k0).length = i := by rw [mks_length, List.length_take]; omega
  unfold mkTil
  rw [hd, ht, mks_append]
  rw [List.set_append_right _ _ (by omega), hlen]
  simp [mks]

theorem RowC.put {α : Type} {K : Kd α} {w w' : World} {b off : Nat} {B : Nat → Nat → Prop} {C : Nat → List Value} {l : List α} {i : Nat} {x' : α} {C' : List Value} (h : RowC K true w b off B C l) (hi : i < l.length) (ha : Apart b l.length B)
    (ho : OnlyO (B i) b (off + i * K.wd) (off + i * K.wd + K.wd) w w') (hx : K.is true w' (B i) C' x') (hc : ∀ j v, C'[j]? = some v → w'.cell? ⟨b, off + i * K.wd + j, none⟩ = some v) :
    RowC K true w' b off B (fun j => if j = i then C' else C j) (l.set i x') := by
  intro j y hy
  by_cases e : j = i
  · subst e
    rw [List.getElem?_set_self hi] at hy
    obtain rfl : x' = y := by simpa using hy
    simp only [if_pos]
    refine ⟨hx, fun q v hq => ⟨hc q v hq, fun _ => ?_⟩⟩
    have hq' : q < K.wd := by rw [← K.len hx]; exact (List.getElem?_eq_some_iff.1 hq).1
    obtain ⟨h1, h2⟩ := h j l[j] (List.getElem?_eq_getElem hi)
    have hq2 : q < (C j).length := by rw [K.len h1]; exact hq'
    rw [ho.frozen]
    exact (h2 q (C j)[q] (List.getElem?_eq_getElem hq2)).2 rfl
  · rw [List.getElem?_set_ne (fun h => e h.symm)] at hy
    simp only [if_neg e]
    obtain ⟨h1, h2⟩ := h j y hy
    have hj : j < l.length := (List.getElem?_eq_some_iff.1 hy).1
    refine ⟨K.keep h1 ho.size (fun k hk h' => ho.block k hk (fun e' => ha.1 j hj (e' ▸ h')) (ha.2 j i k hj hi e h')), fun q v hq => ?_⟩
    have hq' : q < K.wd := by rw [← K.len h1]; exact (List.getElem?_eq_some_iff.1 hq).1
    rw [ho.frozen, ho.cell _ (by
      rcases Nat.lt_or_gt_of_ne e with e1 | e1
      · left
        have := Nat.mul_le_mul_right K.wd (show j + 1 ≤ i from e1)
        rw [Nat.add_mul, Nat.one_mul] at this
        omega
      · right
        have := Nat.mul_le_mul_right K.wd (show i + 1 ≤ j from e1)
        rw [Nat.add_mul, Nat.one_mul] at this
        omega)]
    exact ⟨(h2 q v hq).1, fun _ => (h2 q v hq).2 rfl⟩

/-- Cells put one behind the other. -/
def putCells (w : World) (b o : Nat) : List Value → World
  | [] => w
  | v :: t => putCells (w.setCell ⟨b, o, none⟩ v) b (o + 1) t
theorem putCells_only {S : Nat → Prop} {b lo hi : Nat} : ∀ (vs : List Value) (o : Nat) (w : World), lo ≤ o → o + vs.length ≤ hi → OnlyO S b lo hi w (putCells w b o vs)
  | [], o, w, _, _ => OnlyO.refl _ _ _ _ _
  | v :: t, o, w, h0, h1 => by
    simp only [List.length_cons] at h1
    exact (OnlyO.set w v h0 (by omega)).trans (putCells_only t (o + 1) _ (by omega) (by omega))
theorem putCells_cell {b : Nat} : ∀ (vs : List Value) (o : Nat) (w : World) (_ : ∀ j, j < vs.length → (w.cell? ⟨b, o + j, none⟩).isSome = true) (j : Nat) (v : Value), vs[j]? = some v → (putCells w b o vs).cell? ⟨b, o + j, none⟩ = some v
  | [], o, w, _, j, v, h => by simp at h
  | x :: t, o, w, hw, 0, v, h => by
    obtain rfl : x = v := by simpa using h
    have := (putCells_only (S := fun _ => False) (b := b) (lo := o + 1) (hi := o + 1 + t.length) t (o + 1) (w.setCell ⟨b, o, none⟩ x) (Nat.le_refl _) (Nat.le_refl _)).cell o (.inl (by omega))
    simp only [putCells, Nat.add_zero]
    have h0 := hw 0 (by simp)
    rw [Nat.add_zero] at h0
    rw [this, cell_set h0, if_pos rfl]
  | x :: t, o, w, hw, j + 1, v, h => by
    have h' : t[j]? = some v := by simpa using h
    have := putCells_cell (b := b) t (o + 1) (w.setCell ⟨b, o, none⟩ x) (fun q hq => by
      have hq1 := hw (q + 1) (by simp; omega)
      have hq0 := hw 0 (by simp)
      simp only [Nat.add_zero] at hq0
      rw [cell_set hq0, if_neg (by omega)]
      rw [show o + 1 + q = o + (q + 1) by omega]
      exact hq1) j v h'
    rw [show o + (j + 1) = o + 1 + j by omega]
    exact this

theorem OnlyO.mono {S S' : Nat → Prop} {b lo hi : Nat} {w w' : World} (h : OnlyO S b lo hi w w') (hs : ∀ k, S k → S' k) : OnlyO S' b lo hi w w' :=
  ⟨h.os, h.tape, h.output, h.size, fun k hk hn hS => h.block k hk hn (fun e => hS (hs k e)), h.cell, h.frozen⟩
theorem OnlyO.keepK {α : Type} {K : Kd α} {o : Bool} {T S : Nat → Prop} {b lo hi : Nat} {w w' : World} {vs : List Value} {d : α} (ho : OnlyO S b lo hi w w') (h : K.is o w T vs d) (hs : ∀ k, T k → k ≠ b ∧ ¬ S k) : K.is o w' T vs d :=
  K.keep h ho.size (fun k hk hT => ho.block k hk (hs k hT).1 (hs k hT).2)
theorem cells_nil {P : Nat → Value → Prop} : ∀ j u, ([] : List Value)[j]? = some u → P j u := fun j u h => by simp at h
theorem cells_cons {P : Nat → Value → Prop} {v : Value} {t : List Value} (h0 : P 0 v) (h1 : ∀ j u, t[j]? = some u → P (j + 1) u) : ∀ j u, (v :: t)[j]? = some u → P j u
  | 0, u, h => by
    obtain rfl : v = u := by simpa using h
    exact h0
  | j + 1, u, h => h1 j u (by simpa using h)
theorem frozen_later {w wx : World} {a : Addr} {v : Value} (hb : Below w.heap.size w wx) (h : w.cell? a = some v) (hf : w.frozen? a = false) : wx.frozen? a = false :=
  (hb.frozen (World.block_lt_of_cell? _ _ h)).trans hf
theorem cell_keptO {S : Nat → Prop} {w wx : World} {b o : Nat} {v : Value} (hb : KeptO S w wx) (h : w.cell? ⟨b, o, none⟩ = some v) (hn : ¬ S b) : wx.cell? ⟨b, o, none⟩ = some v :=
  (hb.cell (World.block_lt_of_cell? _ _ h) hn).trans h
theorem frozen_keptO {S : Nat → Prop} {w wx : World} {b o : Nat} {v : Value} (hb : KeptO S w wx) (h : w.cell? ⟨b, o, none⟩ = some v) (hf : w.frozen? ⟨b, o, none⟩ = false) (hn : ¬ S b) : wx.frozen? ⟨b, o, none⟩ = false :=
  (hb.frozen (World.block_lt_of_cell? _ _ h) hn).trans hf
theorem frozen_set {w : World} {b o o' : Nat} {v : Value} (h : w.frozen? ⟨b, o, none⟩ = false) : (w.setCell ⟨b, o', none⟩ v).frozen? ⟨b, o, none⟩ = false := by
  rw [World.frozen?_setCell]
  exact h
/-- A row while it is filled: block g has room for n, the first of it are l. -/
structure FillO {α : Type} (K : Kd α) (w : World) (g n : Nat) (l : List α) : Prop where
  lt : g < w.heap.size
  room : ∀ o, o < n * K.wd → (w.cell? ⟨g, o, none⟩).isSome = true ∧ w.frozen? ⟨g, o, none⟩ = false
  row : ∃ B C, RowC K true w g 0 B C l ∧ (∀ i k, i < l.length → B i k → g < k ∧ k < w.heap.size) ∧ Apart g l.length B

theorem FillO.below {α : Type} {K : Kd α} {w w' : World} {g n : Nat} {l : List α} (h : FillO K w g n l) (hb : Below w.heap.size w w') : FillO K w' g n l := by
  obtain ⟨h1, h2, B, C, h3, h4, h5⟩ := h
  refine ⟨Nat.lt_of_lt_of_le h1 hb.size, fun o ho => ?_, B, C, fun i x hx => ?_, fun i k hi hk => ?_, h5⟩
  · rw [hb.cell h1, hb.frozen h1]
    exact h2 o ho
  · refine ⟨Kd.below (h3 i x hx).1 hb, fun j v hj => ?_⟩
    rw [hb.cell h1, hb.frozen h1]
    exact (h3 i x hx).2 j v hj
  · have := h4 i k hi hk
    have := hb.size
    omega
theorem FillO.start {α : Type} (K : Kd α) {w : World} {g n : Nat} (hg : g < w.heap.size) (h : ∀ o, o < n * K.wd → (w.cell? ⟨g, o, none⟩).isSome = true ∧ w.frozen? ⟨g, o, none⟩ = false) : FillO K w g n [] :=
  ⟨hg, h, fun _ _ => False, fun _ => [], fun i x hx => by simp at hx, fun i k hi => by simp at hi, ⟨fun i hi => by simp at hi, fun i j k hi => by simp at hi⟩⟩
theorem FillO.next {α : Type} {K : Kd α} {w w' W : World} {g n : Nat} {l : List α} {x : α} {vs : List Value} (h : FillO K w g n l) (hl : l.length < n) (hb : Below w.heap.size w w') (hx : K.is true w' (fun k => w.heap.size ≤ k) vs x)
    (hW : W = putCells w' g (l.length * K.wd) vs) : FillO K W g n (l ++ [x]) ∧ BelowBut w'.heap.size g w' W := by
  obtain ⟨h1, h2, B, C, h3, h4, h5⟩ := h
  have hz := hb.size
  have hlen := K.len hx
  have hlw : l.length * K.wd + K.wd ≤ n * K.wd := by
    have := Nat.mul_le_mul_right K.wd (show l.length + 1 ≤ n from hl)
    rw [Nat.add_mul, Nat.one_mul] at this
    exact this
  have ho : OnlyO (fun _ => False) g (l.length * K.wd) (l.length * K.wd + K.wd) w' W := by
    rw [hW]
    exact putCells_only vs _ _ (Nat.le_refl _) (by omega)
  have hcell : ∀ j v, vs[j]? = some v → W.cell? ⟨g, l.length * K.wd + j, none⟩ = some v := by
    rw [hW]
    exact putCells_cell vs _ _ (fun j hj => by rw [hb.cell h1]; exact (h2 _ (by omega)).1)
  have hBB : BelowBut w'.heap.size g w' W := ⟨ho.os, ho.tape, ho.output, ho.size, fun k hk hn => ho.block k hk hn (fun h => h)⟩
  have hoz := ho.size
  refine ⟨⟨by omega, fun o hoo => ⟨?_, ?_⟩, fun i k => if i = l.length then w.heap.size ≤ k ∧ k < w'.heap.size else B i k, fun i => if i = l.length then vs else C i, fun i y hy => ?_, fun i k hi hk => ?_, ⟨fun i hi hk => ?_, fun i j k hi hj hn hk hk' => ?_⟩⟩, hBB⟩
  · by_cases e : o < l.length * K.wd ∨ l.length * K.wd + K.wd ≤ o
    · rw [ho.cell o e, hb.cell h1]
      exact (h2 o hoo).1
    · have hj : o - l.length * K.wd < vs.length := by omega
      have := hcell (o - l.length * K.wd) vs[o - l.length * K.wd] (List.getElem?_eq_getElem hj)
      rw [show l.length * K.wd + (o - l.length * K.wd) = o by omega] at this
      rw [this]
      rfl
  · rw [ho.frozen, hb.frozen h1]
    exact (h2 o hoo).2
  · by_cases e : i = l.length
    · subst e
      obtain rfl : x = y := by simpa using hy
      simp only [if_pos]
      refine ⟨K.keep (K.tight hx (fun k hk h' => ⟨h', hk⟩)) ho.size (fun k hk h' => ho.block k hk (by omega) (fun h => h)), fun j v hj => ?_⟩
      have hj' : j < vs.length := (List.getElem?_eq_some_iff.1 hj).1
      rw [Nat.zero_add]
      exact ⟨hcell j v hj, fun _ => by rw [ho.frozen, hb.frozen h1]; exact (h2 _ (by omega)).2⟩
    · have hi : i < l.length := by
        have := (List.getElem?_eq_some_iff.1 hy).1
        simp at this
        omega
      rw [List.getElem?_append_left hi] at hy
      simp only [if_neg e]
      obtain ⟨y1, y2⟩ := h3 i y hy
      refine ⟨K.keep (Kd.below y1 hb) ho.size (fun k hk h' => ho.block k hk (by have := h4 i k hi h'; omega) (fun h => h)), fun j v hj => ?_⟩
      have hj' : j < K.wd := by rw [← K.len y1]; exact (List.getElem?_eq_some_iff.1 hj).1
      have hlt' : i * K.wd + K.wd ≤ l.length * K.wd := by
        have := Nat.mul_le_mul_right K.wd (show i + 1 ≤ l.length from hi)
        rw [Nat.add_mul, Nat.one_mul] at this
        exact this
      rw [ho.cell _ (.inl (by omega)), ho.frozen, hb.cell h1, hb.frozen h1]
      exact ⟨(y2 j v hj).1, fun _ => (y2 j v hj).2 rfl⟩
  · simp only [List.length_append, List.length_singleton] at hi
    by_cases e : i = l.length
    · simp only [if_pos e] at hk
      omega
    · simp only [if_neg e] at hk
      have := h4 i k (by omega) hk
      omega
  · simp only [List.length_append, List.length_singleton] at hi
    by_cases e : i = l.length
    · simp only [if_pos e] at hk
      omega
    · simp only [if_neg e] at hk
      exact h5.1 i (by omega) hk
  · simp only [List.length_append, List.length_singleton] at hi hj
    by_cases e : i = l.length
    · simp only [if_pos e] at hk
      simp only [if_neg (show ¬ j = l.length by omega)] at hk'
      have := h4 j k (by omega) hk'
      omega
    · simp only [if_neg e] at hk
      by_cases e' : j = l.length
      · simp only [if_pos e'] at hk'
        have := h4 i k (by omega) hk
        omega
      · simp only [if_neg e'] at hk'
        exact h5.2 i j k (by omega) (by omega) hn hk hk'
/-- A row that is filled. -/
theorem FillO.done {α : Type} {K : Kd α} {w : World} {g n : Nat} {l : List α} (h : FillO K w g n l) (hn : l.length = n) (hm : n ≤ maxLen) {S : Nat → Prop} (hS : ∀ k, g ≤ k → k < w.heap.size → S k) : (kRow K).is true w S [.slice (some ⟨g, 0, none⟩) n n] l := by
  obtain ⟨h1, h2, B, C, h3, h4, h5⟩ := h
  refine ⟨_, n, by rw [hn], by omega, fun _ => by omega, .inr ⟨g, 0, B, C, rfl, h1, hS g (Nat.le_refl _) h1, h3, fun i k hi hk => ?_, fun _ => h5⟩⟩
  have := h4 i k hi hk
  exact hS k (by omega) this.2

/-- A row's form, and one of it. -/
theorem row_form {α : Type} {K : Kd α} {o : Bool} {w : World} {S : Nat → Prop} {vs : List Value} {l : List α} (h : (kRow K).is o w S vs l) : ∃ a c, vs = [.slice a l.length c] ∧ l.length ≤ maxLen ∧ (o = true → l.length ≤ c) := by
  obtain ⟨a, c, h1, h2, h3, _⟩ := h
  exact ⟨a, c, h1, h2, h3⟩
theorem row_at {α : Type} {K : Kd α} {o : Bool} {w : World} {S : Nat → Prop} {a : Option Addr} {n c : Nat} {l : List α} (h : (kRow K).is o w S [.slice a n c] l) {i : Nat} {x : α} (hx : l[i]? = some x) :
    ∃ b off B C, a = some ⟨b, off, none⟩ ∧ b < w.heap.size ∧ S b ∧ K.is o w B C x ∧ (∀ k, B k → S k) ∧ ∀ j v, C[j]? = some v → w.cell? ⟨b, off + i * K.wd + j, none⟩ = some v ∧ (o = true → w.frozen? ⟨b, off + i * K.wd + j, none⟩ = false) := by
  obtain ⟨a', c', e, h2, h3, h0 | ⟨b, off, B, C, rfl, hlt, hb, hr, hs, hd⟩⟩ := h
  · rw [h0] at hx
    simp at hx
  · simp only [List.cons.injEq, Value.slice.injEq, and_true] at e
    have hi : i < l.length := (List.getElem?_eq_some_iff.1 hx).1
    exact ⟨b, off, B i, C i, e.1, hlt, hb, (hr i x hx).1, fun k hk => hs i k hi hk, (hr i x hx).2⟩
theorem row_nil {α : Type} (K : Kd α) (o : Bool) (w : World) (S : Nat → Prop) (a : Option Addr) (c : Nat) : (kRow K).is o w S [.slice a 0 c] [] := ⟨a, c, rfl, Nat.zero_le _, fun _ => Nat.zero_le _, .inl rfl⟩
theorem row_len {α : Type} {K : Kd α} {o : Bool} {w : World} {S : Nat → Prop} {a : Option Addr} {n c : Nat} {l : List α} (h : (kRow K).is o w S [.slice a n c] l) : n = l.length := by
  obtain ⟨a', c', e, _⟩ := h
  simp only [List.cons.injEq, Value.slice.injEq, and_true] at e
  exact e.2.1
/-- One of a row that may be written, written anew. -/
theorem row_put {α : Type} {K : Kd α} {w : World} {S : Nat → Prop} {a : Option Addr} {n c : Nat} {l : List α} (h : (kRow K).is true w S [.slice a n c] l) {i : Nat} {x : α} (hx : l[i]? = some x) :
    ∃ b off B C, a = some ⟨b, off, none⟩ ∧ b < w.heap.size ∧ S b ∧ ¬ B b ∧ K.is true w B C x ∧ (∀ k, B k → S k) ∧ (∀ j v, C[j]? = some v → w.cell? ⟨b, off + i * K.wd + j, none⟩ = some v ∧ w.frozen? ⟨b, off + i * K.wd + j, none⟩ = false) ∧
      ∀ w' x' C', OnlyO B b (off + i * K.wd) (off + i * K.wd + K.wd) w w' → K.is true w' B C' x' → (∀ j v, C'[j]? = some v → w'.cell? ⟨b, off + i * K.wd + j, none⟩ = some v) → (kRow K).is true w' S [.slice a n c] (l.set i x') := by
  obtain ⟨a', c', e, h2, h3, h0 | ⟨b, off, B, C, rfl, hlt, hb, hr, hs, hd⟩⟩ := h
  · rw [h0] at hx
    simp at hx
  · simp only [List.cons.injEq, Value.slice.injEq, and_true] at e
    have hi : i < l.length := (List.getElem?_eq_some_iff.1 hx).1
    refine ⟨b, off, B i, C i, e.1, hlt, hb, (hd rfl).1 i hi, (hr i x hx).1, fun k hk => hs i k hi hk, fun j v hj => ⟨((hr i x hx).2 j v hj).1, ((hr i x hx).2 j v hj).2 rfl⟩, fun w' x' C' ho hx' hc' => ?_⟩
    obtain ⟨rfl, rfl, rfl⟩ := e
    refine ⟨_, c, by rw [List.length_set], by rw [List.length_set]; exact h2, fun _ => by rw [List.length_set]; exact h3 rfl, .inr ⟨b, off, B, _, rfl, Nat.lt_of_lt_of_le hlt ho.size, hb, hr.put hi (hd rfl) ho hx' hc', fun j k hj hk => hs j k (by rw [List.length_set] at hj; exact hj) hk, fun _ => by rw [List.length_set]; exact hd rfl⟩⟩

theorem mloop_size : ∀ (f : Nat) (k : Int) (out : ByteArray), (mloop f k out).size ≤ out.size + f
  | 0, k, out => by simp [mloop]
  | f + 1, k, out => by
    unfold mloop
    split
    · have := mloop_size f (k / 10) (digB k ++ out)
      have h1 : (digB k ++ out).size = out.size + 1 := by simp [digB, strOfNums_size]; omega
      omega
    · omega
theorem mtext_size (k : Int) : (mtext k).size ≤ 42 := by
  have := mloop_size 41 k ⟨#[]⟩
  have h0 : (⟨#[]⟩ : ByteArray).size = 0 := rfl
  unfold mtext
  rw [ByteArray.size_append]
  have h1 : (⟨#[109]⟩ : ByteArray).size = 1 := rfl
  omega
end Go.Proofs.Ytdlodeklheapgaa
