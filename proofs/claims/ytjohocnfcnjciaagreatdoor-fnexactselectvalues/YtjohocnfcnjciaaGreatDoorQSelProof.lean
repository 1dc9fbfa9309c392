/- A row of values in memory. No condition. The frame of a law over a row of values: what came in, opened. What SelectValues answers. No program in this text. The specification's SelectValues. The program's SelectValues. A row of values: weighed, copied, compared, marked. No condition. FnExactSelectValues answers true at every filter and row of values: SelectValues answers as the specification, writes into nothing, and its answer is its own. FnExactSelectValues: for every filter and every row of values the law answers true and its arguments read as they did; the library's tables are tied to its text by the card. No other condition. -/
import Derived.Test.YtjohocnfcnjciaaGreatDoorQClT
import Derived.Test.YtjohocnfcnjciaaGreatDoorStrs0
import Derived.Test.YtjohocnfcnjciaaGreatDoorQFilAw
import Derived.Test.YtjohocnfcnjciaaGreatDoorQuote
import Derived.Deep.RegionHeld3
namespace Go.Proofs.YtjohocnfcnjciaaGreatDoor
open Go.RowKit
set_option linter.unusedVariables false

/-- What a value says. -/
structure Vl where
  n : Nat
  N : Nat → Nd
/-- The cell of a value. -/
structure Vc where
  a : Option Addr
  n : Nat
  c : Nat
def zeroVc : Vc := ⟨none, 0, 0⟩
def zeroVl : Vl := ⟨0, fun _ => zeroNd⟩
/-- The cells of t values. -/
def VRow (w : World) (b off t : Nat) (R : Nat → Vc) : Prop := ∀ i, i < t → w.cell? ⟨b, off + i, none⟩ = some (.slice (R i).a (R i).n (R i).c)
def VFree (w : World) (b t : Nat) : Prop := ∀ i, i < t → w.frozen? ⟨b, i, none⟩ = false
theorem VRow.below {w w' : World} {B b off t : Nat} {R : Nat → Vc} (h : VRow w b off t R) (hb : Below B w w') (hB : b < B) : VRow w' b off t R := fun i hi => (hb.cell hB).trans (h i hi)
theorem VRow.but {w w' : World} {B g b off t : Nat} {R : Nat → Vc} (h : VRow w b off t R) (hb : BelowBut B g w w') (hB : b < B) (hne : b ≠ g) : VRow w' b off t R := fun i hi => (hb.cell hB hne).trans (h i hi)
theorem VFree.below {w w' : World} {B b t : Nat} (h : VFree w b t) (hb : Below B w w') (hB : b < B) : VFree w' b t := fun i hi => (hb.frozen hB).trans (h i hi)
theorem VFree.but {w w' : World} {B g b t : Nat} (h : VFree w b t) (hb : BelowBut B g w w') (hB : b < B) (hne : b ≠ g) : VFree w' b t := fun i hi => (hb.frozen hB hne).trans (h i hi)
theorem VRow.set {w : World} {b t k : Nat} {R : Nat → Vc} (h : VRow w b 0 t R) (hk : k < t) (x : Vc) : VRow (w.setCell ⟨b, k, none⟩ (.slice x.a x.n x.c)) b 0 t (fun i => if i = k then x else R i) := fun i hi => by
  have h0 := h k hk
  rw [Nat.zero_add] at h0 ⊢
  rw [cell_set (by rw [h0]; rfl)]
  by_cases e : i = k
  · simp [e]
  · have := h i hi
    rw [Nat.zero_add] at this
    simp [e, this]
/-- The slice value that came in: t values V. -/
def VArg (w : World) (a : Option Addr) (t : Nat) (V : Nat → Vl) : Prop := t = 0 ∨ ∃ b off R, a = some ⟨b, off, none⟩ ∧ b < w.heap.size ∧ VRow w b off t R ∧ ∀ i, i < t → (R i).n = (V i).n ∧ ArgIs w (R i).a (V i).n (V i).N
theorem VArg.below {w w' : World} {a : Option Addr} {t : Nat} {V : Nat → Vl} (h : VArg w a t V) (hb : Below w.heap.size w w') : VArg w' a t V := by
  rcases h with h | ⟨b, off, R, rfl, hlt, hat, ht⟩
  · exact .inl h
  · exact .inr ⟨b, off, R, rfl, Nat.lt_of_lt_of_le hlt hb.size, hat.below hb hlt, fun i hi => ⟨(ht i hi).1, (ht i hi).2.below hb⟩⟩
theorem VArg.at {w : World} {a : Option Addr} {t : Nat} {V : Nat → Vl} (h : VArg w a t V) {i : Nat} (hi : i < t) : ∃ b off va vc, a = some ⟨b, off, none⟩ ∧ b < w.heap.size ∧ w.cell? ⟨b, off + i, none⟩ = some (.slice va (V i).n vc) ∧ ArgIs w va (V i).n (V i).N := by
  rcases h with h | ⟨b, off, R, rfl, hlt, hat, ht⟩
  · omega
  · have h0 := hat i hi
    rw [(ht i hi).1] at h0
    exact ⟨b, off, _, _, rfl, hlt, h0, (ht i hi).2⟩
/-- A value of one's own, by its cell. -/
def VcOwn (w : World) (g : Nat) (x : Vc) (y : Vl) : Prop := x.n = y.n ∧ y.n ≤ x.c ∧ OwnAt w g (.slice x.a x.n x.c) y.n y.N
theorem VcOwn.below {w w' : World} {g : Nat} {x : Vc} {y : Vl} (h : VcOwn w g x y) (hb : Below w.heap.size w w') : VcOwn w' g x y := ⟨h.1, h.2.1, h.2.2.below hb⟩
theorem VcOwn.but {w w' : World} {g b : Nat} {x : Vc} {y : Vl} (h : VcOwn w g x y) (hb : BelowBut w.heap.size b w w') (hne : g ≠ b) : VcOwn w' g x y := ⟨h.1, h.2.1, h.2.2.but hb hne⟩
/-- A row of t values of one's own in block b, value i in block G i. -/
def VOwn (w : World) (b : Nat) (a : Option Addr) (t : Nat) (V : Nat → Vl) (G : Nat → Nat) : Prop := t ≤ 2 ^ 30 ∧ (t = 0 ∨ (a = some ⟨b, 0, none⟩ ∧ b < w.heap.size ∧ ∃ R, VRow w b 0 t R ∧ VFree w b t ∧ ∀ i, i < t → VcOwn w (G i) (R i) (V i))) ∧ (∀ i, i < t → b < G i ∧ G i < w.heap.size) ∧ ∀ i j, i < j → j < t → G i < G j
theorem VOwn.below {w w' : World} {b : Nat} {a : Option Addr} {t : Nat} {V : Nat → Vl} {G : Nat → Nat} (h : VOwn w b a t V G) (hb : Below w.heap.size w w') : VOwn w' b a t V G := by
  obtain ⟨h1, h2, h3, h4⟩ := h
  refine ⟨h1, ?_, fun i hi => ⟨(h3 i hi).1, Nat.lt_of_lt_of_le (h3 i hi).2 hb.size⟩, h4⟩
  rcases h2 with h0 | ⟨e, hlt, R, h5, h6, h7⟩
  · exact .inl h0
  · exact .inr ⟨e, Nat.lt_of_lt_of_le hlt hb.size, R, h5.below hb hlt, h6.below hb hlt, fun i hi => (h7 i hi).below hb⟩
theorem VOwn.arg {w : World} {b : Nat} {a : Option Addr} {t : Nat} {V : Nat → Vl} {G : Nat → Nat} (h : VOwn w b a t V G) : VArg w a t V := by
  obtain ⟨h1, h2, h3, h4⟩ := h
  rcases h2 with h0 | ⟨rfl, hlt, R, h5, h6, h7⟩
  · exact .inl h0
  · refine .inr ⟨b, 0, R, rfl, hlt, h5, fun i hi => ?_⟩
    obtain ⟨e1, e2, e3⟩ := h7 i hi
    exact ⟨e1, e3.argOf.2⟩
/-- One of them, with its cell and what it owns. -/
theorem VOwn.at {w : World} {b : Nat} {a : Option Addr} {t : Nat} {V : Nat → Vl} {G : Nat → Nat} (h : VOwn w b a t V G) {i : Nat} (hi : i < t) : ∃ va vc, a = some ⟨b, 0, none⟩ ∧ b < w.heap.size ∧ w.cell? ⟨b, i, none⟩ = some (.slice va (V i).n vc) ∧ (V i).n ≤ vc ∧ OwnAt w (G i) (.slice va (V i).n vc) (V i).n (V i).N := by
  obtain ⟨h1, h2, h3, h4⟩ := h
  rcases h2 with h0 | ⟨rfl, hlt, R, h5, h6, h7⟩
  · omega
  · obtain ⟨e1, e2, e3⟩ := h7 i hi
    have h8 := h5 i hi
    rw [Nat.zero_add, e1] at h8
    rw [e1] at e3
    exact ⟨_, _, rfl, hlt, h8, e2, e3⟩
theorem infoVal : (Tryz.prog.info? 38).map (fun i => (i.zero, i.size, i.bytes)) = some (some (.agg #[.slice none 0 0]), 1, 24) := by kernel_rfl
theorem make_vals (n : Nat) (hn : n ≤ 2 ^ 30) (W : World) : (Instr.makeSlice 52 (.int .i64 (n : Int)) (.int .i64 (n : Int))).run Tryz.prog W = .ok (.slice (some ⟨W.heap.size, 0, none⟩) n n) (W.alloc (.cells (madeCells #[.slice none 0 0] n) 38)) := by
  obtain ⟨i0, hi, hz0, hz1, hz2⟩ := info_parts infoVal
  have h := run_make (P := Tryz.prog) W 52 38 i0 _ Tryz.underlying52 hi hz0 .i64 .i64 n n (by omega) (by omega) (by rw [hz2]; omega) (by omega)
  rw [hz1] at h
  simpa [Value.cells] using h
theorem vals_made (n : Nat) (W : World) (T : TypeId) : VRow (W.alloc (.cells (madeCells #[.slice none 0 0] n) T)) W.heap.size 0 n (fun _ => zeroVc) ∧ VFree (W.alloc (.cells (madeCells #[.slice none 0 0] n) T)) W.heap.size n :=
  ⟨fun i hi => by rw [Nat.zero_add, World.cell?_alloc_new, made_one _ _ _ hi]; rfl, fun i hi => World.frozen?_alloc_new _ _ _ _⟩
/-- How many nodes there are. -/
def totV (V : Nat → Vl) : Nat → Nat
  | 0 => 0
  | i + 1 => totV V i + (V i).n
theorem totV_mono (V : Nat → Vl) {i t : Nat} (h : i ≤ t) : totV V i ≤ totV V t := by
  induction t with
  | zero => obtain rfl : i = 0 := by omega
            exact Nat.le_refl _
  | succ t ih =>
    by_cases e : i = t + 1
    · subst e; exact Nat.le_refl _
    · have := ih (by omega)
      simp only [totV]
      omega
def BigV (y : Vl) : Prop := y.n ≤ maxLen ∧ ∀ i, i < y.n → (y.N i).text.size ≤ maxLen ∧ (y.N i).name.size ≤ maxLen
def SmallVs (t : Nat) (V : Nat → Vl) : Prop := t ≤ 2 ^ 20 ∧ ∀ i, i < t → SmallN (V i).n (V i).N

end Go.Proofs.YtjohocnfcnjciaaGreatDoor
namespace Go.Proofs.YtjohocnfcnjciaaGreatDoor
open Go.ChangeShapes Go.WideShapes Go.ChangeAt Go.RowKit Go.Deep Go.Joins
set_option linter.unusedVariables false

section
variable {H : Type} {enc : TypeId × Value → H} {W : World}

set_option maxRecDepth 100000 in
/-- A ROW OF VALUES THAT CAME IN, OPENED. -/
theorem open_vals {held : Bool} {base : Nat} {v : Value} {d : DataW H} {p : List MemPlace} (hv : Value.okWide Tryz.prog W .any base 47 v) (h : DataW.Trod enc Tryz.prog W 0 (fun _ => true) held 47 v d p) :
    ∃ (a : Option Addr) (n c : Nat) (V : Nat → Vl), v = .slice a n c ∧ n ≤ maxLen ∧ VArg W a n V ∧ ∀ i, i < n → BigV (V i) := by
  obtain ⟨a0, l0, k0, rfl⟩ := okWide_slice Tryz.underlying47 hv
  obtain ⟨fuel, hf⟩ := h
  have h2 : DataW.trod enc Tryz.prog W 0 (fun _ => true) held fuel 47 [.slice a0 l0 k0] = some (d, p) := by simpa [Value.cells] using hf
  rcases open_slice Tryz.underlying47 h2 with ⟨e, _⟩ | ⟨a, len, cap, m', f', D, Pl, e, _, hl, hm, hmm, _, hx⟩
  · have e' : Value.slice a0 l0 k0 = .slice none 0 0 := by simpa using e
    rw [e']
    exact ⟨none, 0, 0, fun _ => zeroVl, rfl, by unfold maxLen; omega, .inl rfl, fun i hi => by omega⟩
  · have e' : Value.slice a0 l0 k0 = .slice (some a) len cap := by simpa using e
    rw [e']
    rw [cellsLValue] at hx
    have hle : len ≤ m' := by
      rw [hmm]
      split <;> omega
    obtain ⟨R, hR⟩ := @choose_lt (Vc × Vl) ⟨(zeroVc, zeroVl)⟩ len (fun i x => W.cell? ((a.add (i * 1)).add 0) = some (.slice x.1.a x.1.n x.1.c) ∧ x.1.n = x.2.n ∧ ArgIs W x.1.a x.2.n x.2.N ∧ BigV x.2) (fun i hi => by
      obtain ⟨cs', h3, h4⟩ := hx i (by omega)
      obtain ⟨hl4, _, hcell⟩ := World.cells?_some h3
      obtain ⟨xs, m1, _, _, hl1, hlen1, hf1⟩ := DataW.trod_struct Tryz.underlying27 h4
      rw [cellsLValue] at hl1
      match cs', hl1 with
      | [c0], _ =>
        match xs, hlen1 with
        | [y0], _ =>
          have e0 : DataW.trod enc Tryz.prog W 0 (fun _ => true) held m1 25 [c0] = some y0 := hf1 0 _ rfl
          obtain ⟨va, vn, vc, N, rfl, hn, hv, hz⟩ := open_nodes e0
          refine ⟨(⟨va, vn, vc⟩, ⟨vn, N⟩), ?_, rfl, hv, hn, hz⟩
          exact hcell 0 (by simp))
    refine ⟨some a, len, cap, fun i => (R i).2, rfl, by omega, ?_, fun i hi => (hR i hi).2.2.2⟩
    by_cases h0 : len = 0
    · exact .inl h0
    · have c00 := (hR 0 (by omega)).1
      obtain ⟨b, off, spot⟩ := a
      have hsp : spot = none := by
        have := World.cell?_spot c00
        simpa [Addr.add] using this
      subst hsp
      refine .inr ⟨b, off, fun i => (R i).1, rfl, ?_, fun i hi => ?_, fun i hi => ⟨(hR i hi).2.1, (hR i hi).2.2.1⟩⟩
      · have := World.block_lt_of_cell? _ _ c00
        simpa [Addr.add] using this
      · have q0 := (hR i hi).1
        rw [add_plain, add_plain, Nat.mul_one] at q0
        exact q0
end

end Go.Proofs.YtjohocnfcnjciaaGreatDoor
namespace Go.Proofs.YtjohocnfcnjciaaGreatDoor
open Go.RowKit
set_option linter.unusedVariables false

/-- The numbers of the first j values that match. -/
def SvL (C : Cl) (V : Nat → Vl) (j : Nat) : List Nat := (List.range j).filter fun i => C.hits (tree (V i).N (V i).n 0)
theorem SvL.yes {C : Cl} {V : Nat → Vl} {j : Nat} (h : C.hits (tree (V j).N (V j).n 0) = true) : SvL C V (j + 1) = SvL C V j ++ [j] := by
  unfold SvL
  rw [List.range_succ, List.filter_append]
  simp [h]
theorem SvL.no {C : Cl} {V : Nat → Vl} {j : Nat} (h : C.hits (tree (V j).N (V j).n 0) = false) : SvL C V (j + 1) = SvL C V j := by
  unfold SvL
  rw [List.range_succ, List.filter_append]
  simp [h]
theorem SvL.len (C : Cl) (V : Nat → Vl) (j : Nat) : (SvL C V j).length ≤ j := by
  unfold SvL
  exact Nat.le_trans (List.length_filter_le _ _) (by simp)
def SvOK (F : Nat → Tm) (t : Nat) (V : Nat → Vl) (m : Nat) : Prop := GoodF F t ∧ m ≤ 60 ∧ ∀ i, i < m → GoodV (V i).N (V i).n
def SvTold (F : Nat → Tm) (t : Nat) (V : Nat → Vl) (m : Nat) (q : Bool) (l : List Nat) : Prop := (q = true ∧ SvOK F t V m ∧ l = SvL (clF F t (t - 1)) V m) ∨ (q = false ∧ ¬ SvOK F t V m ∧ l = [])
theorem SvTold.same {F : Nat → Tm} {t : Nat} {V : Nat → Vl} {m : Nat} {q q' : Bool} {l l' : List Nat} (h : SvTold F t V m q l) (k : SvTold F t V m q' l') : q = q' ∧ l = l' := by
  rcases h with ⟨rfl, h1, rfl⟩ | ⟨rfl, h1, rfl⟩ <;> rcases k with ⟨rfl, h2, rfl⟩ | ⟨rfl, h2, rfl⟩
  · exact ⟨rfl, rfl⟩
  · exact absurd h1 h2
  · exact absurd h2 h1
  · exact ⟨rfl, rfl⟩
def SvIs (F : Nat → Tm) (t : Nat) (V : Nat → Vl) (m : Nat) (w : World) (e : Ending) (w' : World) : Prop :=
  ∃ v q g l, e = .returned (.tuple #[v, .bool q]) ∧ SvTold F t V m q l ∧ w.heap.size ≤ g ∧ OwnI w' g v l.length (fun j => ((l.getD j 0 : Nat) : Int)) ∧ l.length ≤ 60 ∧ Below w.heap.size w w'
theorem SvIs.no {F : Nat → Tm} {t : Nat} {V : Nat → Vl} {m : Nat} {w w' : World} (h : ¬ SvOK F t V m) (hb : Below w.heap.size w w') : SvIs F t V m w (.returned (.tuple #[.slice none 0 0, .bool false])) w' :=
  ⟨_, _, w.heap.size, [], rfl, .inr ⟨rfl, h, rfl⟩, Nat.le_refl _, ⟨none, 0, rfl, by decide, .inl rfl⟩, by decide, hb⟩
theorem SvIs.yes {F : Nat → Tm} {t : Nat} {V : Nat → Vl} {m B : Nat} {w w' : World} {v : Value} {l : List Nat} (h : SvOK F t V m) (hl : l = SvL (clF F t (t - 1)) V m) (hB : w.heap.size ≤ B) (ho : w'.ownsRow B 3 1 v l.length (intCells l)) (hb : Below w.heap.size w w') : SvIs F t V m w (.returned (.tuple #[v, .bool true])) w' := by
  have h60 : l.length ≤ 60 := by rw [hl]; have := SvL.len (clF F t (t - 1)) V m; have := h.2.1; omega
  obtain ⟨g, hg, hi⟩ := own_row ho (by omega)
  exact ⟨v, true, g, l, rfl, .inl ⟨rfl, h, hl⟩, by omega, hi, h60, hb⟩

end Go.Proofs.YtjohocnfcnjciaaGreatDoor
namespace Go.Proofs.YtjohocnfcnjciaaGreatDoor
open Go.RowKit
set_option linter.unusedVariables false

set_option maxRecDepth 100000 in
set_option maxHeartbeats 4000000 in
theorem specSelect_any (a : Option Addr) (c t : Nat) (F : Nat → Tm) (la : Option Addr) (lc m : Nat) (V : Nat → Vl) (w : World) (hF : FArg w a t F) (hs : SmallF t F) (hv : VArg w la m V) (hsv : SmallVs m V) :
    Calls Tryz.prog 19 #[.agg #[.slice a t c], .slice la m lc] w (SvIs F t V m w) := by
  have H : Hid (FArg w a t F) := hF
  have HS : Hid (SmallF t F) := hs
  have HV : Hid (VArg w la m V) := hv
  have HSV : Hid (SmallVs m V) := hsv
  have t20 := hs.1
  have m20 := hsv.1
  have hal : ∀ o, Below w.heap.size w (w.alloc o) := fun o => (Below.refl _ _).alloc (Nat.le_refl _) o
  clear hF hs hv hsv
  obtain ⟨i0, hi, hz0, hz1, hz2⟩ := info_parts infoInt
  have HI0 : Hid (Tryz.prog.info? 3 = some i0 ∧ i0.zero = some (.int .i64 0) ∧ i0.size = 1 ∧ i0.bytes = 8) := ⟨hi, hz0, hz1, hz2⟩
  clear hi hz0 hz1 hz2
  go_enter Tryz.func19, Tryz.ntmps19
  go_wp2_with fail
  refine (specGoodF_any a c t F _ (H.out.below (hal _)) HS.out).mono ?_
  rintro e w1 ⟨q, rfl, hq, hb1⟩
  have f0 : w1.cell? ⟨w.heap.size, 0, none⟩ = some (.slice a t c) := by rw [hb1.cell (by simp)]; simp [go_sem]
  have HB1 : Hid (Below w.heap.size w w1) := (hal _).trans (hb1.mono (by simp))
  have z1 : w.heap.size < w1.heap.size := by have := hb1.size; simp at this; omega
  clear hb1 hal
  cases q with
  | false =>
    have HN : Hid (¬ SvOK F t V m) := fun h => by simpa using hq.2 h.1
    clear hq
    go_wp2
    exact bodyPost_ret (v := .tuple #[.slice none 0 0, .bool false]) (by simp [results, Tryz.results19, go_sem]) rfl (SvIs.no HN.out HB1.out)
  | true =>
    have HGF : Hid (GoodF F t) := hq.1 rfl
    clear hq
    by_cases m60 : (60 : Int) < (m : Int)
    · have HN : Hid (¬ SvOK F t V m) := fun h => by have := h.2.1; omega
      go_wp2
      exact bodyPost_ret (v := .tuple #[.slice none 0 0, .bool false]) (by simp [results, Tryz.results19, go_sem]) rfl (SvIs.no HN.out HB1.out)
    · obtain ⟨C, hC⟩ : ∃ C, C = clF F t (t - 1) := ⟨_, rfl⟩
      have HC : Hid (C = clF F t (t - 1)) := hC
      clear hC
      go_wp2_with fail
      go_loopw [6, 19] (fun v i wr => ∃ j : Nat, j ≤ m ∧ i = .int .i64 j ∧ wr.ownsRow w1.heap.size 3 1 v (SvL C V j).length (intCells (SvL C V j)) ∧ Below w1.heap.size w1 wr ∧ Hid (∀ i, i < j → GoodV (V i).N (V i).n)) (fun _ i _ => m - (intOf i).toNat)
      case atStart => exact ⟨0, by omega, rfl, World.ownsRow_nil _ _ _ _, Below.refl _ _, fun i hi => by omega⟩
      case round =>
        obtain ⟨j, hj, rfl, hown, hnx, HGJ⟩ := hrel
        have hww : w1.heap.size ≤ wr.heap.size := hnx.size
        have HBr : Hid (Below w.heap.size w wr) := HB1.out.trans (hnx.mono HB1.out.size)
        have HN1 : Hid (Below w1.heap.size w1 wr) := hnx
        by_cases hlt : j < m
        · obtain ⟨b, off, va, vc, rfl, hb, a0, hv⟩ := (HV.out.below HBr.out).at hlt
          have i1 : (0 : Int) ≤ (j : Int) := by omega
          have i2 : (j : Int) < (m : Int) := by omega
          obtain ⟨n, hn⟩ : ∃ n, n = (V j).n := ⟨_, rfl⟩
          obtain ⟨N, hN⟩ : ∃ N, N = (V j).N := ⟨_, rfl⟩
          have HE : Hid (n = (V j).n ∧ N = (V j).N) := ⟨hn, hN⟩
          have HA : Hid (ArgIs wr va n N) := by rw [hn, hN]; exact hv
          have HSM : Hid (SmallN n N) := by rw [hn, hN]; exact HSV.out.2 j hlt
          rw [← hn] at a0
          obtain ⟨kl, hkl⟩ : ∃ kl, kl = SvL C V j := ⟨_, rfl⟩
          have hlen : kl.length ≤ j := by rw [hkl]; exact SvL.len C V j
          rw [← hkl] at hown
          have HOW : Hid (wr.ownsRow w1.heap.size 3 1 u6 kl.length (intCells kl)) := hown
          have HKL : Hid (kl = SvL C V j) := hkl
          clear hv hown hn hN hkl hnx
          go_wp2_with fail
          obtain ⟨W, hW⟩ : ∃ W, W = wr.alloc (.cells #[.slice va n vc] 38) := ⟨_, rfl⟩
          have bW : Below wr.heap.size wr W := by rw [hW]; exact (Below.refl _ _).alloc (Nat.le_refl _) _
          have zW : wr.heap.size < W.heap.size := by rw [hW]; simp
          have z0 : w.heap.size < wr.heap.size := by omega
          have zW' : w.heap.size < W.heap.size := by omega
          have f1 : W.cell? ⟨w.heap.size, 0, none⟩ = some (.slice a t c) := (bW.cell z0).trans ((HN1.out.cell z1).trans f0)
          have g0 : W.cell? ⟨wr.heap.size, 0, none⟩ = some (.slice va n vc) := by rw [hW]; simp [go_sem]
          have HBW : Hid (Below wr.heap.size wr W) := bW
          rw [← hW]
          clear hW bW a0
          refine (specGood_arg va vc n N W (HA.out.below HBW.out) HSM.out).mono ?_
          rintro e w2 ⟨q, rfl, hq, hb2⟩
          have z2 := hb2.size
          replace f1 := (hb2.cell zW').trans f1
          replace g0 := (hb2.cell zW).trans g0
          have HB2 : Hid (Below wr.heap.size wr w2) := HBW.out.trans (hb2.mono HBW.out.size)
          clear hb2
          cases q with
          | false =>
            have HN : Hid (¬ SvOK F t V m) := fun h => by
              have h1 := h.2.2 j hlt
              rw [← HE.out.1, ← HE.out.2] at h1
              simpa using hq.2 h1
            clear hq
            go_wp2
            exact bodyPost_ret (v := .tuple #[.slice none 0 0, .bool false]) (by simp [results, Tryz.results19, go_sem]) rfl (SvIs.no HN.out (HBr.out.trans (HB2.out.mono HBr.out.size)))
          | true =>
            have hgv := hq.1 rfl
            have HGV : Hid (GoodV N n) := hgv
            have n0 : 0 < n := hgv.1.1
            have n80 : n ≤ 80 := hgv.1.2.1
            clear hq hgv
            have HGJ' : Hid (∀ i, i < j + 1 → GoodV (V i).N (V i).n) := fun i hi => by
              by_cases e : i = j
              · subst e
                rw [← HE.out.1, ← HE.out.2]
                exact HGV.out
              · exact HGJ.out i (by omega)
            have m1 : wr.heap.size < w2.heap.size := by omega
            have m0 : w.heap.size < w2.heap.size := by omega
            obtain ⟨q, hq⟩ : ∃ q, q = C.hits (tree N n 0) := ⟨_, rfl⟩
            have HQ : Hid (q = C.hits (tree (V j).N (V j).n 0)) := by rw [← HE.out.1, ← HE.out.2]; exact hq
            have HL : Hid (∀ (W : World) (v : Value), Below w.heap.size w W → Tree W (tree N n 0) v → Calls Tryz.prog 31 #[.agg #[.slice a t c], v] W fun e w' => e = .returned (.bool q) ∧ Below W.heap.size W w') := fun W v hW hv => by rw [hq, HC.out]; exact l5Fits_any w a c t F N n HGV.out H.out HGF.out HS.out W v hW hv
            have HBw2 : Hid (Below w.heap.size w w2) := HBr.out.trans (HB2.out.mono HBr.out.size)
            clear hq
            go_wp2_with fail
            have K2 : w2.cell? ⟨w.heap.size, 0, none⟩ = some (.slice a t c) ∧ w2.cell? ⟨wr.heap.size, 0, none⟩ = some (.slice va n vc) := ⟨f1, g0⟩
            go_region_held3 (fun w' => w'.cell? ⟨w.heap.size, 0, none⟩ = some (.slice a t c) ∧ w'.cell? ⟨wr.heap.size, 0, none⟩ = some (.slice va n vc)) (first | exact K2 | exact K3 | exact K4 | go_keep | fail) (first | (go_at_call 32; refine (l1Tree_any N n n80 n 0 (by omega) n0 va vc w2.drew ((HA.out.below HB2.out).below ((Below.refl _ w2).drew))).mono ?_; rintro e w3 ⟨ya, yc, ym, yka, ykc, ykm, rfl, hyt, hb3⟩; have hb23 : Below w2.heap.size w2 w3 := ((Below.refl _ w2).drew).trans hb3; have z3 := hb23.size; have K3 : w3.cell? ⟨w.heap.size, 0, none⟩ = some (.slice a t c) ∧ w3.cell? ⟨wr.heap.size, 0, none⟩ = some (.slice va n vc) := ⟨(hb23.cell m0).trans f1, (hb23.cell m1).trans g0⟩) | (go_at_call 31; refine (HL.out w3 _ (HBw2.out.trans (hb23.mono HBw2.out.size)) hyt.any).mono ?_; rintro e w4 ⟨rfl, hb4⟩; have K4 : w4.cell? ⟨w.heap.size, 0, none⟩ = some (.slice a t c) ∧ w4.cell? ⟨wr.heap.size, 0, none⟩ = some (.slice va n vc) := ⟨(hb4.cell (Nat.lt_of_lt_of_le m0 z3)).trans K3.1, (hb4.cell (Nat.lt_of_lt_of_le m1 z3)).trans K3.2⟩))
            all_goals
              have hb4' : Below wr.heap.size wr w4 := (HB2.out.trans (hb23.mono HB2.out.size)).trans (hb4.mono (Nat.le_trans HB2.out.size z3))
              have HN4 : Hid (Below w1.heap.size w1 w4) := HN1.out.trans (hb4'.mono HN1.out.size)
              have z4 := hb4'.size
              have HOW4 : Hid (w4.ownsRow w1.heap.size 3 1 u6 kl.length (intCells kl)) := row_keep HOW.out hb4'
              clear hb4 hb23 hb3 K2 K3 K4 f1 g0 hyt hb4'
              cases q with
              | false =>
                go_wp2
                go_roundw
                case rel =>
                  refine ⟨j + 1, by omega, by go_num, ?_, HN4.out, HGJ'⟩
                  rw [SvL.no HQ.out.symm, ← HKL.out]
                  exact HOW4.out
                case measure => simp [intOf]; omega
              | true =>
                go_wp2_with (first | (at_builtin; refine wpList_append_own _ rfl _ _ 49 rfl w1.heap.size 3 i0 (.int .i64 0) 1 8 Tryz.underlying49 HI0.out.1 HI0.out.2.1 HI0.out.2.2.1 HI0.out.2.2.2 rfl (by decide) _ _ _ rfl (HOW4.out.alloc _) ⟨w4.heap.size, 0, none⟩ 1 1 [.int .i64 (j : Int)] rfl rfl ?c1 ?c2 ?c3 ?c4 ?c5 ?_))
                case c1 => exact one_news w4 (.int .i64 (j : Int)) 3
                case c2 => exact one_cell_int _ _
                case c3 => unfold maxLen; omega
                case c4 => omega
                case c5 => simp; omega
                · intro v' w5 hown' hgrow _
                  have HB5 : Hid (Below w1.heap.size w1 w5) := grow_below HOW4.out _ HN4.out (by omega) hgrow
                  have HO5 : Hid (w5.ownsRow w1.heap.size 3 1 v' (SvL C V (j + 1)).length (intCells (SvL C V (j + 1)))) := by
                    show World.ownsRow _ _ _ _ _ _ _
                    rw [SvL.yes HQ.out.symm, ← HKL.out, intCells_snoc, List.length_append]
                    exact hown'
                  clear hown' hgrow
                  go_wp2
                  go_roundw
                  case rel => exact ⟨j + 1, by omega, by go_num, HO5.out, HB5.out, HGJ'⟩
                  case measure => simp [intOf]; omega
        · obtain rfl : j = m := by omega
          have HOW : Hid (wr.ownsRow w1.heap.size 3 1 u6 (SvL C V j).length (intCells (SvL C V j))) := hown
          have HOK : Hid (SvOK F t V j) := ⟨HGF.out, by omega, HGJ.out⟩
          clear hown hnx
          go_wp2
          exact bodyPost_ret (v := .tuple #[u6, .bool true]) (by simp [results, Tryz.results19, go_sem]) rfl (SvIs.yes HOK.out (by rw [HC.out]) HB1.out.size HOW.out HBr.out)

end Go.Proofs.YtjohocnfcnjciaaGreatDoor
namespace Go.Proofs.YtjohocnfcnjciaaGreatDoor
open Go.RowKit
set_option linter.unusedVariables false

/-- The clause is one of four kinds, and its kind says which function matches. -/
theorem ClIs.kind {w0 w : World} {S : Nat → Prop} {C : Cl} {T : TypeId} {y : Value} (h : ClIs w0 w S C (.iface T y)) :
    (T = 112 ∧ mfn C = 164) ∨ (T = 116 ∧ mfn C = 190) ∨ (T = 118 ∧ mfn C = 191) ∨ (T = 120 ∧ mfn C = 192) := by
  cases C with
  | leaf x =>
    rw [ClIs] at h
    obtain ⟨cc, eu, _⟩ := h
    injection eu with e1 e2
    exact .inl ⟨e1, rfl⟩
  | all l =>
    rw [ClIs] at h
    obtain ⟨ka, kc, eu, _⟩ := h
    injection eu with e1 e2
    exact .inr (.inl ⟨e1, rfl⟩)
  | any l =>
    rw [ClIs] at h
    obtain ⟨ka, kc, eu, _⟩ := h
    injection eu with e1 e2
    exact .inr (.inr (.inl ⟨e1, rfl⟩))
  | neg d =>
    rw [ClIs] at h
    obtain ⟨u, eu, _⟩ := h
    injection eu with e1 e2
    exact .inr (.inr (.inr ⟨e1, rfl⟩))

set_option maxRecDepth 100000 in
set_option maxHeartbeats 4000000 in
theorem implSelect_any (a : Option Addr) (c t : Nat) (F : Nat → Tm) (la : Option Addr) (lc m b0 : Nat) (V : Nat → Vl) (G : Nat → Nat) (w : World) (hF : FArg w a t F) (hCF : CapF w a t) (hs : SmallF t F) (hv : VOwn w b0 la m V G) (hsv : SmallVs m V) (htab : Tab w.heap.size w) (hml : ML w) :
    Calls Tryz.prog 21 #[.agg #[.slice a t c], .slice la m lc] w (SvIs F t V m w) := by
  have H : Hid (FArg w a t F) := hF
  have HCF : Hid (CapF w a t) := hCF
  have HS : Hid (SmallF t F) := hs
  have HV : Hid (VOwn w b0 la m V G) := hv
  have HSV : Hid (SmallVs m V) := hsv
  have HTB : Hid (Tab w.heap.size w) := htab
  have HML : Hid (ML w) := hml
  have t20 := hs.1
  have m20 := hsv.1
  have hal : ∀ o, Below w.heap.size w (w.alloc o) := fun o => (Below.refl _ _).alloc (Nat.le_refl _) o
  clear hF hs hv hsv hCF htab hml
  obtain ⟨i0, hi, hz0, hz1, hz2⟩ := info_parts infoInt
  have HI0 : Hid (Tryz.prog.info? 3 = some i0 ∧ i0.zero = some (.int .i64 0) ∧ i0.size = 1 ∧ i0.bytes = 8) := ⟨hi, hz0, hz1, hz2⟩
  clear hi hz0 hz1 hz2
  go_enter Tryz.func21, Tryz.ntmps21
  go_wp2_with fail
  refine (implGoodF_any a c t F _ (H.out.below (hal _)) HS.out (HTB.out.up (hal _)) (HML.out.below (hal _))).mono ?_
  rintro e w1 ⟨q, rfl, hq, hb1⟩
  have f0 : w1.cell? ⟨w.heap.size, 0, none⟩ = some (.slice a t c) := by rw [hb1.cell (by simp)]; simp [go_sem]
  have HB1 : Hid (Below w.heap.size w w1) := (hal _).trans (hb1.mono (by simp))
  have z1 : w.heap.size < w1.heap.size := by have := hb1.size; simp at this; omega
  clear hb1 hal
  cases q with
  | false =>
    have HN : Hid (¬ SvOK F t V m) := fun h => by simpa using hq.2 h.1
    clear hq
    go_wp2
    exact bodyPost_ret (v := .tuple #[.slice none 0 0, .bool false]) (by simp [results, Tryz.results21, go_sem]) rfl (SvIs.no HN.out HB1.out)
  | true =>
    have HGF : Hid (GoodF F t) := hq.1 rfl
    clear hq
    by_cases m60 : (60 : Int) < (m : Int)
    · have HN : Hid (¬ SvOK F t V m) := fun h => by have := h.2.1; omega
      go_wp2
      exact bodyPost_ret (v := .tuple #[.slice none 0 0, .bool false]) (by simp [results, Tryz.results21, go_sem]) rfl (SvIs.no HN.out HB1.out)
    · have hpos := HGF.out.1
      obtain ⟨C, hC⟩ : ∃ C, C = clF F t (t - 1) := ⟨_, rfl⟩
      have HC : Hid (C = clF F t (t - 1)) := hC
      have HPC := plC_facts HGF.out
      rw [← hC] at HPC
      have HM : Hid (∀ (vb n vc : Nat) (va : Option Addr) (N : Nat → Nd), OwnAt w vb (.slice va n vc) n N → GoodV N n → n ≤ vc → ∀ (W : World) (S : Nat → Prop) (T : TypeId) (y : Value), Below w.heap.size w W → ClIs w W S C (.iface T y) → Calls Tryz.prog (mfn C) #[y, .agg #[.slice va n vc]] W fun e w' => e = .returned (.bool (C.hits (tree N n 0))) ∧ Below W.heap.size W w') := fun vb n vc va N hO hG hcap W S T y hW hcl => match_any' w vb n va vc N ⟨hO, hG, hcap, HTB.out, HML.out⟩ C HPC.1 (by have := HPC.2.1; omega) _ W S T y rfl hW hcl
      clear hC HPC
      go_wp2_with fail
      refine (clauseOf_any w a c t F H.out HCF.out (good_ahead HGF.out HS.out) (by omega) (by omega) w1 HB1.out).mono ?_
      rintro e w2 ⟨T, y, rfl, hcl, hb2⟩
      rw [← HC.out] at hcl
      have z2 : w.heap.size < w2.heap.size := by have := hb2.size; omega
      have HB2 : Hid (Below w.heap.size w w2) := HB1.out.trans (hb2.mono HB1.out.size)
      have HK := hcl.kind
      have HCL : Hid (ClIs w w2 (fun b => w1.heap.size ≤ b) C (.iface T y)) := hcl
      clear hcl hb2 f0 HB1 z1
      rcases HK with ⟨rfl, hf⟩ | ⟨rfl, hf⟩ | ⟨rfl, hf⟩ | ⟨rfl, hf⟩
      all_goals
        rw [hf] at HM
        go_wp2_with fail
        go_loopw [7, 22] (fun v i wr => ∃ j : Nat, j ≤ m ∧ i = .int .i64 j ∧ wr.ownsRow w2.heap.size 3 1 v (SvL C V j).length (intCells (SvL C V j)) ∧ Below w2.heap.size w2 wr ∧ Hid (∀ i, i < j → GoodV (V i).N (V i).n)) (fun _ i _ => m - (intOf i).toNat)
        case atStart => exact ⟨0, by omega, rfl, World.ownsRow_nil _ _ _ _, Below.refl _ _, fun i hi => by omega⟩
        case round =>
          obtain ⟨j, hj, rfl, hown, hnx, HGJ⟩ := hrel
          have hww : w2.heap.size ≤ wr.heap.size := hnx.size
          have HBr : Hid (Below w.heap.size w wr) := HB2.out.trans (hnx.mono HB2.out.size)
          have HN1 : Hid (Below w2.heap.size w2 wr) := hnx
          by_cases hlt : j < m
          · obtain ⟨va, vc, rfl, hb, a00, hcap, hv⟩ := HV.out.at hlt
            have a0 : wr.cell? ⟨b0, j, none⟩ = some (.slice va (V j).n vc) := (HBr.out.cell hb).trans a00
            have i1 : (0 : Int) ≤ (j : Int) := by omega
            have i2 : (j : Int) < (m : Int) := by omega
            obtain ⟨n, hn⟩ : ∃ n, n = (V j).n := ⟨_, rfl⟩
            obtain ⟨N, hN⟩ : ∃ N, N = (V j).N := ⟨_, rfl⟩
            have HE : Hid (n = (V j).n ∧ N = (V j).N) := ⟨hn, hN⟩
            have HA : Hid (OwnAt w (G j) (.slice va n vc) n N ∧ n ≤ vc) := by rw [hn, hN]; exact ⟨hv, hcap⟩
            have HSM : Hid (SmallN n N) := by rw [hn, hN]; exact HSV.out.2 j hlt
            rw [← hn] at a0
            obtain ⟨kl, hkl⟩ : ∃ kl, kl = SvL C V j := ⟨_, rfl⟩
            have hlen : kl.length ≤ j := by rw [hkl]; exact SvL.len C V j
            rw [← hkl] at hown
            have HOW : Hid (wr.ownsRow w2.heap.size 3 1 u7 kl.length (intCells kl)) := hown
            have HKL : Hid (kl = SvL C V j) := hkl
            clear hv hown hn hN hkl hnx a00 hcap
            go_wp2_with fail
            obtain ⟨W, hW⟩ : ∃ W, W = wr.alloc (.cells #[.slice va n vc] 38) := ⟨_, rfl⟩
            have bW : Below wr.heap.size wr W := by rw [hW]; exact (Below.refl _ _).alloc (Nat.le_refl _) _
            have zW : wr.heap.size < W.heap.size := by rw [hW]; simp
            have g0 : W.cell? ⟨wr.heap.size, 0, none⟩ = some (.slice va n vc) := by rw [hW]; simp [go_sem]
            have HBW : Hid (Below wr.heap.size wr W) := bW
            rw [← hW]
            clear hW bW a0
            refine (implGood_arg va vc n N W (HA.out.1.argOf.2.below (HBr.out.trans (HBW.out.mono HBr.out.size))) HSM.out (HTB.out.up (HBr.out.trans (HBW.out.mono HBr.out.size)))).mono ?_
            rintro e w3 ⟨q, rfl, hq, hb3⟩
            have z3 := hb3.size
            replace g0 := (hb3.cell zW).trans g0
            have HB3 : Hid (Below wr.heap.size wr w3) := HBW.out.trans (hb3.mono HBW.out.size)
            clear hb3
            cases q with
            | false =>
              have HN : Hid (¬ SvOK F t V m) := fun h => by
                have h1 := h.2.2 j hlt
                rw [← HE.out.1, ← HE.out.2] at h1
                simpa using hq.2 h1
              clear hq
              go_wp2
              exact bodyPost_ret (v := .tuple #[.slice none 0 0, .bool false]) (by simp [results, Tryz.results21, go_sem]) rfl (SvIs.no HN.out (HBr.out.trans (HB3.out.mono HBr.out.size)))
            | true =>
              have HGV : Hid (GoodV N n) := hq.1 rfl
              clear hq
              have HGJ' : Hid (∀ i, i < j + 1 → GoodV (V i).N (V i).n) := fun i hi => by
                by_cases e : i = j
                · subst e
                  rw [← HE.out.1, ← HE.out.2]
                  exact HGV.out
                · exact HGJ.out i (by omega)
              have m1 : wr.heap.size < w3.heap.size := by omega
              have HBw3 : Hid (Below w.heap.size w w3) := HBr.out.trans (HB3.out.mono HBr.out.size)
              have HCL3 : Hid (ClIs w w3 (fun b => w1.heap.size ≤ b) C _) := ClIs.keep (fun b _ hlt => (HN1.out.trans (HB3.out.mono HN1.out.size)).block b hlt) (fun b hS _ => hS) (HN1.out.trans (HB3.out.mono HN1.out.size)).size _ _ HCL.out
              obtain ⟨q, hq⟩ : ∃ q, q = C.hits (tree N n 0) := ⟨_, rfl⟩
              have HQ : Hid (q = C.hits (tree (V j).N (V j).n 0)) := by rw [← HE.out.1, ← HE.out.2]; exact hq
              have HMM := HM.out (G j) n vc va N HA.out.1 HGV.out HA.out.2 w3 _ _ y HBw3.out HCL3.out
              rw [← hq] at HMM
              clear hq
              go_wp2_with fail
              refine HMM.mono ?_
              rintro e w4 ⟨rfl, hb4⟩
              have hb4' : Below wr.heap.size wr w4 := HB3.out.trans (hb4.mono HB3.out.size)
              have HN4 : Hid (Below w2.heap.size w2 w4) := HN1.out.trans (hb4'.mono HN1.out.size)
              have z4 := hb4'.size
              have HOW4 : Hid (w4.ownsRow w2.heap.size 3 1 u7 kl.length (intCells kl)) := row_keep HOW.out hb4'
              clear hb4 g0 hb4' HMM
              cases q with
              | false =>
                go_wp2
                go_roundw
                case rel =>
                  refine ⟨j + 1, by omega, by go_num, ?_, HN4.out, HGJ'⟩
                  rw [SvL.no HQ.out.symm, ← HKL.out]
                  exact HOW4.out
                case measure => simp [intOf]; omega
              | true =>
                go_wp2_with (first | (at_builtin; refine wpList_append_own _ rfl _ _ 49 rfl w2.heap.size 3 i0 (.int .i64 0) 1 8 Tryz.underlying49 HI0.out.1 HI0.out.2.1 HI0.out.2.2.1 HI0.out.2.2.2 rfl (by decide) _ _ _ rfl (HOW4.out.alloc _) ⟨w4.heap.size, 0, none⟩ 1 1 [.int .i64 (j : Int)] rfl rfl ?c1 ?c2 ?c3 ?c4 ?c5 ?_))
                case c1 => exact one_news w4 (.int .i64 (j : Int)) 3
                case c2 => exact one_cell_int _ _
                case c3 => unfold maxLen; omega
                case c4 => omega
                case c5 => simp; omega
                · intro v' w5 hown' hgrow _
                  have HB5 : Hid (Below w2.heap.size w2 w5) := grow_below HOW4.out _ HN4.out (by omega) hgrow
                  have HO5 : Hid (w5.ownsRow w2.heap.size 3 1 v' (SvL C V (j + 1)).length (intCells (SvL C V (j + 1)))) := by
                    show World.ownsRow _ _ _ _ _ _ _
                    rw [SvL.yes HQ.out.symm, ← HKL.out, intCells_snoc, List.length_append]
                    exact hown'
                  clear hown' hgrow
                  go_wp2
                  go_roundw
                  case rel => exact ⟨j + 1, by omega, by go_num, HO5.out, HB5.out, HGJ'⟩
                  case measure => simp [intOf]; omega
          · obtain rfl : j = m := by omega
            have HOW : Hid (wr.ownsRow w2.heap.size 3 1 u7 (SvL C V j).length (intCells (SvL C V j))) := hown
            have HOK : Hid (SvOK F t V j) := ⟨HGF.out, by omega, HGJ.out⟩
            clear hown hnx
            go_wp2
            exact bodyPost_ret (v := .tuple #[u7, .bool true]) (by simp [results, Tryz.results21, go_sem]) rfl (SvIs.yes HOK.out (by rw [HC.out]) HB2.out.size HOW.out HBr.out)

end Go.Proofs.YtjohocnfcnjciaaGreatDoor
namespace Go.Proofs.YtjohocnfcnjciaaGreatDoor
open Go.RowKit
set_option linter.unusedVariables false

set_option maxHeartbeats 1000000 in
theorem szValueS_less (a : Option Addr) (c t : Nat) (V : Nat → Vl) (left : Int) (hl0 : 0 ≤ left) (hl1 : left ≤ 2 ^ 20) (w : World) (ht : t ≤ maxLen) (h : VArg w a t V) (hz : ∀ i, i < t → BigV (V i)) :
    Calls Tryz.prog 18 #[.slice a t c, .int .i64 left] w fun e w' => ∃ r : Int, e = .returned (.int .i64 r) ∧ (r = -1 ∨ (0 ≤ r ∧ r + totV V t ≤ left ∧ SmallVs t V)) ∧ Below w.heap.size w w' := by
  have HZ : Hid (∀ i, i < t → BigV (V i)) := hz
  have H : Hid (VArg w a t V) := h
  clear hz h
  unfold maxLen at ht
  by_cases c0 : left - (t : Int) < 0
  · go_enter Tryz.func18, Tryz.ntmps18
    go_wp2
    go_ret
    exact ⟨-1, rfl, .inl rfl, by go_grown⟩
  · go_enter Tryz.func18, Tryz.ntmps18
    go_wp2_with fail
    go_loopw [1, 5] (fun q i wr => ∃ (k : Nat) (r : Int), k ≤ t ∧ i = .int .i64 k ∧ q = .int .i64 r ∧ 0 ≤ r ∧ r + totV V k ≤ left ∧ Hid (∀ j, j < k → SmallN (V j).n (V j).N) ∧ Below w.heap.size w wr) (fun _ i _ => t - (intOf i).toNat)
    case atStart => exact ⟨0, _, Nat.zero_le _, rfl, rfl, by omega, by simp only [totV]; omega, fun j hj => by omega, Below.refl _ _⟩
    case round =>
      obtain ⟨k, r, hk, rfl, rfl, hr0, hr1, HJ, hnx⟩ := hrel
      by_cases hlt : k < t
      · obtain ⟨b, off, va, vc, rfl, hb, a0, hv⟩ := (H.out.below hnx).at hlt
        have i0 : (0 : Int) ≤ (k : Int) := by omega
        have i1 : (k : Int) < (t : Int) := by omega
        have HV : Hid (ArgIs wr va (V k).n (V k).N) := hv
        clear hv
        go_wp2_with fail
        refine (szValue_less va vc (V k).n (V k).N r hr0 (by omega) _ (HZ.out k hlt).1 HV.out (HZ.out k hlt).2).mono ?_
        rintro e w1 ⟨q, rfl, hq, hb1⟩
        have HB : Hid (Below w.heap.size w w1) := hnx.trans (hb1.mono hnx.size)
        clear hb1
        rcases hq with rfl | ⟨q0, q1, q2⟩
        · go_wp2
          go_ret
          exact ⟨-1, rfl, .inl rfl, HB.out⟩
        · have HJ' : Hid (∀ j, j < k + 1 → SmallN (V j).n (V j).N) := fun j hj => by
            by_cases e : j = k
            · subst e; exact q2
            · exact HJ.out j (by omega)
          clear q2
          go_wp2
          go_roundw
          case rel => exact ⟨k + 1, q, by omega, by go_num, rfl, q0, by simp only [totV]; omega, HJ', HB.out⟩
          case measure => simp [intOf]; omega
      · go_wp2
        go_ret
        obtain rfl : k = t := by omega
        exact ⟨r, rfl, .inr ⟨hr0, hr1, by omega, HJ.out⟩, hnx⟩

/-- What a row of values has become while it is copied. -/
def VTo (wr : World) (B t k : Nat) (V : Nat → Vl) : Prop := ∃ (R : Nat → Vc) (G : Nat → Nat), VRow wr B 0 t R ∧ VFree wr B t ∧ (∀ i, i < k → VcOwn wr (G i) (R i) (V i)) ∧ (∀ i, i < k → B < G i ∧ G i < wr.heap.size) ∧ ∀ i j, i < j → j < k → G i < G j
theorem VTo.next {wr w1 : World} {B t k g : Nat} {V : Nat → Vl} {x : Vc} (h : VTo wr B t k V) (hk : k < t) (hB : B < wr.heap.size) (hb : Below wr.heap.size wr w1) (hg1 : wr.heap.size ≤ g) (hg2 : g < w1.heap.size) (ho : VcOwn w1 g x (V k)) :
    VTo (w1.setCell ⟨B, k, none⟩ (.slice x.a x.n x.c)) B t (k + 1) V ∧ BelowBut w1.heap.size B w1 (w1.setCell ⟨B, k, none⟩ (.slice x.a x.n x.c)) := by
  obtain ⟨R, G, h1, h2, h3, h4, h5⟩ := h
  have z := hb.size
  have r3 : BelowBut w1.heap.size B w1 (w1.setCell ⟨B, k, none⟩ (.slice x.a x.n x.c)) := BelowBut.setCell _ _ _
  refine ⟨⟨_, fun i => if i = k then g else G i, (h1.below hb hB).set hk x, fun i hi => ?_, fun i hi => ?_, fun i hi => ?_, fun i j hij hj => ?_⟩, r3⟩
  · rw [World.frozen?_setCell]
    exact (h2.below hb hB) i hi
  · by_cases e : i = k
    · subst e
      simp only [if_true]
      exact ho.but r3 (by omega)
    · simp only [if_neg e]
      exact ((h3 i (by omega)).below hb).but r3 (by have := h4 i (by omega); omega)
  · by_cases e : i = k
    · subst e
      simp only [if_true]
      exact ⟨by omega, by simpa [World.setCell] using hg2⟩
    · simp only [if_neg e]
      have := h4 i (by omega)
      exact ⟨this.1, by simp [World.setCell]; omega⟩
  · have e : i ≠ k := by omega
    simp only [if_neg e]
    by_cases e2 : j = k
    · simp only [if_pos e2]
      have := h4 i (by omega)
      omega
    · simp only [if_neg e2]
      exact h5 i j hij (by omega)
/-- What toValueS answers. -/
def ValsTo (t : Nat) (V : Nat → Vl) (w : World) (a : Option Addr) (w' : World) : Prop := ∃ b G, w.heap.size ≤ b ∧ b < w'.heap.size ∧ VOwn w' b a t V G

set_option maxHeartbeats 2000000 in
theorem toValueS_any (a : Option Addr) (c t : Nat) (V : Nat → Vl) (w : World) (hs : SmallVs t V) (h : VArg w a t V) :
    Calls Tryz.prog 20 #[.slice a t c] w fun e w' => ∃ a' c', e = .returned (.slice a' t c') ∧ ValsTo t V w a' w' ∧ Below w.heap.size w w' := by
  have H : Hid (VArg w a t V) := h
  have HS : Hid (SmallVs t V) := hs
  have ht := hs.1
  clear h hs
  have hmk := make_vals t (by omega)
  obtain ⟨n1, n2⟩ := vals_made t w 38
  obtain ⟨W, hW⟩ : ∃ W, W = w.alloc (.cells (madeCells #[.slice none 0 0] t) 38) := ⟨_, rfl⟩
  have hsz : W.heap.size = w.heap.size + 1 := by rw [hW]; simp
  have hbl : Below w.heap.size w W := by rw [hW]; go_grown
  rw [← hW] at n1 n2
  have hmw := hmk w
  rw [← hW] at hmw
  clear hmk
  have HN : Hid (VRow W w.heap.size 0 t (fun _ => zeroVc) ∧ VFree W w.heap.size t) := ⟨n1, n2⟩
  clear n1 n2 hW
  go_enter Tryz.func20, Tryz.ntmps20
  go_wp2_with fail
  go_loopw [4] (fun i wr => ∃ k : Nat, k ≤ t ∧ i = .int .i64 k ∧ Below w.heap.size w wr ∧ w.heap.size < wr.heap.size ∧ Hid (VTo wr w.heap.size t k V)) (fun i _ => t - (intOf i).toNat)
  case atStart => exact ⟨0, Nat.zero_le _, rfl, hbl, by omega, ⟨_, fun _ => 0, HN.out.1, HN.out.2, fun j hj => by omega, fun j hj => by omega, fun i j hij hj => by omega⟩⟩
  case round =>
    obtain ⟨k, hk, rfl, hnx, hlt0, HM⟩ := hrel
    by_cases hlt : k < t
    · obtain ⟨b, off, va, vc, rfl, hb, a0, hv⟩ := (H.out.below hnx).at hlt
      have i0 : (0 : Int) ≤ (k : Int) := by omega
      have i1 : (k : Int) < (t : Int) := by omega
      have HV : Hid (ArgIs wr va (V k).n (V k).N) := hv
      clear hv
      go_wp2_with fail
      refine (toValue_cap va vc (V k).n (V k).N wr (HS.out.2 k hlt).1 HV.out).mono ?_
      rintro e w1 ⟨bv, av, cv, rfl, ccv, lv, mv, ho, hb1⟩
      obtain ⟨R, G, m1, m2, _⟩ := HM.out
      have g0 := m1.below hb1 hlt0 k hlt
      have f0 := m2.below hb1 hlt0 k hlt
      rw [Nat.zero_add] at g0
      have z1 := hb1.size
      have HO : Hid (VcOwn w1 bv ⟨av, (V k).n, cv⟩ (V k)) := ⟨rfl, ccv, ho⟩
      have HB1 : Hid (Below wr.heap.size wr w1) := hb1
      have HB : Hid (Below w.heap.size w w1) := hnx.trans (hb1.mono hnx.size)
      clear m1 m2 hb1 ho a0
      go_wp2_with fail
      obtain ⟨r1, r3⟩ := VTo.next HM.out hlt hlt0 HB1.out lv mv HO.out
      dsimp only at r1 r3
      go_roundw
      case rel => exact ⟨k + 1, by omega, by go_num, HB.out.trans (r3.below HB.out.size (Nat.le_refl _)), by have := r3.size; omega, r1⟩
      case measure => simp [intOf]; omega
    · go_wp2
      go_ret
      obtain rfl : k = t := by omega
      obtain ⟨R, G, m1, m2, m3, m4, m5⟩ := HM.out
      exact ⟨_, _, rfl, ⟨w.heap.size, G, Nat.le_refl _, hlt0, by omega, .inr ⟨rfl, hlt0, R, m1, m2, m3⟩, m4, m5⟩, hnx⟩

set_option maxHeartbeats 2000000 in
theorem eqValueS_same (a1 a2 : Option Addr) (c1 c2 t : Nat) (V : Nat → Vl) (w : World) (hs : SmallVs t V) (h1 : VArg w a1 t V) (h2 : VArg w a2 t V) :
    Calls Tryz.prog 23 #[.slice a1 t c1, .slice a2 t c2] w fun e w' => e = .returned (.bool true) ∧ Below w.heap.size w w' := by
  have H1 : Hid (VArg w a1 t V) := h1
  have H2 : Hid (VArg w a2 t V) := h2
  have HS : Hid (SmallVs t V) := hs
  have ht := hs.1
  clear h1 h2 hs
  go_enter Tryz.func23, Tryz.ntmps23
  go_wp2_with fail
  go_loopw [5] (fun i wr => ∃ k : Nat, k ≤ t ∧ i = .int .i64 k ∧ Below w.heap.size w wr) (fun i _ => t - (intOf i).toNat)
  case atStart => exact ⟨0, Nat.zero_le _, rfl, Below.refl _ _⟩
  case round =>
    obtain ⟨k, hk, rfl, hnx⟩ := hrel
    by_cases hlt : k < t
    · obtain ⟨b, off, va, vc, rfl, hb, a0, hv⟩ := (H1.out.below hnx).at hlt
      obtain ⟨b', off', va', vc', rfl, hb', d0, hv'⟩ := (H2.out.below hnx).at hlt
      have i0 : (0 : Int) ≤ (k : Int) := by omega
      have i1 : (k : Int) < (t : Int) := by omega
      have hn := (HS.out.2 k hlt).1
      obtain ⟨n, hn'⟩ : ∃ n, n = (V k).n := ⟨_, rfl⟩
      rw [← hn'] at a0 d0 hv hv' hn
      have HV : Hid (ArgIs wr va n (V k).N ∧ ArgIs wr va' n (V k).N) := ⟨hv, hv'⟩
      have HNX : Hid (Below w.heap.size w wr) := hnx
      clear hv hv' hn' hnx
      go_wp2_with fail
      go_region_held3 (fun w' => w'.cell? ⟨b, off + k, none⟩ = some (.slice va n vc) ∧ w'.cell? ⟨b', off' + k, none⟩ = some (.slice va' n vc')) (first | exact ⟨a0, d0⟩ | exact K2)
        (first | (go_at_call 13; refine (eqValue_any _ _ n (V k).N wr.drew ((HV.out.1.below ((Below.refl _ wr).drew)).slice (by omega)) ((HV.out.2.below ((Below.refl _ wr).drew)).slice (by omega))).mono ?_; rintro e w2 ⟨rfl, hb2⟩; have hbr : Below wr.heap.size wr w2 := ((Below.refl _ wr).drew).trans hb2; have K2 : w2.cell? ⟨b, off + k, none⟩ = some (.slice va n vc) ∧ w2.cell? ⟨b', off' + k, none⟩ = some (.slice va' n vc') := ⟨(hbr.cell hb).trans a0, (hbr.cell hb').trans d0⟩))
      have HB2 : Hid (Below w.heap.size w w2) := HNX.out.trans (hbr.mono HNX.out.size)
      clear hb2 hbr K2
      go_wp2
      go_roundw
      case rel => exact ⟨k + 1, by omega, by go_num, HB2.out⟩
      case measure => simp [intOf]; omega
    · go_wp2
      go_ret
      exact ⟨rfl, hnx⟩

/-- The marks ahead of value i. -/
def kV (V : Nat → Vl) (k0 : Int) (i : Nat) : Int := k0 + 5 * (totV V i : Int)
set_option maxHeartbeats 2000000 in
theorem markValueS_any (b c t : Nat) (a : Option Addr) (V : Nat → Vl) (G : Nat → Nat) (k0 : Int) (w : World) (hk0 : 0 < k0) (hk1 : k0 ≤ 2 ^ 24) (ht : t ≤ 2 ^ 20) (htot : totV V t ≤ 2 ^ 22) (h : VOwn w b a t V G) :
    Calls Tryz.prog 24 #[.slice a t c, .int .i64 k0] w fun e w' => ∃ k' : Int, e = .returned (.int .i64 k') ∧ 0 < k' ∧ Kept (fun g => ∃ i, i < t ∧ g = G i) w w' := by
  have H : Hid (VOwn w b a t V G) := h
  clear h
  go_enter Tryz.func24, Tryz.ntmps24
  go_wp2_with fail
  go_loopw [1, 5] (fun q i wr => ∃ k : Nat, k ≤ t ∧ i = .int .i64 k ∧ q = .int .i64 (kV V k0 k) ∧ Kept (fun g => ∃ i, i < k ∧ g = G i) w wr) (fun _ i _ => t - (intOf i).toNat)
  case atStart => exact ⟨0, Nat.zero_le _, rfl, by simp [kV, totV], Kept.refl _ _⟩
  case round =>
    obtain ⟨k, hk, rfl, rfl, hnx⟩ := hrel
    have tb := totV_mono V hk
    by_cases hlt : k < t
    · obtain ⟨va, vc, rfl, hb, a0, hc, ho⟩ := H.out.at hlt
      obtain ⟨_, _, h3, h4⟩ := H.out
      have hGb : ∀ i, i < k → b ≠ G i := fun i hi => by have := h3 i (by omega); omega
      have hGk : ∀ i, i < k → G k ≠ G i := fun i hi => by have := h4 i k hi hlt; omega
      have d0 : wr.cell? ⟨b, k, none⟩ = some (.slice va (V k).n vc) := (hnx.cell hb (fun ⟨i, hi, e⟩ => hGb i hi e)).trans a0
      have HO : Hid (OwnAt wr (G k) (.slice va (V k).n vc) (V k).n (V k).N) := ho.kept hnx (fun _ ⟨i, hi, e⟩ => hGk i hi e)
      have i0 : (0 : Int) ≤ (k : Int) := by omega
      have i1 : (k : Int) < (t : Int) := by omega
      have tb1 := totV_mono V (show k + 1 ≤ t by omega)
      have HKV : Hid (kV V k0 (k + 1) = kV V k0 k + 5 * ((V k).n : Int)) := by show _ = _; simp only [kV, totV]; omega
      have kb : 0 < kV V k0 k ∧ kV V k0 k ≤ 2 ^ 26 := by simp only [kV]; omega
      obtain ⟨kk, hkk⟩ : ∃ kk, kk = kV V k0 k := ⟨_, rfl⟩
      rw [← hkk] at kb HKV
      rw [← hkk]
      have HNX : Hid (Kept (fun g => ∃ i, i < k ∧ g = G i) w wr) := hnx
      have HG : Hid (G k < w.heap.size) := (h3 k hlt).2
      clear ho hnx hGb hGk h3 h4 a0 hkk
      go_wp2_with fail
      refine (markNodeS_any (G k) 0 vc (V k).n va (V k).N kk _ (by omega) (by omega) HO.out).mono ?_
      rintro e w1 ⟨rfl, hb1, _⟩
      have HN1 : Hid (Kept (fun g => ∃ i, i < k + 1 ∧ g = G i) w w1) := (HNX.out.mono (fun g ⟨i, hi, e⟩ => ⟨i, by omega, e⟩)).trans (Kept.but hb1 (.inl ⟨k, by omega, rfl⟩))
      rw [← HKV.out]
      clear hb1
      go_wp2
      go_roundw
      case rel => exact ⟨k + 1, by omega, by go_num, rfl, HN1.out⟩
      case measure => simp [intOf]; omega
    · obtain rfl : k = t := by omega
      have kb : 0 < kV V k0 k := by simp only [kV]; omega
      go_wp2
      go_ret
      exact ⟨_, rfl, kb, hnx⟩

end Go.Proofs.YtjohocnfcnjciaaGreatDoor
namespace Go.Proofs.YtjohocnfcnjciaaGreatDoor
open Go.RowKit
set_option linter.unusedVariables false

theorem OwnI.form {w : World} {g : Nat} {v : Value} {n : Nat} {f : Nat → Int} (h : OwnI w g v n f) : ∃ a c, v = .slice a n c := by
  obtain ⟨a, c, rfl, _⟩ := h
  exact ⟨a, c, rfl⟩
theorem OwnI.lt {w : World} {g : Nat} {v : Value} {n : Nat} {f : Nat → Int} (h : OwnI w g v n f) (hn : n ≠ 0) : g < w.heap.size := by
  obtain ⟨_, _, _, _, h0 | ⟨_, h, _⟩⟩ := h
  · exact absurd h0 hn
  · exact h
theorem OwnI.but2 {w w' : World} {b g : Nat} {v : Value} {n : Nat} {f : Nat → Int} (h : OwnI w g v n f) (hb : BelowBut w.heap.size b w w') (hne : n ≠ 0 → g ≠ b) : OwnI w' g v n f := by
  by_cases h0 : n = 0
  · obtain ⟨a, c, rfl, hn, _⟩ := h
    exact ⟨a, c, rfl, hn, .inl h0⟩
  · exact h.but hb (hne h0)
theorem OwnI.kept {S : Nat → Prop} {w w' : World} {g : Nat} {v : Value} {n : Nat} {f : Nat → Int} (h : OwnI w g v n f) (hk : Kept S w w') (hn : n ≠ 0 → ¬ S g) : OwnI w' g v n f := by
  obtain ⟨a, c, rfl, hn1, h0 | ⟨rfl, hlt, hat⟩⟩ := h
  · exact ⟨a, c, rfl, hn1, .inl h0⟩
  · by_cases h0 : n = 0
    · exact ⟨_, c, rfl, hn1, .inl h0⟩
    · exact ⟨_, c, rfl, hn1, .inr ⟨rfl, Nat.lt_of_lt_of_le hlt hk.size, fun i hi => ⟨(hk.cell hlt (hn h0)).trans (hat i hi).1, (hk.frozen hlt (hn h0)).trans (hat i hi).2⟩⟩⟩
theorem VOwn.kept {S : Nat → Prop} {w w' : World} {b : Nat} {a : Option Addr} {t : Nat} {V : Nat → Vl} {G : Nat → Nat} (h : VOwn w b a t V G) (hk : Kept S w w') (hs : ∀ x, S x → x < b) : VOwn w' b a t V G := by
  obtain ⟨h1, h2, h3, h4⟩ := h
  refine ⟨h1, ?_, fun i hi => ⟨(h3 i hi).1, Nat.lt_of_lt_of_le (h3 i hi).2 hk.size⟩, h4⟩
  rcases h2 with h0 | ⟨e, hlt, R, h5, h6, h7⟩
  · exact .inl h0
  · have nb : ¬ S b := fun h => Nat.lt_irrefl _ (hs b h)
    exact .inr ⟨e, Nat.lt_of_lt_of_le hlt hk.size, R, fun i hi => (hk.cell hlt nb).trans (h5 i hi), fun i hi => (hk.frozen hlt nb).trans (h6 i hi), fun i hi => ⟨(h7 i hi).1, (h7 i hi).2.1, (h7 i hi).2.2.kept hk (fun _ h => by have := hs _ h; have := (h3 i hi).1; omega)⟩⟩
theorem kAt_up (F : Nat → Tm) (k0 : Int) (t : Nat) (h1 : 0 < k0) (h2 : k0 ≤ 1) (ht : t ≤ 2 ^ 20) (htot : totF F t ≤ 2 ^ 20) : 0 < kAt F k0 t ∧ kAt F k0 t ≤ 2 ^ 24 := by
  have := kAt_bound F k0 t
  omega

set_option maxRecDepth 100000 in
set_option maxHeartbeats 4000000 in
theorem selectValues_law (a : Option Addr) (c n : Nat) (N : Nat → Tm) (la : Option Addr) (lc m : Nat) (V : Nat → Vl) (w : World) (hn : n ≤ maxLen) (h : FArg w a n N) (hz : ∀ i, i < n → BigT (N i))
    (hm : m ≤ maxLen) (h' : VArg w la m V) (hz' : ∀ i, i < m → BigV (V i)) (htab : Tab w.heap.size w) (hml : ML w) :
    Calls Tryz.prog 5 #[.agg #[.slice a n c], .slice la m lc] w fun e w' => e = .returned (.bool true) ∧ Below w.heap.size w w' := by
  have HZ : Hid (∀ i, i < n → BigT (N i)) := hz
  have HZ' : Hid (∀ i, i < m → BigV (V i)) := hz'
  have H : Hid (FArg w a n N) := h
  have H' : Hid (VArg w la m V) := h'
  have HTB : Hid (Tab w.heap.size w) := htab
  have HML : Hid (ML w) := hml
  clear hz h htab hz' h' hml
  go_enter Tryz.func5, Tryz.ntmps5
  go_wp2_with fail
  have hbl0 : ∀ o, Below w.heap.size w (w.alloc o) := fun o => (Below.refl _ _).alloc (Nat.le_refl _) o
  refine (szFilter_less a c n N 1048576 (by decide) (by decide) _ hn (H.out.below (hbl0 _)) HZ.out).mono ?_
  rintro e w1 ⟨r, rfl, hr, hb1⟩
  have x1 : w1.cell? ⟨w.heap.size, 0, none⟩ = some (.slice a n c) := by rw [hb1.cell (by simp)]; simp [go_sem]
  have HB1 : Hid (Below w.heap.size w w1) := (hbl0 _).trans (hb1.mono (by simp))
  have z1 : w.heap.size < w1.heap.size := by have := hb1.size; simp at this; omega
  clear hb1 hbl0
  rcases hr with rfl | ⟨r0, rt, hsm⟩
  · go_wp2
    go_ret
    exact ⟨rfl, HB1.out⟩
  have HSM : Hid (SmallF n N) := hsm
  have n20 : n ≤ 2 ^ 20 := hsm.1
  have HFT : Hid (∀ i, i < n → FitT (N i)) := fun i hi => (hsm.2 i hi).fit
  have htn : totF N n ≤ 2 ^ 20 := by omega
  have r1 : ¬ r < 0 := by omega
  have r20 : r ≤ 2 ^ 20 := by omega
  clear hsm rt
  go_wp2_with fail
  refine (szValueS_less la lc m V r r0 r20 _ hm (H'.out.below HB1.out) HZ'.out).mono ?_
  rintro e w2 ⟨r', rfl, hr, hb2⟩
  have x2 : w2.cell? ⟨w.heap.size, 0, none⟩ = some (.slice a n c) := (hb2.cell z1).trans x1
  have HB2 : Hid (Below w.heap.size w w2) := HB1.out.trans (hb2.mono HB1.out.size)
  have z2 : w.heap.size < w2.heap.size := by have := hb2.size; omega
  clear hb2
  rcases hr with rfl | ⟨r0', rt', hsm⟩
  · go_wp2
    go_ret
    exact ⟨rfl, HB2.out⟩
  have HSM' : Hid (SmallVs m V) := hsm
  have m20 : m ≤ 2 ^ 20 := hsm.1
  have r1' : ¬ r' < 0 := by omega
  have htv : totV V m ≤ 2 ^ 22 := by omega
  clear hsm rt' hm hn
  go_wp2_with fail
  refine (toFilter_any a c n N _ HSM.out (H.out.below HB2.out)).mono ?_
  rintro e w3 ⟨a3, c3, rfl, ho3, hb3⟩
  have z23 := hb3.size
  have x3 : w3.cell? ⟨w.heap.size, 0, none⟩ = some (.slice a n c) := (hb3.cell z2).trans x2
  have HB3 : Hid (Below w.heap.size w w3) := HB2.out.trans (hb3.mono HB2.out.size)
  have HO3 : Hid (FArg w3 a3 n N) := ho3.arg
  have z3 : w.heap.size < w3.heap.size := by omega
  clear hb3 ho3 x2
  go_wp2_with fail
  refine (toValueS_any la lc m V _ HSM'.out (H'.out.below HB3.out)).mono ?_
  rintro e w4 ⟨a4, c4, rfl, ho4, hb4⟩
  obtain ⟨b4, G4, _, _, hV4⟩ := ho4
  have z34 := hb4.size
  have x4 : w4.cell? ⟨w.heap.size, 0, none⟩ = some (.slice a n c) := (hb4.cell z3).trans x3
  have HB4 : Hid (Below w.heap.size w w4) := HB3.out.trans (hb4.mono HB3.out.size)
  have HO4 : Hid (FArg w4 a3 n N) := HO3.out.below hb4
  have HV4 : Hid (VArg w4 a4 m V) := hV4.arg
  have z4 : w.heap.size < w4.heap.size := by omega
  clear hb4 hV4 x3 HO3
  go_wp2_with fail
  refine (specSelect_any a3 c3 n N a4 c4 m V _ HO4.out HSM.out HV4.out HSM'.out).mono ?_
  rintro e w5 ⟨v5, q, g5, l, rfl, hq, hg5, ho5, l60, hb5⟩
  obtain ⟨a5, c5, rfl⟩ := ho5.form
  have z45 := hb5.size
  have HQ : Hid (SvTold N n V m q l) := hq
  have x5 : w5.cell? ⟨w.heap.size, 0, none⟩ = some (.slice a n c) := (hb5.cell z4).trans x4
  have HB5 : Hid (Below w.heap.size w w5) := HB4.out.trans (hb5.mono HB4.out.size)
  have HL5 : Hid (l.length ≠ 0 → g5 < w5.heap.size) := fun h => ho5.lt h
  obtain ⟨f, hf⟩ : ∃ f, f = (fun j => ((l.getD j 0 : Nat) : Int)) := ⟨_, rfl⟩
  have HF : Hid (f = (fun j => ((l.getD j 0 : Nat) : Int))) := hf
  have HK5 : Hid (OwnI w5 g5 (.slice a5 l.length c5) l.length f) := by rw [hf]; exact ho5
  have z5 : w.heap.size < w5.heap.size := by omega
  clear hb5 ho5 hq hg5 x4 HO4 HV4 hf
  go_wp2_with fail
  refine (toFilter_any a c n N _ HSM.out (H.out.below HB5.out)).mono ?_
  rintro e w6 ⟨a6, c6, rfl, ho6, hb6⟩
  obtain ⟨_, b6, P6, Q6, hb6a, hb6b, hP6, hF6⟩ := ho6
  have z56 := hb6.size
  have x6 : w6.cell? ⟨w.heap.size, 0, none⟩ = some (.slice a n c) := (hb6.cell z5).trans x5
  have HB6 : Hid (Below w.heap.size w w6) := HB5.out.trans (hb6.mono HB5.out.size)
  have HK6 : Hid (OwnI w6 g5 (.slice a5 l.length c5) l.length f) := HK5.out.below hb6
  have HO6 : Hid (FOwn w6 b6 a6 n N P6 Q6) := hF6
  have HR6 : Hid ((w5.heap.size ≤ b6 ∧ b6 < w6.heap.size) ∧ ∀ i, i < n → w5.heap.size ≤ P6 i ∧ Q6 i ≤ w6.heap.size) := ⟨⟨hb6a, hb6b⟩, fun i hi => ⟨hP6 i hi, (hF6.2.2.1 i hi).2⟩⟩
  have z6 : w.heap.size < w6.heap.size := by omega
  clear hb6 hF6 hb6a hb6b hP6 x5 HK5
  go_wp2_with fail
  have al6 : ∀ o, Below w6.heap.size w6 (w6.alloc o) := fun o => (Below.refl _ _).alloc (Nat.le_refl _) o
  refine (toValueS_any la lc m V _ HSM'.out (H'.out.below (HB6.out.trans ((al6 _).mono HB6.out.size)))).mono ?_
  rintro e w7 ⟨a7, c7, rfl, ho7, hb7⟩
  obtain ⟨b7, G7, hb7a, hb7b, hV7⟩ := ho7
  have z67 := hb7.size
  simp at z67 hb7a
  have B67 : Below w6.heap.size w6 w7 := (al6 _).trans (hb7.mono (by simp))
  have x7 : w7.cell? ⟨w.heap.size, 0, none⟩ = some (.slice a n c) := (B67.cell z6).trans x6
  have u7 : w7.cell? ⟨w6.heap.size, 0, none⟩ = some (.slice a6 n c6) := by rw [hb7.cell (by simp)]; simp [World.cell?_alloc_new]
  have HB7 : Hid (Below w.heap.size w w7) := HB6.out.trans (B67.mono HB6.out.size)
  have HO7 : Hid (FOwn w7 b6 a6 n N P6 Q6) := HO6.out.below B67
  have HK7 : Hid (OwnI w7 g5 (.slice a5 l.length c5) l.length f) := HK6.out.below B67
  have HV7 : Hid (VOwn w7 b7 a7 m V G7) := hV7
  have HG7 : Hid (∀ i, i < m → b7 < G7 i ∧ G7 i < w7.heap.size) := hV7.2.2.1
  have z7 : w.heap.size < w7.heap.size := by omega
  have z7u : w6.heap.size < w7.heap.size := by omega
  clear hb7 B67 al6 hV7 x6 HO6 HK6
  go_wp2_with fail
  refine (implSelect_any a6 c6 n N a7 c7 m b7 V G7 _ HO7.out.arg HO7.out.caps HSM.out HV7.out HSM'.out (HTB.out.up HB7.out) (HML.out.below HB7.out)).mono ?_
  rintro e w8 ⟨v8, g, g8, l', rfl, hg, hg8, ho8, _, hb8⟩
  obtain ⟨hgq, hll⟩ := hg.same HQ.out
  subst hgq hll
  obtain ⟨a8, c8, rfl⟩ := ho8.form
  have z78 := hb8.size
  have x8 : w8.cell? ⟨w.heap.size, 0, none⟩ = some (.slice a n c) := (hb8.cell z7).trans x7
  have u8 : w8.cell? ⟨w6.heap.size, 0, none⟩ = some (.slice a6 n c6) := (hb8.cell z7u).trans u7
  have HB8 : Hid (Below w.heap.size w w8) := HB7.out.trans (hb8.mono HB7.out.size)
  have HO8 : Hid (FOwn w8 b6 a6 n N P6 Q6) := HO7.out.below hb8
  have HK8 : Hid (OwnI w8 g5 (.slice a5 l'.length c5) l'.length f) := HK7.out.below hb8
  have HV8 : Hid (VOwn w8 b7 a7 m V G7) := HV7.out.below hb8
  have HG8 : Hid (OwnI w8 g8 (.slice a8 l'.length c8) l'.length f) := by rw [HF.out]; exact ho8
  have z8 : w.heap.size < w8.heap.size := by omega
  have z8u : w6.heap.size < w8.heap.size := by omega
  clear hb8 ho8 hg x7 u7 HO7 HK7 HV7
  go_wp2_with fail
  refine (eqIntS_any _ _ g8 g5 l'.length f _ HG8.out HK8.out).mono ?_
  rintro e w9 ⟨rfl, hb9⟩
  have z89 := hb9.size
  have x9 : w9.cell? ⟨w.heap.size, 0, none⟩ = some (.slice a n c) := (hb9.cell z8).trans x8
  have u9 : w9.cell? ⟨w6.heap.size, 0, none⟩ = some (.slice a6 n c6) := (hb9.cell z8u).trans u8
  have HB9 : Hid (Below w.heap.size w w9) := HB8.out.trans (hb9.mono HB8.out.size)
  have HO9 : Hid (FOwn w9 b6 a6 n N P6 Q6) := HO8.out.below hb9
  have HK9 : Hid (OwnI w9 g5 (.slice a5 l'.length c5) l'.length f) := HK8.out.below hb9
  have HV9 : Hid (VOwn w9 b7 a7 m V G7) := HV8.out.below hb9
  have HG9 : Hid (OwnI w9 g8 (.slice a8 l'.length c8) l'.length f) := HG8.out.below hb9
  have z9 : w.heap.size < w9.heap.size := by omega
  have z9u : w6.heap.size < w9.heap.size := by omega
  clear hb9 x8 u8 HO8 HK8 HV8 HG8
  go_wp2_with fail
  go_region_held3 (fun w' => w'.cell? ⟨w.heap.size, 0, none⟩ = some (.slice a n c) ∧ w'.cell? ⟨w6.heap.size, 0, none⟩ = some (.slice a6 n c6)) (first | exact ⟨x9, u9⟩ | exact ⟨x10, u10⟩ | exact ⟨x11, u11⟩ | fail)
    (first | (go_at_call 9; go_fit (toFilter_any a c n N w9.drew HSM.out (H.out.below HB9.out.drew)); rintro e w10 ⟨a10, c10, rfl, ho10, hb10⟩; have x10 := (hb10.cell (p := ⟨w.heap.size, 0, none⟩) z9).trans x9; have u10 := (hb10.cell (p := ⟨w6.heap.size, 0, none⟩) z9u).trans u9; have zz10 : w9.heap.size ≤ w10.heap.size := hb10.size; have B910 : Below w9.heap.size w9 w10 := (Below.drew (Below.refl w9.heap.size w9)).trans hb10) | (go_at_call 12; refine (eqFilter_same a6 a10 c6 c10 n N _ (by omega) HFT.out (HO9.out.below B910).arg ho10.arg).mono ?_; rintro e w11 ⟨rfl, hb11⟩; have x11 := (hb11.cell (p := ⟨w.heap.size, 0, none⟩) (Nat.lt_of_lt_of_le z9 zz10)).trans x10; have u11 := (hb11.cell (p := ⟨w6.heap.size, 0, none⟩) (Nat.lt_of_lt_of_le z9u zz10)).trans u10))
  have B911 : Below w9.heap.size w9 w11 := B910.trans (hb11.mono zz10)
  have z911 := B911.size
  have x11' : w11.cell? ⟨w.heap.size, 0, none⟩ = some (.slice a n c) := (B911.cell z9).trans x9
  have u11' : w11.cell? ⟨w6.heap.size, 0, none⟩ = some (.slice a6 n c6) := (B911.cell z9u).trans u9
  have HB11 : Hid (Below w.heap.size w w11) := HB9.out.trans (B911.mono HB9.out.size)
  have HO11 : Hid (FOwn w11 b6 a6 n N P6 Q6) := HO9.out.below B911
  have HK11 : Hid (OwnI w11 g5 (.slice a5 l'.length c5) l'.length f) := HK9.out.below B911
  have HV11 : Hid (VOwn w11 b7 a7 m V G7) := HV9.out.below B911
  have HG11 : Hid (OwnI w11 g8 (.slice a8 l'.length c8) l'.length f) := HG9.out.below B911
  have z11 : w.heap.size < w11.heap.size := by omega
  have z11u : w6.heap.size < w11.heap.size := by omega
  clear hb10 hb11 B910 B911 ho10 x9 u9 x10 u10 x11 u11 zz10 HO9 HK9 HV9 HG9
  go_wp2_with fail
  refine (toValueS_any la lc m V _ HSM'.out (H'.out.below HB11.out)).mono ?_
  rintro e w12 ⟨a12, c12, rfl, ho12, hb12⟩
  obtain ⟨b12, G12, _, _, hV12⟩ := ho12
  have z1112 := hb12.size
  have x12 : w12.cell? ⟨w.heap.size, 0, none⟩ = some (.slice a n c) := (hb12.cell z11).trans x11'
  have u12 : w12.cell? ⟨w6.heap.size, 0, none⟩ = some (.slice a6 n c6) := (hb12.cell z11u).trans u11'
  have HB12 : Hid (Below w.heap.size w w12) := HB11.out.trans (hb12.mono HB11.out.size)
  have HO12 : Hid (FOwn w12 b6 a6 n N P6 Q6) := HO11.out.below hb12
  have HK12 : Hid (OwnI w12 g5 (.slice a5 l'.length c5) l'.length f) := HK11.out.below hb12
  have HV12 : Hid (VOwn w12 b7 a7 m V G7) := HV11.out.below hb12
  have HG12 : Hid (OwnI w12 g8 (.slice a8 l'.length c8) l'.length f) := HG11.out.below hb12
  have HA12 : Hid (VArg w12 a12 m V) := hV12.arg
  have z12 : w.heap.size < w12.heap.size := by omega
  have z12u : w6.heap.size < w12.heap.size := by omega
  clear hb12 hV12 x11' u11' HO11 HK11 HV11 HG11
  go_wp2_with fail
  refine (eqValueS_same a7 a12 c7 c12 m V _ HSM'.out HV12.out.arg HA12.out).mono ?_
  rintro e w13 ⟨rfl, hb13⟩
  have z1213 := hb13.size
  have x13 : w13.cell? ⟨w.heap.size, 0, none⟩ = some (.slice a n c) := (hb13.cell z12).trans x12
  have u13 : w13.cell? ⟨w6.heap.size, 0, none⟩ = some (.slice a6 n c6) := (hb13.cell z12u).trans u12
  have HB13 : Hid (Below w.heap.size w w13) := HB12.out.trans (hb13.mono HB12.out.size)
  have HO13 : Hid (FOwn w13 b6 a6 n N P6 Q6) := HO12.out.below hb13
  have HK13 : Hid (OwnI w13 g5 (.slice a5 l'.length c5) l'.length f) := HK12.out.below hb13
  have HV13 : Hid (VOwn w13 b7 a7 m V G7) := HV12.out.below hb13
  have HG13 : Hid (OwnI w13 g8 (.slice a8 l'.length c8) l'.length f) := HG12.out.below hb13
  have z13 : w.heap.size < w13.heap.size := by omega
  have z13u : w6.heap.size < w13.heap.size := by omega
  clear hb13 x12 u12 HO12 HK12 HV12 HG12 HA12
  go_wp2_with fail
  refine (markFilter_any b6 c6 n a6 N P6 Q6 1 _ (by omega) (by omega) n20 (by omega) HO13.out).mono ?_
  rintro e w14 ⟨rfl, hk14, _⟩
  have z1314 := hk14.size
  have hin : ∀ x, InF b6 n P6 Q6 x → w5.heap.size ≤ x ∧ x < w6.heap.size := fun x hx => InF.in (lo := w5.heap.size) (hi := w6.heap.size) HR6.out.1 HR6.out.2 hx
  have x14 : w14.cell? ⟨w.heap.size, 0, none⟩ = some (.slice a n c) := (hk14.cell (by omega) (fun hx => by have := hin _ hx; omega)).trans x13
  have HB14 : Hid (Below w.heap.size w w14) := HB13.out.trans (hk14.below HB13.out.size (fun k hk hx => by have := hin _ hx; omega))
  have HK14 : Hid (OwnI w14 g5 (.slice a5 l'.length c5) l'.length f) := HK13.out.kept hk14 (fun h hx => by have := hin _ hx; have := HL5.out h; omega)
  have HV14 : Hid (VOwn w14 b7 a7 m V G7) := HV13.out.kept hk14 (fun x hx => by have := hin _ hx; omega)
  have HG14 : Hid (OwnI w14 g8 (.slice a8 l'.length c8) l'.length f) := HG13.out.kept hk14 (fun h hx => by have := hin _ hx; omega)
  have z14 : w.heap.size < w14.heap.size := by omega
  have kb := kAt_up N 1 n (by omega) (by omega) n20 htn
  obtain ⟨kk, hkk⟩ : ∃ kk, kk = kAt N 1 n := ⟨_, rfl⟩
  rw [← hkk] at kb
  rw [← hkk]
  clear hk14 hin x13 u13 HO13 HK13 HV13 HG13 hkk
  go_wp2_with fail
  refine (markValueS_any b7 c7 m a7 V G7 kk _ kb.1 kb.2 m20 htv HV14.out).mono ?_
  rintro e w15 ⟨k', rfl, hk', hk15⟩
  have z1415 := hk15.size
  have hin : ∀ x, (∃ i, i < m ∧ x = G7 i) → b7 < x ∧ x < w7.heap.size := fun x ⟨i, hi, e⟩ => by rw [e]; exact HG7.out i hi
  have x15 : w15.cell? ⟨w.heap.size, 0, none⟩ = some (.slice a n c) := (hk15.cell (by omega) (fun hx => by have := hin _ hx; omega)).trans x14
  have HB15 : Hid (Below w.heap.size w w15) := HB14.out.trans (hk15.below HB14.out.size (fun k hk hx => by have := hin _ hx; omega))
  have HK15 : Hid (OwnI w15 g5 (.slice a5 l'.length c5) l'.length f) := HK14.out.kept hk15 (fun h hx => by have := hin _ hx; have := HL5.out h; omega)
  have HG15 : Hid (OwnI w15 g8 (.slice a8 l'.length c8) l'.length f) := HG14.out.kept hk15 (fun h hx => by have := hin _ hx; omega)
  have z15 : w.heap.size < w15.heap.size := by omega
  have nk : ¬ k' < 0 := by omega
  clear hk15 hin x14 HK14 HV14 HG14 hk'
  go_wp2_with fail
  refine (eqIntS_any _ _ g8 g5 l'.length f _ HG15.out HK15.out).mono ?_
  rintro e w16 ⟨rfl, hb16⟩
  have z1516 := hb16.size
  have x16 : w16.cell? ⟨w.heap.size, 0, none⟩ = some (.slice a n c) := (hb16.cell z15).trans x15
  have HB16 : Hid (Below w.heap.size w w16) := HB15.out.trans (hb16.mono HB15.out.size)
  have HK16 : Hid (OwnI w16 g5 (.slice a5 l'.length c5) l'.length f) := HK15.out.below hb16
  have HG16 : Hid (OwnI w16 g8 (.slice a8 l'.length c8) l'.length f) := HG15.out.below hb16
  have z16 : w.heap.size < w16.heap.size := by omega
  clear hb16 x15 HK15 HG15
  go_wp2_with fail
  refine (markIntS_any _ g8 l'.length f _ HG16.out).mono ?_
  rintro e w17 ⟨rfl, hb17, ho17⟩
  have z1617 := hb17.size
  have x17 : w17.cell? ⟨w.heap.size, 0, none⟩ = some (.slice a n c) := (hb17.cell z16 (by omega)).trans x16
  have HB17 : Hid (Below w.heap.size w w17) := HB16.out.trans (hb17.below HB16.out.size (by omega))
  have HK17 : Hid (OwnI w17 g5 (.slice a5 l'.length c5) l'.length f) := HK16.out.but2 hb17 (fun h => by have := HL5.out h; omega)
  have HG17 : Hid (OwnI w17 g8 (.slice a8 l'.length c8) l'.length (fun i => 1 + i)) := ho17
  have z17 : w.heap.size < w17.heap.size := by omega
  clear hb17 ho17 x16 HK16 HG16
  go_wp2_with fail
  refine (heldIntS_any _ g8 l'.length _ HG17.out).mono ?_
  rintro e w18 ⟨rfl, hb18⟩
  have z1718 := hb18.size
  have x18 : w18.cell? ⟨w.heap.size, 0, none⟩ = some (.slice a n c) := (hb18.cell z17).trans x17
  have HB18 : Hid (Below w.heap.size w w18) := HB17.out.trans (hb18.mono HB17.out.size)
  have HK18 : Hid (OwnI w18 g5 (.slice a5 l'.length c5) l'.length f) := HK17.out.below hb18
  have HG18 : Hid (OwnI w18 g8 (.slice a8 l'.length c8) l'.length (fun i => 1 + i)) := HG17.out.below hb18
  have z18 : w.heap.size < w18.heap.size := by omega
  clear hb18 x17 HK17 HG17
  go_wp2_with fail
  refine (toFilter_any a c n N _ HSM.out (H.out.below HB18.out)).mono ?_
  rintro e w19 ⟨a19, c19, rfl, ho19, hb19⟩
  obtain ⟨_, b19, P19, Q19, _, _, _, hF19⟩ := ho19
  have z1819 := hb19.size
  have HB19 : Hid (Below w.heap.size w w19) := HB18.out.trans (hb19.mono HB18.out.size)
  have HO19 : Hid (FOwn w19 b19 a19 n N P19 Q19) := hF19
  have HK19 : Hid (OwnI w19 g5 (.slice a5 l'.length c5) l'.length f) := HK18.out.below hb19
  have HG19 : Hid (OwnI w19 g8 (.slice a8 l'.length c8) l'.length (fun i => 1 + i)) := HG18.out.below hb19
  clear hb19 hF19 x18 HK18 HG18
  go_wp2_with fail
  refine (toValueS_any la lc m V _ HSM'.out (H'.out.below HB19.out)).mono ?_
  rintro e w20 ⟨a20, c20, rfl, ho20, hb20⟩
  obtain ⟨b20, G20, _, _, hV20⟩ := ho20
  have HB20 : Hid (Below w.heap.size w w20) := HB19.out.trans (hb20.mono HB19.out.size)
  have HO20 : Hid (FOwn w20 b19 a19 n N P19 Q19) := HO19.out.below hb20
  have HV20 : Hid (VOwn w20 b20 a20 m V G20) := hV20
  have HK20 : Hid (OwnI w20 g5 (.slice a5 l'.length c5) l'.length f) := HK19.out.below hb20
  have HG20 : Hid (OwnI w20 g8 (.slice a8 l'.length c8) l'.length (fun i => 1 + i)) := HG19.out.below hb20
  clear hb20 hV20 HO19 HK19 HG19
  go_wp2_with fail
  refine (implSelect_any a19 c19 n N a20 c20 m b20 V G20 _ HO20.out.arg HO20.out.caps HSM.out HV20.out HSM'.out (HTB.out.up HB20.out) (HML.out.below HB20.out)).mono ?_
  rintro e w21 ⟨v21, g', g21, l2, rfl, hg, hg21, ho21, _, hb21⟩
  obtain ⟨hgq, hll⟩ := hg.same HQ.out
  subst hgq hll
  obtain ⟨a21, c21, rfl⟩ := ho21.form
  have HB21 : Hid (Below w.heap.size w w21) := HB20.out.trans (hb21.mono HB20.out.size)
  have HK21 : Hid (OwnI w21 g5 (.slice a5 l2.length c5) l2.length f) := HK20.out.below hb21
  have HG21 : Hid (OwnI w21 g8 (.slice a8 l2.length c8) l2.length (fun i => 1 + i)) := HG20.out.below hb21
  have HH21 : Hid (OwnI w21 g21 (.slice a21 l2.length c21) l2.length f) := by rw [HF.out]; exact ho21
  clear hb21 ho21 hg hg21 HO20 HV20 HK20 HG20
  go_wp2_with fail
  refine (eqIntS_any _ _ g21 g5 l2.length f _ HH21.out HK21.out).mono ?_
  rintro e w22 ⟨rfl, hb22⟩
  have HB22 : Hid (Below w.heap.size w w22) := HB21.out.trans (hb22.mono HB21.out.size)
  have HG22 : Hid (OwnI w22 g8 (.slice a8 l2.length c8) l2.length (fun i => 1 + i)) := HG21.out.below hb22
  clear hb22 HK21 HG21 HH21
  go_wp2_with fail
  refine (heldIntS_any _ g8 l2.length _ HG22.out).mono ?_
  rintro e w23 ⟨rfl, hb23⟩
  have HB23 : Hid (Below w.heap.size w w23) := HB22.out.trans (hb23.mono HB22.out.size)
  clear hb23 HG22
  go_wp2
  go_ret
  exact ⟨rfl, HB23.out⟩

end Go.Proofs.YtjohocnfcnjciaaGreatDoor
namespace Go.Proofs.YtjohocnfcnjciaaGreatDoor
open Go.ChangeShapes Go.WideShapes Go.ChangeAt Go.RowKit
set_option linter.unusedVariables false

set_option maxRecDepth 100000 in
/-- WHAT THE WALK GIVES, for every argument and every world that holds the tables. -/
theorem selectvalues_contract (H : Type) (enc : TypeId × Value → H) (W : World) (base : Nat) (args : Array Value) (ds gs : List (DataW H)) (before : List MemPlace)
    (hval : ∀ (j : Nat) t v, Tryz.f5.params[j]? = some t → args[j]? = some v → Value.okWide Tryz.prog W .any base t v)
    (hW : DataW.Whole enc Tryz.prog Tryz.f5.params.toList Rows.fnExactSelectValuesSpec.vars false W args.toList ds gs before) (hL : laidMetH Tryz.prog Rows.fnExactSelectValuesRow.laid W) (hS : W.ShapedOpen Tryz.prog) :
    Calls Tryz.prog 5 args W fun e W' => ∃ v, e = .returned v ∧ Rows.fnExactSelectValuesSpec.post enc Tryz.prog Tryz.f5 false true false false W args v W' := by
  have hW' := hW
  obtain ⟨p, q, hA0, hV, rfl, hfz, hnd⟩ := hW
  have hA : DataW.TrodAll enc Tryz.prog W 0 (fun _ => true) true Tryz.f5.params.toList args.toList ds p := hA0
  rw [Tryz.params5] at hA hval
  obtain ⟨v0, vs0, d0, ds0, p0, q0, hargs, rfl, rfl, h0, r0⟩ := trodAll_cons hA
  obtain ⟨v1, vs1, d1, ds1, p1, q1, hvs, rfl, rfl, h1, r1⟩ := trodAll_cons r0
  obtain ⟨rfl, rfl, rfl⟩ := trodAll_nil r1
  obtain rfl : args = #[v0, v1] := by cases args; simp_all
  obtain ⟨rfl, rfl⟩ := trodVars_none hV
  have k0 := h0
  have lt0 : ∀ x ∈ p0, x.block < W.heap.size := by obtain ⟨m, hm⟩ := k0; exact DataW.trod_lt m _ _ _ hm
  obtain ⟨a, n, c, N, rfl, hn, harg, hz⟩ := open_filter (hval 0 24 v0 rfl rfl) h0
  have k1 := h1
  have lt1 : ∀ x ∈ p1, x.block < W.heap.size := by obtain ⟨m, hm⟩ := k1; exact DataW.trod_lt m _ _ _ hm
  obtain ⟨a', n', c', M, rfl, hn', harg', hz'⟩ := open_vals (hval 1 47 v1 rfl rfl) h1
  clear hA0
  refine (selectValues_law a c n N a' c' n' M W hn harg hz hn' harg' hz' (table (show laidMet Tryz.prog Rows.fnExactSelectValuesRow.laid W from hL)) (ml_of hS)).mono fun e W' ⟨he, bel⟩ => ?_
  subst he
  exact ⟨_, rfl, _, _, _, [], _, [], hW', trodAll_mk1 (shut_bool Tryz.underlying4 _), (trodAll_cons_mk (Below.trod laidOut (by kernel_rfl) (of_decide_eq_true (by kernel_rfl)) k0 bel lt0) (trodAll_cons_mk (Below.trod laidOut (by kernel_rfl) (of_decide_eq_true (by kernel_rfl)) k1 bel lt1) trodAll_mk0)), rfl, bel.frame _, fun h => by cases h⟩

theorem selectvalues_reads (os : Os) {H : Type} (enc : TypeId × Value → H) : ∃ places, DataW.whole enc Tryz.prog ((layRunes (layTabs (World.holding Tryz.prog os ⟨#[], #[], []⟩))).forCall (fun _ _ => 0) ⟨#[], #[.agg #[.slice none 0 0], .slice none 0 0], []⟩).memory Tryz.f5.params.toList Rows.fnExactSelectValuesSpec.vars false #[Value.agg #[.slice none 0 0], .slice none 0 0].toList 8 = some ([.agg [.nil], .nil], [], places) :=
  ⟨[], by kernel_rfl⟩
theorem selectvalues_laid (os : Os) : laidMet Tryz.prog Rows.fnExactSelectValuesRow.laid ((layRunes (layTabs (World.holding Tryz.prog os ⟨#[], #[], []⟩))).forCall (fun _ _ => 0) ⟨#[], #[.agg #[.slice none 0 0], .slice none 0 0], []⟩).memory :=
  laidMet_of_run' 8 (by kernel_rfl) (by kernel_rfl)

set_option maxRecDepth 100000 in
theorem selectvalues_lifted (os : Os) (started : os.Started) (H : Type) (enc : TypeId × Value → H) (F : Stop.Interp) :
    ReturnsInHanded {} Tryz.checked os 5 .any ((OpenSpec.ofChange Rows.fnExactSelectValuesSpec).preRow enc Tryz.prog Tryz.f5 Rows.fnExactSelectValuesRow.domain false Rows.fnExactSelectValuesRow.laid) (((OpenSpec.ofChange Rows.fnExactSelectValuesSpec).at F).post enc Tryz.prog Tryz.f5 false true false false) := by
  obtain ⟨places, hx⟩ := selectvalues_reads os enc
  refine returnsInHanded_of_row (C := Tryz.checked) (s := OpenSpec.ofChange Rows.fnExactSelectValuesSpec) own started (by kernel_rfl) Tryz.func5
    (witness_row_at (enc := enc) (C := Tryz.checked) false (layRunes (layTabs (World.holding Tryz.prog os ⟨#[], #[], []⟩))) #[.agg #[.slice none 0 0], .slice none 0 0] rfl (by kernel_rfl) (by kernel_rfl) (by kernel_rfl)
      (OpenSpec.preRow_of_cond 8 hx (by kernel_rfl) (fun k hk => by cases hk) (by kernel_rfl) (selectvalues_laid os))) ?_
  intro W base args ds gs before hval hW _ _ _ hL hS _
  exact selectvalues_contract H enc W base args ds gs before hval hW hL hS

theorem selectvalues_said : Rows.FnExactSelectValuesSaid :=
  OpenClaim.holds_of_cond 5 Tryz.f5 rfl rfl rfl rfl rfl rfl rfl ⟨rfl, rfl, rfl, rfl, rfl⟩ rfl rfl rfl rfl rfl (by kernel_rfl) Tryz.func5 (by kernel_rfl)
    (of_decide_eq_true (by kernel_rfl)) (by unfold Func.isWrapper; first | (rw [if_pos (by decide +kernel)]; kernel_rfl) | (rw [if_neg (by decide +kernel)]; exact ⟨rfl, rfl⟩))
    (fun os started H enc _ F => by rw [OpenClaim.pre_eq_preRow]; exact selectvalues_lifted os started H enc F)

theorem selectvalues_plain (f : FuncId) (fn : Func) (hf : Tryz.pinned.checked.prog.funcNamed "loop.example/g00274/laws.FnExactSelectValues" = some f) (hfn : Tryz.pinned.checked.prog.funcs[f]? = some fn) :
    true = Tryz.pinned.checked.prog.looks [] ∧ ∀ (j : Nat) t, fn.params[j]? = some t → Tryz.pinned.checked.prog.wantsStandIn t = false := by
  obtain rfl : f = 5 := Option.some.inj ((show Tryz.prog.funcNamed "loop.example/g00274/laws.FnExactSelectValues" = some 5 by kernel_rfl).symm.trans hf) |>.symm
  obtain rfl : fn = Tryz.f5 := (Option.some.inj (Tryz.func5.symm.trans hfn)).symm
  refine ⟨by kernel_rfl, fun j t ht => ?_⟩
  rw [Tryz.params5] at ht
  rcases (show t = 24 ∨ t = 47 by simpa using Array.mem_of_getElem? ht) with rfl | rfl
  · exact (show Tryz.prog.wantsStandIn 24 = false by kernel_rfl)
  · exact (show Tryz.prog.wantsStandIn 47 = false by kernel_rfl)

/-- THE CARD. -/
theorem selectValues_card : Rows.FnExactSelectValuesCardSaid :=
  Claim7.holds_tied_plain_at .later [] _ _ _ _ selectvalues_said (fun _ h => by cases h) (by kernel_rfl) (fun _ h => by cases h) fnExactSelectValues_row_tie rfl ⟨rfl, rfl⟩ (by kernel_rfl) rfl selectvalues_plain (by kernel_rfl)
#print axioms selectValues_card

end Go.Proofs.YtjohocnfcnjciaaGreatDoor
