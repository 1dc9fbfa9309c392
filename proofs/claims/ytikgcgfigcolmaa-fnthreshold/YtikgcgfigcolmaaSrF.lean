/- A search through lists, begun: its functions in a row. No condition but that they fit in memory. -/
import Derived.Test.YtikgcgfigcolmaaSrD
namespace Go.Proofs.Ytikgcgfigcolmaa
open Go.RowKit
set_option linter.unusedVariables false

def fnC (v : Value) : List Value := [v]
theorem infoFnA : (Try.prog.info? 123).map (fun i => (i.zero, i.size, i.bytes)) = some (some .nilFunc, 1, 8) := by kernel_rfl
/-- append(fs, f) of functions. -/
theorem app_fn {w : World} {ops : Array Oper} {rest : List Oper} {o : Oper} {a : Act} {Q : Exit → Act → World → Prop} (hgd : o.guard = none) (s x : Operand)
    (ho : o.op = .call { callee := .builtin .append, args := #[s, x], argTypes := #[96, 96] })
    (B : Nat) (v : Value) (l : List Value) (hs : a.eval s = v) (hown : OwnL fnC 123 1 w B v l) (b : Nat) (y : Value) (hx : a.eval x = .slice (some ⟨b, 0, none⟩) 1 1) (hy : y.oneCell' = true) (hc : w.cell? ⟨b, 0, none⟩ = some y)
    (hL : l.length < 2 ^ 30) (hbase : B ≤ w.heap.size)
    (h : ∀ v' w', OwnL fnC 123 1 w' B v' (l ++ [y]) → Below B w w' → Grew w w' v v' → wpList Try.prog ops Q rest (a.put o.dst v') w') : wpList Try.prog ops Q (o :: rest) a w := by
  obtain ⟨i0, hi, hz0, hz1, hz2⟩ := info_parts infoFnA
  exact wpList_app1 fnC hgd s x 96 ho B 123 i0 _ 1 8 Try.underlying96 hi hz0 hz1 hz2 rfl (by decide) (by decide) v l hs hown b y hx rfl (fun u hu => by simp [fnC] at hu; rw [hu]; exact hy) (fun j u hj => by
    match j, hj with
    | 0, hj => obtain rfl : y = u := by simpa [fnC] using hj
               exact hc) hL hbase h

/-- A search while it is begun. -/
structure SnAt (W0 w : World) (s B : Nat) (a : Option Addr) (n c : Nat) (oa : Option Addr) (m oc : Nat) (L : List Value) : Prop where
  c0 : w.cell? ⟨s, 0, none⟩ = some (.slice a n c)
  c1 : w.cell? ⟨s, 1, none⟩ = some (.slice oa m oc)
  c2 : w.cell? ⟨s, 2, none⟩ = some (.slice none 0 0)
  c3 : w.cell? ⟨s, 3, none⟩ = some (.int .i64 0)
  c4 : w.cell? ⟨s, 4, none⟩ = some (.int .i64 0)
  fz : ∀ o, o < 5 → w.frozen? ⟨s, o, none⟩ = false
  own : OwnL fnC 123 1 w B (.slice oa m oc) L
  bb : BelowBut B s W0 w
  lt : s < B
  le : B ≤ w.heap.size
theorem ownF_set {w : World} {B : Nat} {v : Value} {l : List Value} {g o : Nat} {u : Value} (h : OwnL fnC 123 1 w B v l) (hg : g < B) : OwnL fnC 123 1 (w.setCell ⟨g, o, none⟩ u) B v l := h.kept (S := fun k => k = g) ⟨rfl, rfl, rfl, by simp, fun k hk hn => heap_set_ne hn⟩ (fun k hk e => by have e' : k = g := e; omega)
theorem SnAt.put {W0 w w3 : World} {s B : Nat} {a : Option Addr} {n c : Nat} {oa : Option Addr} {m oc : Nat} {L : List Value} (h : SnAt W0 w s B a n c oa m oc L) (hb : Below B w w3) {oa' : Option Addr} {m' oc' : Nat} {L' : List Value} (ho : OwnL fnC 123 1 w3 B (.slice oa' m' oc') L') : SnAt W0 (w3.setCell ⟨s, 1, none⟩ (.slice oa' m' oc')) s B a n c oa' m' oc' L' := by
  have hc : ∀ o v, w.cell? ⟨s, o, none⟩ = some v → w3.cell? ⟨s, o, none⟩ = some v := fun o v h' => (hb.cell (p := ⟨s, o, none⟩) h.lt).trans h'
  refine ⟨set_other (hc _ _ h.c0) (by decide), set_same (hc _ _ h.c1), set_other (hc _ _ h.c2) (by decide), set_other (hc _ _ h.c3) (by decide), set_other (hc _ _ h.c4) (by decide), fun o ho' => ?_, ownF_set ho h.lt, set_bbut (bbut_trans h.bb (below_bbut hb)), h.lt, by have := h.le; have := hb.size; simp; omega⟩
  rw [World.frozen?_setCell, hb.frozen (p := ⟨s, o, none⟩) h.lt]
  exact h.fz o ho'
/-- Functions that read the lists, in a row. -/
def FnsOk (w : World) (ls : List DRanking) (L : List Value) : Prop := L.length ≤ ls.length ∧ ∀ (i : Nat) (v : Value), L[i]? = some v → ∃ r la lc, ls[i]? = some r ∧ v = Value.func (.func 96) #[.agg #[.slice la r.length lc]] #[] ∧ (kRow kScored).is false w (fun k => k < w.heap.size) [.slice la r.length lc] r

theorem below_set {B g o : Nat} {w w' : World} {v : Value} (h : Below B w w') (hg : B ≤ g) : Below B w (w'.setCell ⟨g, o, none⟩ v) := ⟨h.os, h.tape, h.output, by simpa using h.size, fun k hk => (heap_set_ne (by omega)).trans (h.block k hk)⟩
/-- What a search that is begun is. -/
def RSearch (ls : List DRanking) (a : Option Addr) (n c : Nat) (w : World) (e : Ending) (w' : World) : Prop := ∃ (ea : Option Addr) (ec B : Nat) (L : List Value), e = .returned (.agg #[.slice a n c, .slice ea n ec, .slice none 0 0, .int .i64 0, .int .i64 0]) ∧ Below w.heap.size w w' ∧ FnsOk w ls L ∧ L.length = n ∧ w.heap.size ≤ B ∧ OwnL fnC 123 1 w' B (.slice ea n ec) L

set_option maxRecDepth 100000 in
set_option maxHeartbeats 4000000 in
theorem searchIn_k (ls : List DRanking) (a : Option Addr) (n c : Nat) (S : Nat → Prop) (w : World) (h : (kRow kRanking).is false w S [.slice a n c] ls) (hl : ls.length ≤ 5) :
    Calls Try.prog 62 #[.slice a n c] w (RSearch ls a n c w) := by
  have hnl := row_len h
  have h5 : n ≤ 5 := by omega
  have HNL : Hid (n = ls.length) := hnl
  have H : Hid ((kRow kRanking).is false w S [.slice a n c] ls) := h
  clear h hnl hl
  go_enter Try.func62, Try.ntmps62
  go_wp2_with fail
  obtain ⟨W0, hW0⟩ : ∃ W0, W0 = (w.alloc (.cells #[.slice none 0 0, .slice none 0 0, .slice none 0 0, .int .i64 0, .int .i64 0] 98)).alloc (.cells #[.slice a n c, .slice none 0 0, .slice none 0 0, .int .i64 0, .int .i64 0] 98) := ⟨_, rfl⟩
  rw [← hW0]
  have hz0 : W0.heap.size = w.heap.size + 1 + 1 := by rw [hW0]; simp
  have HB0 : Hid (Below w.heap.size w W0) := by rw [hW0]; exact below_a2r _ _ _
  have HSN : Hid (SnAt W0 W0 (w.heap.size + 1) W0.heap.size a n c none 0 0 []) := by
    refine ⟨?_, ?_, ?_, ?_, ?_, fun o ho => ?_, OwnL.nil _ _ _ _ _, bbut_refl _ _ _, by omega, Nat.le_refl _⟩
    all_goals (rw [hW0]; simp [go_sem])
  have HRS : Hid ((∀ o v, [Value.slice none 0 0, .slice none 0 0, .slice none 0 0, .int .i64 0, .int .i64 0][o]? = some v → W0.cell? ⟨w.heap.size, o, none⟩ = some v) ∧ ∀ o, W0.frozen? ⟨w.heap.size, o, none⟩ = false) := by
    refine ⟨fun o v ho => ?_, fun o => by rw [hW0]; simp [go_sem]⟩
    have ho5 : o < 5 := (List.getElem?_eq_some_iff.1 ho).1
    rw [hW0, World.cell?_alloc_old _ _ _ (by show w.heap.size ≠ _; simp), World.cell?_alloc_new]
    simpa using ho
  have HZ0 : Hid (W0.heap.size = w.heap.size + 1 + 1) := hz0
  clear hW0 hz0
  go_loopw [10] (fun iv wr => ∃ (k : Nat) (oa : Option Addr) (oc : Nat) (L : List Value), k ≤ n ∧ iv = .int .i64 k ∧ L.length = k ∧ Hid (FnsOk w ls L) ∧ Hid (SnAt W0 wr (w.heap.size + 1) W0.heap.size a n c oa k oc L)) (fun iv _ => n - (intOf iv).toNat)
  case atStart => exact ⟨0, none, 0, [], Nat.zero_le _, rfl, rfl, ⟨Nat.zero_le _, fun i v hv => by simp at hv⟩, HSN⟩
  case round =>
    obtain ⟨k, oa, oc, L, hk, rfl, hLk, HF, HS⟩ := hrel
    have hwz : W0.heap.size ≤ wr.heap.size := HS.out.le
    have hsB : w.heap.size + 1 < W0.heap.size := HS.out.lt
    have HBR : Hid (Below w.heap.size w wr) := HB0.out.trans ⟨HS.out.bb.os, HS.out.bb.tape, HS.out.bb.output, HS.out.bb.size, fun q hq => HS.out.bb.block q (by omega) (by omega)⟩
    by_cases hlt : k < n
    · obtain ⟨x, hx⟩ : ∃ x, ls[k]? = some x := ⟨_, List.getElem?_eq_getElem (by rw [← HNL.out]; exact hlt)⟩
      obtain ⟨b, off, B, C, rfl, hb, _, hi, _, hc⟩ := row_at H.out hx
      obtain ⟨la, lc, T, rfl, hm, hl, _⟩ := kRanking_open hi
      have A0 : wr.cell? ⟨b, off + k, none⟩ = some (.slice la x.length lc) := cell_later HBR.out (cell1 (hc 0 _ rfl).1)
      have i0 : (0 : Int) ≤ (k : Int) := by omega
      have i1 : (k : Int) < (n : Int) := by omega
      have C1 := HS.out.c1
      have C1f := HS.out.fz 1 (by decide)
      have HFN : Hid (FnsOk w ls (L ++ [Value.func (.func 96) #[.agg #[.slice la x.length lc]] #[]])) := by
        refine ⟨by have h1 := (List.getElem?_eq_some_iff.1 hx).1; simp; omega, fun i v hv => ?_⟩
        by_cases e : i < L.length
        · rw [List.getElem?_append_left e] at hv
          exact HF.out.2 i v hv
        · have hiL : i = L.length := by have := (List.getElem?_eq_some_iff.1 hv).1; simp at this; omega
          subst hiL
          obtain rfl : Value.func (.func 96) #[.agg #[.slice la x.length lc]] #[] = v := by simpa using hv
          exact ⟨x, la, lc, by rw [hLk]; exact hx, rfl, Kd.tight _ hl (fun q hq _ => hq)⟩
      have hbk : b < w.heap.size := hb
      clear hc hi hx hl hb hm
      obtain ⟨m, hm'⟩ : ∃ m, m = x.length := ⟨_, rfl⟩
      rw [← hm'] at A0 HFN
      clear hm'
      have G1 := cell_later (below_a1r wr (.cells #[.slice la m lc] 58)) C1
      have G1f : (wr.alloc (.cells #[.slice la m lc] 58)).frozen? ⟨w.heap.size + 1, 1, none⟩ = false := frozen_later (below_a1r wr _) C1 C1f
      go_wp2_with (at_builtin; go_loud (refine app_fn rfl _ _ rfl W0.heap.size _ L rfl (OwnL.below HS.out.own (below_a2r _ _ _)) _ (.func (.func 96) #[.agg #[.slice la m lc]] #[]) rfl rfl (by simp [go_sem]) (by omega) (by simp; omega) ?_))
      intro v3 w3 ho3 hb3 _
      obtain ⟨a3, c3, rfl, _⟩ := ho3.form
      have hl3 : (L ++ [Value.func (.func 96) #[.agg #[.slice la m lc]] #[]]).length = k + 1 := by simp; omega
      rw [hl3] at ho3 ⊢
      have HB3 : Hid (Below W0.heap.size wr w3) := ((below_a2r wr _ _).mono hwz).trans hb3
      have HS3 : Hid (SnAt W0 (w3.setCell ⟨w.heap.size + 1, 1, none⟩ (.slice a3 (k + 1) c3)) (w.heap.size + 1) W0.heap.size _ n c a3 (k + 1) c3 (L ++ [Value.func (.func 96) #[.agg #[.slice la m lc]] #[]])) := HS.out.put HB3.out ho3
      have K1 : w3.cell? ⟨w.heap.size + 1, 1, none⟩ = some (.slice oa k oc) := (HB3.out.cell (p := ⟨w.heap.size + 1, 1, none⟩) hsB).trans C1
      have K1f : w3.frozen? ⟨w.heap.size + 1, 1, none⟩ = false := (HB3.out.frozen (p := ⟨w.heap.size + 1, 1, none⟩) hsB).trans C1f
      clear ho3 hb3 hl3 G1 G1f
      go_wp2
      go_roundw
      case rel => exact ⟨k + 1, a3, c3, _, by omega, by go_num, by simp; omega, HFN, HS3⟩
      case measure => simp [intOf]; omega
    · have i1 : ¬ (k : Int) < (n : Int) := by omega
      obtain rfl : k = n := by omega
      have C0 := HS.out.c0
      have C1 := HS.out.c1
      have C2 := HS.out.c2
      have C3 := HS.out.c3
      have C4 := HS.out.c4
      have hR : ∀ o v, [Value.slice none 0 0, .slice none 0 0, .slice none 0 0, .int .i64 0, .int .i64 0][o]? = some v → wr.cell? ⟨w.heap.size, o, none⟩ = some v := fun o v ho => (World.cell?_of_block (w := W0) (HS.out.bb.block w.heap.size (by omega) (by omega))).trans (HRS.out.1 o v ho)
      have hRf : ∀ o, wr.frozen? ⟨w.heap.size, o, none⟩ = false := fun o => (World.frozen?_of_block (w := W0) (HS.out.bb.block w.heap.size (by omega) (by omega))).trans (HRS.out.2 o)
      have R0 := hR 0 _ rfl
      have R1 := hR 1 _ rfl
      have R2 := hR 2 _ rfl
      have R3 := hR 3 _ rfl
      have R4 := hR 4 _ rfl
      have f0 := hRf 0
      have f1 := hRf 1
      have f2 := hRf 2
      have f3 := hRf 3
      have f4 := hRf 4
      clear hR hRf
      go_wp2
      refine bodyPost_ret (v := .agg #[.slice a k c, .slice oa k oc, .slice none 0 0, .int .i64 0, .int .i64 0]) (by simp [results, Try.results62, go_sem, R0, R1, R2, R3, R4]) rfl ?_
      have hgB : w.heap.size < W0.heap.size := by omega
      exact ⟨oa, oc, W0.heap.size, L, rfl, below_set (below_set (below_set (below_set (below_set HBR.out (Nat.le_refl _)) (Nat.le_refl _)) (Nat.le_refl _)) (Nat.le_refl _)) (Nat.le_refl _), HF.out, hLk, by omega, ownF_set (ownF_set (ownF_set (ownF_set (ownF_set HS.out.own hgB) hgB) hgB) hgB) hgB⟩
end Go.Proofs.Ytikgcgfigcolmaa
