/- A word's postings: the program's listOf and PostingsOf. No condition but that they fit in memory. -/
import Derived.Test.YtocpihelhejcnaaLoB
import Derived.Test.YtocpihelhejcnaaLoC
namespace Go.Proofs.Ytocpihelhejcnaa
open Go.RowKit
set_option linter.unusedVariables false

theorem szEntL {es : List DEntry} {i : Nat} {x : ByteArray} {l : List DPosting} (h : es[i]? = some (x, l)) : l.length ≤ (kRow kEntry).sz es := by
  have h1 := sums_ge kEntry.sz es i (x, l) h
  have h2 : kEntry.sz (x, l) = x.size + (l.length + sums kPosting.sz l) := rfl
  have h3 : (kRow kEntry).sz es = es.length + sums kEntry.sz es := rfl
  omega
theorem findL_len (s : ByteArray) : ∀ es : List DEntry, (findL s es).length ≤ sums kEntry.sz es
  | [] => by simp [findL]
  | (x, l) :: r => by
    have ih := findL_len s r
    have h2 : sums kEntry.sz ((x, l) :: r) = (x.size + (l.length + sums kPosting.sz l)) + sums kEntry.sz r := rfl
    rw [findL]
    split <;> omega

set_option maxRecDepth 100000 in
set_option maxHeartbeats 2000000 in
theorem listOf_k (tx : Int) (es : List DEntry) (s : ByteArray) (a : Option Addr) (n c : Nat) (S : Nat → Prop) (w : World) (h : (kRow kEntry).is false w S [.slice a n c] es) (hr : Rises es) (hn30 : n ≤ 2 ^ 30) :
    Calls Try.prog 65 #[.agg #[.int .i64 tx, .slice a n c], .string s] w fun e w' => ∃ (la : Option Addr) (ln lc : Nat) (T : Nat → Prop), e = .returned (.slice la ln lc) ∧ (kRow kPosting).is false w' T [.slice la ln lc] (findL s es) ∧ Below w.heap.size w w' := by
  have HR : Hid (Rises es) := hr
  have HRW : Hid ((kRow kEntry).is false w S [.slice a n c] es) := h
  have HN : Hid (n = es.length) := row_len h
  clear h hr
  go_enter Try.func65, Try.ntmps65
  go_wp2_with fail
  refine (search_k es s a n c S _ (Kd.below HRW.out (below_a1 _ _)) HR.out hn30).mono ?_
  rintro e w1 ⟨k, b, rfl, hq, hb1⟩
  have X1 : w1.cell? ⟨w.heap.size, 1, none⟩ = some (.slice a n c) := by rw [hb1.cell (by simp)]; simp [go_sem]
  have B1 : Below w.heap.size w w1 := (below_a1 _ _).trans (hb1.mono (by simp))
  have hrow := Kd.below HRW.out B1
  have HB1 : Hid (Below w.heap.size w w1) := B1
  clear hb1 B1
  rcases hq with ⟨rfl, l, hx⟩ | ⟨rfl, hf⟩
  · obtain ⟨b, off, B, C, rfl, hb, _, hi', _, hc⟩ := row_at hrow hx
    obtain ⟨la, lc, TL, rfl, gx, gl, hl, _⟩ := kEntry_open hi'
    have A0 : w1.cell? ⟨b, off + k * 2, none⟩ = some (.string s) := (hc 0 _ rfl).1
    have A1 : w1.cell? ⟨b, off + k * 2 + 1, none⟩ = some (.slice la l.length lc) := (hc 1 _ rfl).1
    have hk : k < n := by rw [HN.out]; exact (List.getElem?_eq_some_iff.1 hx).1
    have i0 : (0 : Int) ≤ (k : Int) := by omega
    have i1 : (k : Int) < (n : Int) := by omega
    have HL : Hid ((kRow kPosting).is false w1 TL [.slice la l.length lc] (findL s es)) := by show (kRow kPosting).is _ _ _ _ _; rw [findL_at es k l HR.out hx]; exact hl
    clear hi' hl hc hx hrow
    go_wp2
    go_ret
    exact ⟨la, l.length, lc, TL, rfl, HL.out, HB1.out⟩
  · have HF : Hid (findL s es = []) := hf
    clear hf hrow
    go_wp2
    go_ret
    exact ⟨none, 0, 0, fun _ => False, rfl, by rw [HF.out]; exact row_nil _ _ _ _ _ _, HB1.out⟩

/-- PostingsOf. -/
def fPostingsOf : DWords → ByteArray → List DPosting × Bool := fun x s => if (fGoodWords x && isWordB s) = true then (findL s x.2, true) else ([], false)
/-- What PostingsOf answers. -/
def RPostingsOf (x0 : DWords) (x1 : ByteArray) (w : World) (e : Ending) (w' : World) : Prop := ∃ (a0 : Option Addr) (n0 c0 : Nat) (T0 : Nat → Prop), e = .returned (.tuple #[.slice a0 n0 c0, .bool (fPostingsOf x0 x1).2]) ∧ (kRow kPosting).is true w' T0 [.slice a0 n0 c0] (fPostingsOf x0 x1).1 ∧ (∀ k, T0 k → w.heap.size ≤ k) ∧ sums kPosting.cnt (fPostingsOf x0 x1).1 ≤ 2 ^ 26 ∧ Below w.heap.size w w'
theorem RPo_no {x : DWords} {s : ByteArray} {w w' : World} (h : fPostingsOf x s = ([], false)) (hb : Below w.heap.size w w') : RPostingsOf x s w (.returned (.tuple #[.slice none 0 0, .bool false])) w' := by
  unfold RPostingsOf
  rw [h]
  exact ⟨none, 0, 0, fun _ => False, rfl, row_nil _ _ _ _ _ _, fun k hk => hk.elim, by simp [sums], hb⟩
theorem RPo_yes {t : Int} {es : List DEntry} {s : ByteArray} {w w1 w' : World} {a : Option Addr} {n c : Nat} (h : fPostingsOf (t, es) s = (findL s es, true)) (hz : (kRow kEntry).sz es ≤ 2 ^ 20) (h1 : w.heap.size ≤ w1.heap.size) (hr : (kRow kPosting).is true w' (fun k => w1.heap.size ≤ k) [.slice a n c] (findL s es)) (hb : Below w.heap.size w w') : RPostingsOf (t, es) s w (.returned (.tuple #[.slice a n c, .bool true])) w' := by
  unfold RPostingsOf
  rw [h]
  refine ⟨a, n, c, _, rfl, hr, fun k hk => Nat.le_trans h1 hk, ?_, hb⟩
  rw [cnt_posts]
  have := findL_len s es
  have h3 : (kRow kEntry).sz es = es.length + sums kEntry.sz es := rfl
  show (findL s es).length * 2 ≤ _
  omega

set_option maxRecDepth 100000 in
set_option maxHeartbeats 4000000 in
theorem implPostingsOf_k (x0 : DWords) (C0 : List Value) (S0 : Nat → Prop) (x1 : ByteArray) (w : World) (h0 : kWords.is false w S0 C0 x0) (z0 : kWords.sz x0 ≤ 2 ^ 20) (h1 : x1.size ≤ 2 ^ 20) :
    Calls Try.prog 24 #[.agg C0.toArray, .string x1] w (RPostingsOf x0 x1 w) := by
  obtain ⟨tx, es⟩ := x0
  have HK : Hid (kWords.is false w S0 C0 (tx, es)) := h0
  obtain ⟨a, c, T, rfl, g0, hmx, hr, _⟩ := kWords_open h0
  have HZ0 : Hid (kWords.sz (tx, es) ≤ 2 ^ 20) := z0
  have HZ : Hid ((kRow kEntry).sz es ≤ 2 ^ 20) := by have : kWords.sz (tx, es) = 0 + (kRow kEntry).sz es := rfl; show _ ≤ _; omega
  have HRW : Hid ((kRow kEntry).is false w T [.slice a es.length c] es) := hr
  have HL20 : Hid (es.length ≤ 2 ^ 20) := by have := HZ.out; have h3 : (kRow kEntry).sz es = es.length + sums kEntry.sz es := rfl; show _ ≤ _; omega
  have HF : Hid (fPostingsOf (tx, es) x1 = if (fGoodWords (tx, es) && isWordB x1) = true then (findL x1 es, true) else ([], false)) := rfl
  clear h0 z0 hr
  show Calls Try.prog 24 #[.agg #[.int .i64 tx, .slice a es.length c], .string x1] w _
  go_enter Try.func24, Try.ntmps24
  go_wp2_with fail
  refine (implGoodWords_k (tx, es) [.int .i64 tx, .slice a es.length c] S0 _ (Kd.below HK.out (below_a1 _ _)) HZ0.out).mono ?_
  rintro e w1 ⟨rfl, hb1⟩
  have X0 : w1.cell? ⟨w.heap.size, 0, none⟩ = some (.int .i64 tx) := by rw [hb1.cell (by simp)]; simp [go_sem]
  have X1 : w1.cell? ⟨w.heap.size, 1, none⟩ = some (.slice a es.length c) := by rw [hb1.cell (by simp)]; simp [go_sem]
  have HB1 : Hid (Below w.heap.size w w1) := (below_a1 _ _).trans (hb1.mono (by simp))
  clear hb1
  cases hg : fGoodWords (tx, es) with
  | false =>
    have HNO : Hid (fPostingsOf (tx, es) x1 = ([], false)) := by have := HF.out; rw [hg] at this; exact this
    clear hg
    go_wp2
    refine bodyPost_ret (v := .tuple #[.slice none 0 0, .bool false]) (by simp [results, Try.results24, go_sem]) rfl ?_
    exact RPo_no HNO.out HB1.out
  | true =>
    have HRI : Hid (Rises es) := good_rises hg
    have HF1 : Hid (fPostingsOf (tx, es) x1 = if isWordB x1 = true then (findL x1 es, true) else ([], false)) := by have := HF.out; rw [hg] at this; exact this
    clear hg HF
    go_wp2_with fail
    refine (isWord_k x1 _ h1).mono ?_
    rintro e w2 ⟨rfl, hb2⟩
    have Y0 := cell_later hb2 X0
    have Y1 := cell_later hb2 X1
    have HB2 : Hid (Below w.heap.size w w2) := HB1.out.trans (hb2.mono HB1.out.size)
    clear hb2 X0 X1
    cases hw : isWordB x1 with
    | false =>
      have HNO : Hid (fPostingsOf (tx, es) x1 = ([], false)) := by have := HF1.out; rw [hw] at this; exact this
      clear hw
      go_wp2
      refine bodyPost_ret (v := .tuple #[.slice none 0 0, .bool false]) (by simp [results, Try.results24, go_sem]) rfl ?_
      exact RPo_no HNO.out HB2.out
    | true =>
      have HYES : Hid (fPostingsOf (tx, es) x1 = (findL x1 es, true)) := by have := HF1.out; rw [hw] at this; exact this
      clear hw HF1
      go_wp2_with fail
      refine (listOf_k tx es x1 a es.length c T _ (Kd.below HRW.out HB2.out) HRI.out (by have := HL20.out; omega)).mono ?_
      rintro e w3 ⟨la, ln, lc, T3, rfl, hl3, hb3⟩
      have HL3 : Hid ((kRow kPosting).is false w3 T3 [.slice la ln lc] (findL x1 es)) := hl3
      have HB3 : Hid (Below w.heap.size w w3) := HB2.out.trans (hb3.mono HB2.out.size)
      clear hl3 hb3
      go_wp2_with fail
      refine (cloneP_k (findL x1 es) la ln lc T3 _ HL3.out (by have := findL_len x1 es; have h3 : (kRow kEntry).sz es = es.length + sums kEntry.sz es := rfl; have := HZ.out; omega)).mono ?_
      rintro e w4 ⟨ca, cn, cc, rfl, hl4, hb4⟩
      have HL4 : Hid ((kRow kPosting).is true w4 (fun k => w3.heap.size ≤ k) [.slice ca cn cc] (findL x1 es)) := hl4
      have HB4 : Hid (Below w.heap.size w w4) := HB3.out.trans (hb4.mono HB3.out.size)
      clear hl4 hb4
      go_wp2
      refine bodyPost_ret (v := .tuple #[.slice ca cn cc, .bool true]) (by simp [results, Try.results24, go_sem]) rfl ?_
      exact RPo_yes HYES.out HZ.out HB3.out.size HL4.out HB4.out
end Go.Proofs.Ytocpihelhejcnaa
