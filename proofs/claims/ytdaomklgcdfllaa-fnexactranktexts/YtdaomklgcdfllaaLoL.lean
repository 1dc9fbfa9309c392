/- A word's postings: the program's listOf and PostingsOf. No condition but that they fit in memory. -/
import Derived.Test.YtdaomklgcdfllaaLoB
import Derived.Test.YtdaomklgcdfllaaLoC
namespace Go.Proofs.Ytdaomklgcdfllaa
open Go.RowKit
set_option linter.unusedVariables false

theorem szEntL {es : List DEntry} {i : Nat} {x : ByteArray} {l : List DPosting} (h : es[i]? = some (x, l)) : l.length ≤ (kRow kEntry).sz es := by
  have h1 := sums_ge kEntry.sz es i (x, l) h
  have h2 : kEntry.sz (x, l) = x.size + (l.length + sums kPosting.sz l) := rfl
  have h3 : (kRow kEntry).sz es = es.length + sums kEntry.sz es := rfl
  omega
theorem findL_len (s : ByteArray) : ∀ es : List DEntry, (findL s es).length ≤ sums kEntry.sz es
  | [] => by simp [findL]
  | (x, l) :: r => by
    have ih := findL_len s r
    have h2 : sums kEntry.sz ((x, l) :: r) = (x.size + (l.length + sums kPosting.sz l)) + sums kEntry.sz r := rfl
    rw [findL]
    split <;> omega

set_option maxRecDepth 100000 in
set_option maxHeartbeats 2000000 in
theorem listOf_k (tx : Int) (es : List DEntry) (s : ByteArray) (a : Option Addr) (n c : Nat) (S : Nat → Prop) (w : World) (h : (kRow kEntry).is false w S [.slice a n c] es) (hr : Rises es) (hn30 : n ≤ 2 ^ 30) :
    Calls Try.prog 81 #[.agg #[.int .i64 tx, .slice a n c], .string s] w fun e w' => ∃ (la : Option Addr) (ln lc : Nat) (T : Nat → Prop), e = .returned (.slice la ln lc) ∧ (kRow kPosting).is false w' T [.slice la ln lc] (findL s es) ∧ (∀ k, T k → S k) ∧ Below w.heap.size w w' := by
  have HR : Hid (Rises es) := hr
  have HRW : Hid ((kRow kEntry).is false w S [.slice a n c] es) := h
  have HN : Hid (n = es.length) := row_len h
  clear h hr
  go_enter Try.func81, Try.ntmps81
  go_wp2_with fail
  refine (search_k es s a n c S _ (Kd.below HRW.out (below_a1 _ _)) HR.out hn30).mono ?_
  rintro e w1 ⟨k, b, rfl, hq, hb1⟩
  have X1 : w1.cell? ⟨w.heap.size, 1, none⟩ = some (.slice a n c) := by rw [hb1.cell (by simp)]; simp [go_sem]
  have B1 : Below w.heap.size w w1 := (below_a1 _ _).trans (hb1.mono (by simp))
  have hrow := Kd.below HRW.out B1
  have HB1 : Hid (Below w.heap.size w w1) := B1
  clear hb1 B1
  rcases hq with ⟨rfl, l, hx⟩ | ⟨rfl, hf⟩
  · obtain ⟨b, off, B, C, rfl, hb, _, hi', hBS, hc⟩ := row_at hrow hx
    obtain ⟨la, lc, TL, rfl, gx, gl, hl, hTB⟩ := kEntry_open hi'
    have HTS : Hid (∀ k, TL k → S k) := fun k hk => hBS k (hTB k hk)
    have A0 : w1.cell? ⟨b, off + k * 2, none⟩ = some (.string s) := (hc 0 _ rfl).1
    have A1 : w1.cell? ⟨b, off + k * 2 + 1, none⟩ = some (.slice la l.length lc) := (hc 1 _ rfl).1
    have hk : k < n := by rw [HN.out]; exact (List.getElem?_eq_some_iff.1 hx).1
    have i0 : (0 : Int) ≤ (k : Int) := by omega
    have i1 : (k : Int) < (n : Int) := by omega
    have HL : Hid ((kRow kPosting).is false w1 TL [.slice la l.length lc] (findL s es)) := by show (kRow kPosting).is _ _ _ _ _; rw [findL_at es k l HR.out hx]; exact hl
    clear hi' hl hc hx hrow hBS hTB
    go_wp2
    go_ret
    exact ⟨la, l.length, lc, TL, rfl, HL.out, HTS.out, HB1.out⟩
  · have HF : Hid (findL s es = []) := hf
    clear hf hrow
    go_wp2
    go_ret
    exact ⟨none, 0, 0, fun _ => False, rfl, by rw [HF.out]; exact row_nil _ _ _ _ _ _, fun _ h => h.elim, HB1.out⟩

/-- PostingsOf. -/
def fPostingsOf : DWords → ByteArray → List DPosting × Bool := fun x s => if (fGoodWords x && isWordB s) = true then (findL s x.2, true) else ([], false)
/-- What PostingsOf answers. -/
def RPostingsOf (x0 : DWords) (x1 : ByteArray) (w : World) (e : Ending) (w' : World) : Prop := ∃ (a0 : Option Addr) (n0 c0 : Nat) (T0 : Nat → Prop), e = .returned (.tuple #[.slice a0 n0 c0, .bool (fPostingsOf x0 x1).2]) ∧ (kRow kPosting).is true w' T0 [.slice a0 n0 c0] (fPostingsOf x0 x1).1 ∧ (∀ k, T0 k → w.heap.size ≤ k) ∧ sums kPosting.cnt (fPostingsOf x0 x1).1 ≤ 2 ^ 26 ∧ Below w.heap.size w w'
theorem RPo_no {x : DWords} {s : ByteArray} {w w' : World} (h : fPostingsOf x s = ([], false)) (hb : Below w.heap.size w w') : RPostingsOf x s w (.returned (.tuple #[.slice none 0 0, .bool false])) w' := by
  unfold RPostingsOf
  rw [h]
  exact ⟨none, 0, 0, fun _ => False, rfl, row_nil _ _ _ _ _ _, fun k hk => hk.elim, by simp [sums], hb⟩
theorem RPo_yes {t : Int} {es : List DEntry} {s : ByteArray} {w w1 w' : World} {a : Option Addr} {n c : Nat} (h : fPostingsOf (t, es) s = (findL s es, true)) (hz : (kRow kEntry).sz es ≤ 2 ^ 20) (h1 : w.heap.size ≤ w1.heap.size) (hr : (kRow kPosting).is true w' (fun k => w1.heap.size ≤ k) [.slice a n c] (findL s es)) (hb : Below w.heap.size w w') : RPostingsOf (t, es) s w (.returned (.tuple #[.slice a n c, .bool true])) w' := by
  unfold RPostingsOf
  rw [h]
  refine ⟨a, n, c, _, rfl, hr, fun k hk => Nat.le_trans h1 hk, ?_, hb⟩
  rw [cnt_posts]
  have := findL_len s es
  have h3 : (kRow kEntry).sz es = es.length + sums kEntry.sz es := rfl
  show (findL s es).length * 2 ≤ _
  omega

end Go.Proofs.Ytdaomklgcdfllaa
