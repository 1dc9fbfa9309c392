/- Memory that is kept but for one block, and the law's marks. No condition. -/
import Derived.Test.YtdlodeklheapgaaRows
import Derived.WalkKit
import Derived.WalkSpells
import Derived.WalkLawsBesides
import Derived.Handy
import Derived.Deep.RegionHeld3
namespace Go.Proofs.Ytdlodeklheapgaa
open Go.RowKit

/-- A string of these bytes. -/
def strL (l : List UInt8) : ByteArray := ⟨l.toArray⟩
theorem strL_size (l : List UInt8) : (strL l).size = l.length := by simp [strL, ByteArray.size]
theorem strL_append (a b : List UInt8) : strL a ++ strL b = strL (a ++ b) := by
  apply ByteArray.ext
  simp [strL]

theorem bcell {W w1 : World} (hb : Below W.heap.size W w1) : (∀ b o, b < W.heap.size → w1.cell? ⟨b, o, none⟩ = W.cell? ⟨b, o, none⟩) ∧ (∀ b o, b < W.heap.size → w1.frozen? ⟨b, o, none⟩ = W.frozen? ⟨b, o, none⟩) :=
  ⟨fun b o h => hb.cell (p := ⟨b, o, none⟩) h, fun b o h => hb.frozen (p := ⟨b, o, none⟩) h⟩

/-- 'string([]byte{x})'. -/
theorem conv_one (W : World) (x : Int) : (convert 22 9 (.slice (some ⟨W.heap.size, 0, none⟩) 1 1)).run Try.prog (W.alloc (.cells #[.int .u8 x] 5)) = .ok (.string (strOfNums [x])) (W.alloc (.cells #[.int .u8 x] 5)) :=
  run_convert_bytes_arg _ 22 5 Try.underlying22 Try.underlying5 _ 0 1 1 [x] rfl (fun i hi => by
    obtain rfl : i = 0 := by omega
    simp [World.cell?_alloc_new]) 9 Try.underlying9

theorem digB_size (k : Int) : (strOfNums [k]).size = 1 := rfl

/-- A digit's byte. -/
def digB (k : Int) : ByteArray := strOfNums [48 + k % 10]
/-- The digits of k, ahead of out. -/
def mloop : Nat → Int → ByteArray → ByteArray
  | 0, _, out => out
  | f + 1, k, out => if 0 < k then mloop f (k / 10) (digB k ++ out) else out
def mtext (k : Int) : ByteArray := ⟨#[109]⟩ ++ mloop 41 k ⟨#[]⟩
theorem mloop_pos (f : Nat) (k : Int) (out : ByteArray) (h : 0 < k) : mloop (f + 1) k out = mloop f (k / 10) (digB k ++ out) := by rw [mloop, if_pos h]
theorem mloop_zero (f : Nat) (k : Int) (out : ByteArray) (h : k ≤ 0) : mloop f k out = out := by
  cases f with
  | zero => rfl
  | succ f => rw [mloop, if_neg (by omega)]

set_option maxHeartbeats 400000 in
theorem markText_any (k0 : Int) (w : World) (h0 : 0 < k0) (h1 : k0 ≤ 2 ^ 40) :
    Calls Try.prog 92 #[.int .i64 k0] w fun e w' => e = .returned (.string (mtext k0)) ∧ Below w.heap.size w w' := by
  go_enter Try.func92, Try.ntmps92
  go_wp2
  go_loopw [0, 3] (fun i o wr => ∃ (f : Nat) (k : Int) (out : ByteArray), i = .int .i64 k ∧ o = .string out ∧ 0 ≤ k ∧ k < 2 ^ f ∧ k ≤ k0 ∧ out.size + f ≤ 41 ∧ Hid (mloop f k out = mloop 41 k0 ⟨#[]⟩) ∧ Below w.heap.size w wr) (fun i _ _ => (intOf i).toNat)
  case atStart => exact ⟨41, k0, _, rfl, rfl, by omega, by omega, by omega, Nat.le_refl _, rfl, Below.refl _ _⟩
  case round =>
    obtain ⟨f, k, out, rfl, rfl, hk0, hk2, hk1, hsz, HM, hnx⟩ := hrel
    by_cases hp : 0 < k
    · obtain _ | f := f
      · simp at hk2; omega
      · have HM' : Hid (mloop f (k / 10) (digB k ++ out) = mloop 41 k0 ⟨#[]⟩) := by
          have := HM.out; rw [mloop_pos _ _ _ hp] at this; exact this
        have HP : Hid (k < 2 ^ (f + 1)) := hk2
        clear hk2
        have hcv := conv_one
        have hs1 := digB_size
        go_wp2
        go_roundw
        case rel => exact ⟨f, k / 10, digB k ++ out, rfl, rfl, by omega, by have := HP.out; rw [Int.pow_succ] at this; omega, by omega, by simp [digB, strOfNums_size]; omega, HM', hnx.alloc hnx.size _⟩
        case measure => simp [intOf]; omega
    · have HP : Hid (k < 2 ^ f) := hk2
      clear hk2
      go_wp2
      go_ret
      refine ⟨?_, hnx⟩
      unfold mtext
      rw [← HM.out, mloop_zero _ _ _ (by omega)]
      rfl

/-- All blocks below B but b are as they were. -/
structure BelowBut (B b : Nat) (w w' : World) : Prop where
  os : w'.os = w.os
  tape : w'.tape = w.tape
  output : w'.output = w.output
  size : w.heap.size ≤ w'.heap.size
  block : ∀ k, k < B → k ≠ b → w'.heap[k]? = w.heap[k]?

theorem BelowBut.refl (B b : Nat) (w : World) : BelowBut B b w w := ⟨rfl, rfl, rfl, Nat.le_refl _, fun _ _ _ => rfl⟩
theorem BelowBut.trans {B b : Nat} {a c d : World} (h : BelowBut B b a c) (k : BelowBut B b c d) : BelowBut B b a d :=
  ⟨k.os.trans h.os, k.tape.trans h.tape, k.output.trans h.output, Nat.le_trans h.size k.size, fun i hi hn => (k.block i hi hn).trans (h.block i hi hn)⟩
theorem BelowBut.of {B b : Nat} {w w' : World} (h : Below B w w') : BelowBut B b w w' := ⟨h.os, h.tape, h.output, h.size, fun k hk _ => h.block k hk⟩
theorem BelowBut.mono {B B' b : Nat} {w w' : World} (h : BelowBut B b w w') (hB : B' ≤ B) : BelowBut B' b w w' := ⟨h.os, h.tape, h.output, h.size, fun k hk => h.block k (by omega)⟩
theorem BelowBut.below {B B' b : Nat} {w w' : World} (h : BelowBut B b w w') (hB : B' ≤ B) (hb : B' ≤ b) : Below B' w w' := ⟨h.os, h.tape, h.output, h.size, fun k hk => h.block k (by omega) (by omega)⟩
theorem BelowBut.setCell {B b : Nat} (w : World) (o : Nat) (v : Value) : BelowBut B b w (w.setCell ⟨b, o, none⟩ v) :=
  ⟨rfl, rfl, rfl, by simp [World.setCell], fun k _ hk => Below.heap_setCell _ _ _ _ hk⟩
theorem BelowBut.cell {B b : Nat} {w w' : World} (h : BelowBut B b w w') {g o : Nat} (hg : g < B) (hn : g ≠ b) : w'.cell? ⟨g, o, none⟩ = w.cell? ⟨g, o, none⟩ := World.cell?_of_block (w := w) (h.block g hg hn)
theorem BelowBut.frozen {B b : Nat} {w w' : World} (h : BelowBut B b w w') {g o : Nat} (hg : g < B) (hn : g ≠ b) : w'.frozen? ⟨g, o, none⟩ = w.frozen? ⟨g, o, none⟩ := World.frozen?_of_block (w := w) (h.block g hg hn)

theorem cell_set {w : World} {b o x : Nat} {v : Value} (h : (w.cell? ⟨b, o, none⟩).isSome = true) : (w.setCell ⟨b, o, none⟩ v).cell? ⟨b, x, none⟩ = if x = o then some v else w.cell? ⟨b, x, none⟩ := by
  by_cases hx : x = o
  · subst hx
    rw [if_pos rfl, World.cell?_setCell_same' _ _ _ h]
  · rw [if_neg hx, World.cell?_setCell_other]
    intro e
    exact hx (by injection e with _ e2 _; exact e2.symm)

end Go.Proofs.Ytdlodeklheapgaa
