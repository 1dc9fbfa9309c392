/- What the law of packed postings draws. No condition but that it fits in memory. -/
import Derived.Test.YtcnlmpdpimhcbaaCuS
import Derived.Test.YtcnlmpdpimhcbaaSeI
import Derived.Test.YtcnlmpdpimhcbaaUpT
namespace Go.Proofs.Ytcnlmpdpimhcbaa
open Go.RowKit
set_option linter.unusedVariables false

theorem cell_b3 (w : World) (u v x : Value) (T : TypeId) : (w.alloc (.cells #[u, v, x] T)).cell? ⟨w.heap.size, 0, none⟩ = some u ∧ (w.alloc (.cells #[u, v, x] T)).cell? ⟨w.heap.size, 1, none⟩ = some v ∧ (w.alloc (.cells #[u, v, x] T)).cell? ⟨w.heap.size, 2, none⟩ = some x := by simp [World.cell?_alloc_new]
/-- A cursor laid anew. -/
theorem cur_new {w : World} {x : List Int} {a : Option Addr} {n c : Nat} {T : TypeId} (h : (kRow kU8).is false w (fun _ => True) [.slice a n c] x) (hn : n ≤ 9223372036854775807) : CurAt (w.alloc (.cells #[.slice a n c, .int .i64 0, .int .u64 0] T)) w.heap.size (fun k => k < w.heap.size) 0 := by
  obtain ⟨c0, c1, c2⟩ := cell_b3 w (.slice a n c) (.int .i64 0) (.int .u64 0) T
  exact ⟨x, a, n, c, 0, 0, c0, c1, c2, fun o _ => World.frozen?_alloc_new _ _ _ _, Kd.below (Kd.tight _ h (fun k hk _ => hk)) (below_a1' _ _), hn, by omega, by omega⟩
theorem KeptO.belowNew {w w' : World} {o : Obj} (h : KeptO (fun k => k = w.heap.size) (w.alloc o) w') : Below w.heap.size w w' :=
  (below_a1' w o).trans ⟨h.os, h.tape, h.output, h.size, fun k hk => h.block k (by simp; omega) (by omega)⟩

def RDraw (w : World) (e : Ending) (w' : World) : Prop := ∃ (a : Option Addr) (n c : Nat) (T : Nat → Prop) (l : List DPosting), e = .returned (.slice a n c) ∧ (kRow kPosting).is true w' T [.slice a n c] l ∧ (∀ k, T k → w.heap.size ≤ k) ∧ l.length ≤ 6 ∧ Below w.heap.size w w'

set_option maxRecDepth 100000 in
set_option maxHeartbeats 4000000 in
theorem drawPack_k (w : World) (x : List Int) (a : Option Addr) (n c : Nat) (h : (kRow kU8).is false w (fun _ => True) [.slice a n c] x) (hn : n ≤ 9223372036854775807) :
    Calls Try.prog 14 #[.slice a n c] w (RDraw w) := by
  have H : Hid ((kRow kU8).is false w (fun _ => True) [.slice a n c] x) := h
  clear h
  go_enter Try.func14, Try.ntmps14
  go_wp2_with fail
  refine (postings_k _ w.heap.size (fun k => k < w.heap.size) 0 (cur_new H.out hn) (by omega) (by simp) (fun k hk => by simp; omega)).mono ?_
  rintro e w1 ⟨ra, rn, rc, T, l, rfl, hr, hT, hl, hc, hk⟩
  have HR : Hid ((kRow kPosting).is true w1 T [.slice ra rn rc] l) := hr
  have HB : Hid (Below w.heap.size w w1) := hk.belowNew
  have HT : Hid (∀ k, T k → w.heap.size ≤ k) := fun k hk => by have := hT k hk; simp at this; omega
  clear hr hk hT hc
  go_wp2
  go_ret
  exact ⟨_, _, _, _, l, rfl, HR.out, HT.out, hl, HB.out⟩

theorem sz_posts : ∀ l : List DPosting, sums kPosting.sz l = 0
  | [] => rfl
  | x :: t => by
    have h : kPosting.sz x = 0 := rfl
    rw [sums, sz_posts t, h]
theorem pack_small {l : List DPosting} (hl : l.length ≤ 6) : (fPackPostings l).1.size ≤ 24 := by
  unfold fPackPostings
  split
  · have := packN_len l (-1)
    rw [strOfNums_size]
    omega
  · show (0 : Nat) ≤ 24
    omega

set_option maxRecDepth 100000 in
set_option maxHeartbeats 4000000 in
theorem drawUnpack_k (w : World) (x : List Int) (a : Option Addr) (n c : Nat) (h : (kRow kU8).is false w (fun _ => True) [.slice a n c] x) (hn : n ≤ 9223372036854775807) :
    Calls Try.prog 19 #[.slice a n c] w fun e w' => ∃ s : ByteArray, e = .returned (.string s) ∧ s.size ≤ 26 ∧ Below w.heap.size w w' := by
  have H : Hid ((kRow kU8).is false w (fun _ => True) [.slice a n c] x) := h
  clear h
  go_enter Try.func19, Try.ntmps19
  go_wp2_with fail
  refine (postings_k _ w.heap.size (fun k => k < w.heap.size) 0 (cur_new H.out hn) (by omega) (by simp) (fun k hk => by simp; omega)).mono ?_
  rintro e w1 ⟨ra, rn, rc, T, l, rfl, hr, hT, hl, hc, hk⟩
  have z1 : w.heap.size < w1.heap.size := by have := hk.size; simp at this; omega
  have HR : Hid ((kRow kPosting).is true w1 T [.slice ra rn rc] l) := hr
  have HB : Hid (Below w.heap.size w w1) := hk.belowNew
  have HC : Hid (CurAt w1 w.heap.size (fun k => k < w.heap.size) (0 + 20)) := hc
  have hn1 := row_len hr
  have HZ : Hid ((kRow kPosting).sz l ≤ 2 ^ 20) := by show l.length + sums kPosting.sz l ≤ _; rw [sz_posts]; omega
  clear hr hk hT hc hn1
  go_wp2_with fail
  refine (specPackPostings_k l _ _ _ _ _ (Kd.read _ HR.out) HZ.out).mono ?_
  rintro e w2 ⟨rfl, _, hb⟩
  have hs := pack_small hl
  have HB2 : Hid (Below w.heap.size w w2) := HB.out.trans (hb.mono (by omega))
  have HC2 : Hid (CurAt w2 w.heap.size (fun k => k < w.heap.size) (0 + 20)) := HC.out.below hb
  have z2 : w1.heap.size ≤ w2.heap.size := hb.size
  generalize (fPackPostings l).1 = s at *
  generalize (fPackPostings l).2 = ok at *
  clear hb HB HC HZ HR
  go_wp2_with fail
  refine (one_k w2 _ _ _ 3 HC2.out (by omega) (by omega) (by omega)).mono ?_
  rintro e w3 ⟨b, rfl, hc3, hk3⟩
  have HC3 : Hid (CurAt w3 w.heap.size (fun k => k < w.heap.size) (0 + 20 + 1)) := hc3
  have HB3 : Hid (Below w.heap.size w w3) := HB2.out.trans ⟨hk3.os, hk3.tape, hk3.output, hk3.size, fun k hk => hk3.block k (by omega) (by omega)⟩
  have z3 : w2.heap.size ≤ w3.heap.size := hk3.size
  clear hc3 hk3 HC2 HB2
  cases b
  · go_wp2
    go_ret
    exact ⟨s, rfl, by omega, HB3.out⟩
  · go_wp2_with fail
    refine (spoilt_k w3 w.heap.size _ _ s ⟨#[0, 128, 127]⟩ HC3.out (by omega) (by omega) (fun k hk => by omega) (by omega) (by decide) (by decide)).mono ?_
    rintro e w4 ⟨s', rfl, hs', hc4, hk4⟩
    have HB4 : Hid (Below w.heap.size w w4) := HB3.out.trans ⟨hk4.os, hk4.tape, hk4.output, hk4.size, fun k hk => hk4.block k (by omega) (by omega)⟩
    clear hc4 hk4
    go_wp2
    go_ret
    exact ⟨s', rfl, by omega, HB4.out⟩
end Go.Proofs.Ytcnlmpdpimhcbaa
