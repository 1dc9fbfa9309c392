/- Copy: how it lies in memory, and what the laws' helpers do with it. No condition. -/
import Derived.Test.YtbkdkiodkcpbeaaKd
namespace Go.Proofs.Ytbkdkiodkcpbeaa
open Go.RowKit
set_option linter.unusedVariables false

/-- Copy, as data. -/
abbrev DCopy := Int × Int × ByteArray
def kCopy : Kd DCopy := kPair kInt (kPair kInt kStr)
theorem kCopy_open {o : Bool} {w : World} {S : Nat → Prop} {vs : List Value} {x0 : Int} {x1 : Int} {x2 : ByteArray} (h : kCopy.is o w S vs (x0, x1, x2)) : vs = [.int .i64 x0, .int .i64 x1, .string x2] ∧ IntOk x0 ∧ IntOk x1 ∧ x2.size ≤ maxLen := by
  obtain ⟨P0, Q0, v0, u0, rfl, ⟨rfl, g0⟩, r0, s0, q0, d0⟩ := h
  obtain ⟨P1, Q1, v1, u1, rfl, ⟨rfl, g1⟩, ⟨rfl, g2⟩, s1, q1, d1⟩ := r0
  exact ⟨rfl, g0, g1, g2⟩
theorem kCopy_shut {o : Bool} {w : World} {S : Nat → Prop} {x0 : Int} {x1 : Int} {x2 : ByteArray} (g0 : IntOk x0) (g1 : IntOk x1) (g2 : x2.size ≤ maxLen) : kCopy.is o w S [.int .i64 x0, .int .i64 x1, .string x2] (x0, x1, x2) := 
  ⟨fun _ => False, fun k => False, _, _, rfl, ⟨rfl, g0⟩, ⟨fun _ => False, fun _ => False, _, _, rfl, ⟨rfl, g1⟩, ⟨rfl, g2⟩, fun k hk => hk.elim, (fun k hk => hk.elim), (fun e k hk hk' => hk.elim)⟩, fun k hk => hk.elim, (fun k hk => hk.elim), (fun e k hk hk' => hk.elim)⟩

set_option maxRecDepth 100000 in
set_option maxHeartbeats 1000000 in
theorem eqCopy_k (x : DCopy) (C1 C2 : List Value) (S1 S2 : Nat → Prop) (w : World) (h1 : kCopy.is false w S1 C1 x) (h2 : kCopy.is false w S2 C2 x) :
    Calls Try.prog 88 #[.agg C1.toArray, .agg C2.toArray] w fun e w' => e = .returned (.bool true) ∧ Below w.heap.size w w' := by
  obtain ⟨x0, x1, x2⟩ := x
  obtain ⟨rfl, g0, g1, g2⟩ := kCopy_open (h1)
  obtain ⟨rfl, j0, j1, j2⟩ := kCopy_open (h2)
  clear h1 h2
  show Calls Try.prog 88 #[.agg #[.int .i64 x0, .int .i64 x1, .string x2], .agg #[.int .i64 x0, .int .i64 x1, .string x2]] w _
  go_enter Try.func88, Try.ntmps88
  go_wp2
  go_ret
  exact ⟨rfl, by go_grown⟩

set_option maxRecDepth 100000 in
set_option maxHeartbeats 2000000 in
theorem eqCopyS_k (l : List DCopy) (a1 a2 : Option Addr) (n c1 c2 : Nat) (S1 S2 : Nat → Prop) (w : World) (h1 : (kRow kCopy).is false w S1 [.slice a1 n c1] l) (h2 : (kRow kCopy).is false w S2 [.slice a2 n c2] l) :
    Calls Try.prog 69 #[.slice a1 n c1, .slice a2 n c2] w fun e w' => e = .returned (.bool true) ∧ Below w.heap.size w w' := by
  have hnl := row_len h1
  have hmx : n ≤ 9223372036854775807 := by obtain ⟨_, _, _, h, _⟩ := row_form h1; rw [hnl]; exact h
  have HNL : Hid (n = l.length) := hnl
  clear hnl
  have H1 : Hid ((kRow kCopy).is false w S1 [.slice a1 n c1] l) := h1
  have H2 : Hid ((kRow kCopy).is false w S2 [.slice a2 n c2] l) := h2
  clear h1 h2
  go_enter Try.func69, Try.ntmps69
  go_wp2_with fail
  go_loopw [5] (fun i wr => ∃ k : Nat, k ≤ n ∧ i = .int .i64 k ∧ Below w.heap.size w wr) (fun i _ => n - (intOf i).toNat)
  case atStart => exact ⟨0, Nat.zero_le _, rfl, Below.refl _ _⟩
  case round =>
    obtain ⟨k, hk, rfl, hnx⟩ := hrel
    by_cases hlt : k < n
    · obtain ⟨x, hx⟩ : ∃ x, l[k]? = some x := ⟨_, List.getElem?_eq_getElem (by rw [← HNL.out]; exact hlt)⟩
      obtain ⟨b, off, B, C, rfl, hb, _, hi, _, hc⟩ := row_at (Kd.below H1.out hnx) hx
      obtain ⟨b', off', B', C', rfl, hb', _, hi', _, hc'⟩ := row_at (Kd.below H2.out hnx) hx
      obtain ⟨x0, x1, x2⟩ := x
      obtain ⟨rfl, g0, g1, g2⟩ := kCopy_open hi
      obtain ⟨rfl, j0, j1, j2⟩ := kCopy_open hi'
      have A0 : wr.cell? ⟨b, off + k * 3, none⟩ = some (.int .i64 x0) := (hc 0 _ rfl).1
      have A1 : wr.cell? ⟨b, off + k * 3 + 1, none⟩ = some (.int .i64 x1) := (hc 1 _ rfl).1
      have A2 : wr.cell? ⟨b, off + k * 3 + 2, none⟩ = some (.string x2) := (hc 2 _ rfl).1
      have D0 : wr.cell? ⟨b', off' + k * 3, none⟩ = some (.int .i64 x0) := (hc' 0 _ rfl).1
      have D1 : wr.cell? ⟨b', off' + k * 3 + 1, none⟩ = some (.int .i64 x1) := (hc' 1 _ rfl).1
      have D2 : wr.cell? ⟨b', off' + k * 3 + 2, none⟩ = some (.string x2) := (hc' 2 _ rfl).1
      have i0 : (0 : Int) ≤ (k : Int) := by omega
      have i1 : (k : Int) < (n : Int) := by omega
      have HI : Hid (kCopy.is false wr B [.int .i64 x0, .int .i64 x1, .string x2] (x0, x1, x2) ∧ kCopy.is false wr B' [.int .i64 x0, .int .i64 x1, .string x2] (x0, x1, x2)) := ⟨hi, hi'⟩
      have HD : Hid (Below wr.heap.size wr wr.drew) := (Below.refl _ _).drew
      have HS1 : Hid (wr.cell? ⟨b, off + k * 3, none⟩ = some (.int .i64 x0) ∧ wr.cell? ⟨b, off + k * 3 + 1, none⟩ = some (.int .i64 x1) ∧ wr.cell? ⟨b, off + k * 3 + 2, none⟩ = some (.string x2) ∧ wr.cell? ⟨b', off' + k * 3, none⟩ = some (.int .i64 x0) ∧ wr.cell? ⟨b', off' + k * 3 + 1, none⟩ = some (.int .i64 x1) ∧ wr.cell? ⟨b', off' + k * 3 + 2, none⟩ = some (.string x2)) := ⟨A0, A1, A2, D0, D1, D2⟩
      have HSK : Hid (∀ w', Below wr.heap.size wr w' → w'.cell? ⟨b, off + k * 3, none⟩ = some (.int .i64 x0) ∧ w'.cell? ⟨b, off + k * 3 + 1, none⟩ = some (.int .i64 x1) ∧ w'.cell? ⟨b, off + k * 3 + 2, none⟩ = some (.string x2) ∧ w'.cell? ⟨b', off' + k * 3, none⟩ = some (.int .i64 x0) ∧ w'.cell? ⟨b', off' + k * 3 + 1, none⟩ = some (.int .i64 x1) ∧ w'.cell? ⟨b', off' + k * 3 + 2, none⟩ = some (.string x2)) := fun w' h => ⟨(h.cell hb).trans A0, (h.cell hb).trans A1, (h.cell hb).trans A2, (h.cell hb').trans D0, (h.cell hb').trans D1, (h.cell hb').trans D2⟩
      clear hi hi' hc hc'
      go_wp2_with fail
      go_region_held3 (fun w' => w'.cell? ⟨b, off + k * 3, none⟩ = some (.int .i64 x0) ∧ w'.cell? ⟨b, off + k * 3 + 1, none⟩ = some (.int .i64 x1) ∧ w'.cell? ⟨b, off + k * 3 + 2, none⟩ = some (.string x2) ∧ w'.cell? ⟨b', off' + k * 3, none⟩ = some (.int .i64 x0) ∧ w'.cell? ⟨b', off' + k * 3 + 1, none⟩ = some (.int .i64 x1) ∧ w'.cell? ⟨b', off' + k * 3 + 2, none⟩ = some (.string x2)) (first | exact HS1.out | exact HSK.out _ HD.out | exact HSK.out _ hB1)
        (first | (go_at_call 88; go_fit (eqCopy_k (x0, x1, x2) [.int .i64 x0, .int .i64 x1, .string x2] [.int .i64 x0, .int .i64 x1, .string x2] B B' wr.drew (Kd.below HI.out.1 HD.out) (Kd.below HI.out.2 HD.out)); rintro e w1 ⟨rfl, hb1⟩; have hB1 : Below wr.heap.size wr w1 := HD.out.trans hb1))
      go_wp2
      go_roundw
      case rel => exact ⟨k + 1, by omega, by go_num, hnx.trans (hB1.mono hnx.size)⟩
      case measure => simp [intOf]; omega
    · go_wp2
      go_ret
      exact ⟨rfl, hnx⟩

set_option maxRecDepth 100000 in
set_option maxHeartbeats 1000000 in
theorem szCopy_k (x : DCopy) (C : List Value) (S : Nat → Prop) (left : Int) (w : World) (hl0 : 0 ≤ left) (hl1 : left ≤ 2 ^ 20) (h : kCopy.is false w S C x) :
    Calls Try.prog 90 #[.agg C.toArray, .int .i64 left] w fun e w' => ∃ r : Int, e = .returned (.int .i64 r) ∧ (r = -1 ∨ (0 ≤ r ∧ r + (kCopy.sz x : Nat) = left)) ∧ Below w.heap.size w w' := by
  obtain ⟨x0, x1, x2⟩ := x
  obtain ⟨rfl, g0, g1, g2⟩ := kCopy_open h
  have HSZ : Hid (kCopy.sz (x0, x1, x2) = 0 + (0 + (x2.size))) := rfl
  clear h
  unfold maxLen at g2
  show Calls Try.prog 90 #[.agg #[.int .i64 x0, .int .i64 x1, .string x2], .int .i64 left] w _
  go_enter Try.func90, Try.ntmps90
  by_cases cc2 : left - (x2.size : Int) < 0
  · go_wp2
    go_ret
    exact ⟨-1, rfl, .inl rfl, by go_grown⟩
  · have nn2 : 0 ≤ left - (x2.size : Int) := by omega
    go_wp2
    go_ret
    refine ⟨left - (x2.size : Int), rfl, .inr ⟨by omega, ?_⟩, by go_grown⟩
    rw [HSZ.out]
    omega

set_option maxRecDepth 100000 in
set_option maxHeartbeats 1000000 in
theorem szCopyS_k (l : List DCopy) (a : Option Addr) (n c : Nat) (S : Nat → Prop) (left : Int) (w : World) (hl0 : 0 ≤ left) (hl1 : left ≤ 2 ^ 20) (h : (kRow kCopy).is false w S [.slice a n c] l) :
    Calls Try.prog 72 #[.slice a n c, .int .i64 left] w fun e w' => ∃ r : Int, e = .returned (.int .i64 r) ∧ (r = -1 ∨ (0 ≤ r ∧ r + ((kRow kCopy).sz l : Nat) = left)) ∧ Below w.heap.size w w' := by
  have hnl := row_len h
  have hmx : n ≤ 9223372036854775807 := by obtain ⟨_, _, _, h, _⟩ := row_form h; rw [hnl]; exact h
  have HNL : Hid (n = l.length) := hnl
  have HSZ : Hid ((kRow kCopy).sz l = l.length + sums kCopy.sz l) := rfl
  have H : Hid ((kRow kCopy).is false w S [.slice a n c] l) := h
  clear h hnl
  by_cases c0 : left - (n : Int) < 0
  · go_enter Try.func72, Try.ntmps72
    go_wp2
    go_ret
    exact ⟨-1, rfl, .inl rfl, by go_grown⟩
  · go_enter Try.func72, Try.ntmps72
    go_wp2_with fail
    go_loopw [1, 5] (fun q i wr => ∃ (k : Nat) (r : Int), k ≤ n ∧ i = .int .i64 k ∧ q = .int .i64 r ∧ 0 ≤ r ∧ r ≤ 2 ^ 20 ∧ Hid (r + (sums kCopy.sz (l.take k) : Nat) = left - (n : Int)) ∧ Below w.heap.size w wr) (fun _ i _ => n - (intOf i).toNat)
    case atStart => exact ⟨0, _, Nat.zero_le _, rfl, rfl, by omega, by omega, by show _ = _; simp [sums], Below.refl _ _⟩
    case round =>
      obtain ⟨k, r, hk, rfl, rfl, hr0, hr1, HJ, hnx⟩ := hrel
      by_cases hlt : k < n
      · obtain ⟨x, hx⟩ : ∃ x, l[k]? = some x := ⟨_, List.getElem?_eq_getElem (by rw [← HNL.out]; exact hlt)⟩
        have HN : Hid (sums kCopy.sz (l.take (k + 1)) = sums kCopy.sz (l.take k) + kCopy.sz x) := sums_next _ l k x hx
        obtain ⟨b, off, B, C, rfl, hb, _, hi, _, hc⟩ := row_at (Kd.below H.out hnx) hx
        obtain ⟨x0, x1, x2⟩ := x
        obtain ⟨rfl, g0, g1, g2⟩ := kCopy_open hi
        have A0 : wr.cell? ⟨b, off + k * 3, none⟩ = some (.int .i64 x0) := (hc 0 _ rfl).1
        have A1 : wr.cell? ⟨b, off + k * 3 + 1, none⟩ = some (.int .i64 x1) := (hc 1 _ rfl).1
        have A2 : wr.cell? ⟨b, off + k * 3 + 2, none⟩ = some (.string x2) := (hc 2 _ rfl).1
        have i0 : (0 : Int) ≤ (k : Int) := by omega
        have i1 : (k : Int) < (n : Int) := by omega
        have HI : Hid (kCopy.is false wr B [.int .i64 x0, .int .i64 x1, .string x2] (x0, x1, x2)) := hi
        clear hi hc hx
        go_wp2_with fail
        refine (szCopy_k (x0, x1, x2) [.int .i64 x0, .int .i64 x1, .string x2] B _ _ hr0 hr1 HI.out).mono ?_
        rintro e w1 ⟨q, rfl, hq, hb1⟩
        have HB : Hid (Below w.heap.size w w1) := hnx.trans (hb1.mono hnx.size)
        clear hb1
        rcases hq with rfl | ⟨q0, q1⟩
        · go_wp2
          go_ret
          exact ⟨-1, rfl, .inl rfl, HB.out⟩
        · have HJ' : Hid (q + (sums kCopy.sz (l.take (k + 1)) : Nat) = left - (n : Int)) := by
            show _ = _
            have h1 := HJ.out
            have h2 := HN.out
            omega
          have q2 : q ≤ 2 ^ 20 := by omega
          have q3 : ¬ q < 0 := by omega
          clear q1
          go_wp2
          go_roundw
          case rel => exact ⟨k + 1, q, by omega, by go_num, rfl, q0, q2, HJ', HB.out⟩
          case measure => simp [intOf]; omega
      · go_wp2
        go_ret
        obtain rfl : k = n := by omega
        refine ⟨r, rfl, .inr ⟨hr0, ?_⟩, hnx⟩
        have h1 := HJ.out
        rw [HNL.out, List.take_length] at h1
        rw [HSZ.out]
        omega

set_option maxRecDepth 100000 in
set_option maxHeartbeats 2000000 in
theorem toCopy_k (x : DCopy) (C : List Value) (S : Nat → Prop) (w : World) (h : kCopy.is false w S C x) (hs : kCopy.sz x ≤ 2 ^ 20) :
    Calls Try.prog 91 #[.agg C.toArray] w fun e w' => ∃ C', e = .returned (.agg C'.toArray) ∧ kCopy.is true w' (fun k => w.heap.size ≤ k) C' x ∧ Below w.heap.size w w' := by
  obtain ⟨x0, x1, x2⟩ := x
  obtain ⟨rfl, g0, g1, g2⟩ := kCopy_open h
  have HSZ : Hid (0 + (0 + (x2.size)) ≤ 2 ^ 20) := hs
  have G0 : Hid (IntOk x0) := g0
  have G1 : Hid (IntOk x1) := g1
  have G2 : Hid (x2.size ≤ maxLen) := g2
  clear h hs g0 g1 g2
  show Calls Try.prog 91 #[.agg #[.int .i64 x0, .int .i64 x1, .string x2]] w _
  go_enter Try.func91, Try.ntmps91
  go_wp2
  exact bodyPost_ret (v := .agg #[.int .i64 x0, .int .i64 x1, .string x2]) (by simp [results, Try.results91, go_sem]) rfl ⟨[.int .i64 x0, .int .i64 x1, .string x2], rfl, kCopy_shut G0.out G1.out G2.out, by go_grown⟩

theorem infoCopyS : (Try.prog.info? 40).map (fun i => (i.zero, i.size, i.bytes)) = some (some (.agg #[.int .i64 0, .int .i64 0, .string ⟨#[]⟩]), 3, 32) := by kernel_rfl
theorem makeCopyS (n : Nat) (hn : n ≤ 2 ^ 30) (W : World) : (Instr.makeSlice 23 (.int .i64 (n : Int)) (.int .i64 (n : Int))).run Try.prog W = .ok (.slice (some ⟨W.heap.size, 0, none⟩) n n) (W.alloc (.cells (madeCells #[.int .i64 0, .int .i64 0, .string ⟨#[]⟩] (n * 3)) 40)) := by
  obtain ⟨i0, hi, hz0, hz1, hz2⟩ := info_parts infoCopyS
  have h := run_make (P := Try.prog) W 23 40 i0 _ Try.underlying23 hi hz0 .i64 .i64 n n (by omega) (by omega) (by rw [hz2]; omega) (by omega)
  rw [hz1] at h
  simpa [Value.cells] using h
set_option maxRecDepth 100000 in
set_option maxHeartbeats 2000000 in
theorem toCopyS_k (l : List DCopy) (a : Option Addr) (n c : Nat) (S : Nat → Prop) (w : World) (h : (kRow kCopy).is false w S [.slice a n c] l) (hs : (kRow kCopy).sz l ≤ 2 ^ 20) :
    Calls Try.prog 73 #[.slice a n c] w fun e w' => ∃ a', e = .returned (.slice a' n n) ∧ (kRow kCopy).is true w' (fun k => w.heap.size ≤ k) [.slice a' n n] l ∧ w.heap.size < w'.heap.size ∧ Below w.heap.size w w' := by
  have hnl := row_len h
  have HSZ : Hid (l.length + sums kCopy.sz l ≤ 2 ^ 20) := hs
  have n20 : n ≤ 2 ^ 20 := by have := HSZ.out; omega
  have HNL : Hid (n = l.length) := hnl
  have H : Hid ((kRow kCopy).is false w S [.slice a n c] l) := h
  clear h hnl hs
  have hmk := makeCopyS n (by omega)
  obtain ⟨W, hW⟩ : ∃ W, W = w.alloc (.cells (madeCells #[.int .i64 0, .int .i64 0, .string ⟨#[]⟩] (n * 3)) 40) := ⟨_, rfl⟩
  have HN : Hid (FillO kCopy W w.heap.size n []) := by
    refine FillO.start _ (by rw [hW]; simp) fun o ho => ?_
    have ho' : o < n * 3 := by simpa [show kCopy.wd = 3 from rfl] using ho
    rw [hW, World.cell?_alloc_new]
    exact ⟨by simp [madeCells, ho'], World.frozen?_alloc_new _ _ _ _⟩
  have hsz : w.heap.size < W.heap.size := by rw [hW]; simp
  have hbl : Below w.heap.size w W := by rw [hW]; go_grown
  have hmw := hmk w
  rw [← hW] at hmw
  clear hmk hW
  go_enter Try.func73, Try.ntmps73
  go_wp2_with fail
  go_loopw [4] (fun i wr => ∃ k : Nat, k ≤ n ∧ i = .int .i64 k ∧ w.heap.size < wr.heap.size ∧ Below w.heap.size w wr ∧ Hid (FillO kCopy wr w.heap.size n (l.take k))) (fun i _ => n - (intOf i).toNat)
  case atStart => exact ⟨0, Nat.zero_le _, rfl, hsz, hbl, by show FillO _ _ _ _ _; simpa using HN.out⟩
  case round =>
    obtain ⟨k, hk, rfl, hz, hnx, HF⟩ := hrel
    by_cases hlt : k < n
    · obtain ⟨x, hx⟩ : ∃ x, l[k]? = some x := ⟨_, List.getElem?_eq_getElem (by rw [← HNL.out]; exact hlt)⟩
      have HT : Hid (l.take (k + 1) = l.take k ++ [x]) := by show _ = _; rw [List.take_add_one, hx]; rfl
      have HKL : Hid ((l.take k).length = k) := by show _ = _; rw [List.length_take, ← HNL.out]; omega
      have HXS : Hid (kCopy.sz x ≤ 2 ^ 20) := by have := sums_ge kCopy.sz l k x hx; have := HSZ.out; show _ ≤ _; omega
      obtain ⟨b, off, B, C, rfl, hb, _, hi, _, hc⟩ := row_at (Kd.below H.out hnx) hx
      obtain ⟨x0, x1, x2⟩ := x
      obtain ⟨rfl, g0, g1, g2⟩ := kCopy_open hi
      have A0 : wr.cell? ⟨b, off + k * 3, none⟩ = some (.int .i64 x0) := (hc 0 _ rfl).1
      have A1 : wr.cell? ⟨b, off + k * 3 + 1, none⟩ = some (.int .i64 x1) := (hc 1 _ rfl).1
      have A2 : wr.cell? ⟨b, off + k * 3 + 2, none⟩ = some (.string x2) := (hc 2 _ rfl).1
      have i0 : (0 : Int) ≤ (k : Int) := by omega
      have i1 : (k : Int) < (n : Int) := by omega
      have HI : Hid (kCopy.is false wr B [.int .i64 x0, .int .i64 x1, .string x2] (x0, x1, x2)) := hi
      clear hi hc hx
      go_wp2_with fail
      refine (toCopy_k (x0, x1, x2) [.int .i64 x0, .int .i64 x1, .string x2] B _ HI.out HXS.out).mono ?_
      rintro e w1 ⟨C1, rfl, hi1, hb1⟩
      obtain ⟨rfl, j0, j1, j2⟩ := kCopy_open hi1
      have HI1 : Hid (kCopy.is true w1 (fun k => wr.heap.size ≤ k) [.int .i64 x0, .int .i64 x1, .string x2] (x0, x1, x2)) := hi1
      have HF1 : Hid (FillO kCopy w1 w.heap.size n (l.take k)) := HF.out.below hb1
      obtain ⟨u0, hu0⟩ := Option.isSome_iff_exists.1 (HF1.out.room (k * 3) (by show _ < n * 3; omega)).1
      have f0 := (HF1.out.room (k * 3) (by show _ < n * 3; omega)).2
      obtain ⟨u1, hu1⟩ := Option.isSome_iff_exists.1 (HF1.out.room (k * 3 + 1) (by show _ < n * 3; omega)).1
      have f1 := (HF1.out.room (k * 3 + 1) (by show _ < n * 3; omega)).2
      obtain ⟨u2, hu2⟩ := Option.isSome_iff_exists.1 (HF1.out.room (k * 3 + 2) (by show _ < n * 3; omega)).1
      have f2 := (HF1.out.room (k * 3 + 2) (by show _ < n * 3; omega)).2
      have z1 := hb1.size
      have HB : Hid (Below wr.heap.size wr w1) := hb1
      clear hb1 hi1 A0 A1 A2
      have zg : w.heap.size < w1.heap.size := by omega
      go_wp2_with fail
      obtain ⟨r1, r2⟩ := FillO.next HF.out (by rw [HKL.out]; exact hlt) HB.out HI1.out rfl
      rw [HKL.out, ← HT.out] at r1
      rw [HKL.out] at r2
      go_roundw
      case rel => exact ⟨k + 1, by omega, by go_num, by have := r2.size; exact Nat.lt_of_lt_of_le zg this, hnx.trans ((HB.out.mono hnx.size).trans (r2.below (by omega) (Nat.le_refl _))), r1⟩
      case measure => simp [intOf]; omega
    · go_wp2
      go_ret
      obtain rfl : k = n := by omega
      have hf := HF.out
      rw [HNL.out, List.take_length] at hf
      exact ⟨_, rfl, by rw [HNL.out]; exact hf.done rfl (by unfold maxLen; have := HNL.out; omega) (fun k hk _ => hk), hz, hnx⟩

set_option maxRecDepth 100000 in
set_option maxHeartbeats 2000000 in
theorem markCopyS_k (l : List DCopy) (a : Option Addr) (n c : Nat) (S : Nat → Prop) (k0 : Int) (w : World) (hk0 : 0 < k0) (hk1 : k0 + (sums kCopy.cnt l : Nat) ≤ 2 ^ 31) (h : (kRow kCopy).is true w S [.slice a n c] l) :
    Calls Try.prog 70 #[.slice a n c, .int .i64 k0] w fun e w' => e = .returned (.int .i64 (k0 + (sums kCopy.cnt l : Nat))) ∧ KeptO S w w' ∧ (kRow kCopy).is true w' S [.slice a n c] (mks kCopy l k0) := by
  have hnl := row_len h
  have hmx : n ≤ 9223372036854775807 := by obtain ⟨_, _, _, h, _⟩ := row_form h; rw [hnl]; exact h
  have HNL : Hid (n = l.length) := hnl
  have HCN : Hid (k0 + (sums kCopy.cnt l : Nat) ≤ 2 ^ 31) := hk1
  have H : Hid ((kRow kCopy).is true w S [.slice a n c] l) := h
  clear h hnl hk1
  go_enter Try.func70, Try.ntmps70
  go_wp2_with fail
  go_loopw [1, 5] (fun q i wr => ∃ (k : Nat) (r : Int), k ≤ n ∧ i = .int .i64 k ∧ q = .int .i64 r ∧ 0 < r ∧ r ≤ 2 ^ 31 ∧ Hid (r = k0 + (sums kCopy.cnt (l.take k) : Nat)) ∧ KeptO S w wr ∧ Hid ((kRow kCopy).is true wr S [.slice a n c] (mkTil kCopy l k0 k))) (fun _ i _ => n - (intOf i).toNat)
  case atStart => exact ⟨0, k0, Nat.zero_le _, rfl, rfl, hk0, by have := HCN.out; omega, by show _ = _; simp [sums], KeptO.refl _ _, by show Kd.is _ _ _ _ _ _; rw [mkTil_zero]; exact H.out⟩
  case round =>
    obtain ⟨k, r, hk, rfl, rfl, hr0, hr1, HR, hnx, HM⟩ := hrel
    by_cases hlt : k < n
    · obtain ⟨x, hx⟩ : ∃ x, l[k]? = some x := ⟨_, List.getElem?_eq_getElem (by rw [← HNL.out]; exact hlt)⟩
      have HN : Hid (sums kCopy.cnt (l.take (k + 1)) = sums kCopy.cnt (l.take k) + kCopy.cnt x) := sums_next _ l k x hx
      have HE : Hid ((mkTil kCopy l k0 k).set k (kCopy.mrk x r) = mkTil kCopy l k0 (k + 1)) := by show _ = _; rw [HR.out]; exact mkTil_next kCopy l k0 k x hx
      have HB : Hid (r + (kCopy.cnt x : Nat) ≤ 2 ^ 31) := by
        have h1 := sums_take_le kCopy.cnt l (k + 1)
        have h2 := HN.out
        have h3 := HCN.out
        have h4 := HR.out
        show _ ≤ _
        omega
      obtain ⟨b, off, B, C, rfl, hb, hSb, hnb, hi, hBS, hc, hput⟩ := row_put HM.out (by rw [mkTil_at _ _ _ _ (by rw [← HNL.out]; exact hlt)]; exact hx)
      obtain ⟨x0, x1, x2⟩ := x
      obtain ⟨rfl, g0, g1, g2⟩ := kCopy_open hi
      have A0 : wr.cell? ⟨b, off + k * 3, none⟩ = some (.int .i64 x0) := (hc 0 _ rfl).1
      have F0 : wr.frozen? ⟨b, off + k * 3, none⟩ = false := (hc 0 _ rfl).2
      have A1 : wr.cell? ⟨b, off + k * 3 + 1, none⟩ = some (.int .i64 x1) := (hc 1 _ rfl).1
      have F1 : wr.frozen? ⟨b, off + k * 3 + 1, none⟩ = false := (hc 1 _ rfl).2
      have A2 : wr.cell? ⟨b, off + k * 3 + 2, none⟩ = some (.string x2) := (hc 2 _ rfl).1
      have F2 : wr.frozen? ⟨b, off + k * 3 + 2, none⟩ = false := (hc 2 _ rfl).2
      have HPUT : Hid (∀ w' x' C', OnlyO B b (off + k * 3) (off + k * 3 + 3) wr w' → kCopy.is true w' B C' x' → (∀ j v, C'[j]? = some v → w'.cell? ⟨b, off + k * 3 + j, none⟩ = some v) → (kRow kCopy).is true w' S [.slice (some ⟨b, off, none⟩) n c] ((mkTil kCopy l k0 k).set k x')) := hput
      have HCX : Hid (kCopy.cnt (x0, x1, x2) = 1 + (1 + (1))) := rfl
      have HO : Hid (OnlyO B b (off + k * 3) (off + k * 3 + 3) wr wr) := OnlyO.refl _ _ _ _ _
      have HBS : Hid (S b ∧ ∀ k, B k → S k) := ⟨hSb, hBS⟩
      have i0 : (0 : Int) ≤ (k : Int) := by omega
      have i1 : (k : Int) < (n : Int) := by omega
      have bd : r + 1 + 1 + 1 ≤ 2 ^ 31 := by have h1 := HB.out; have h2 := HCX.out; omega
      clear hc hput hx hi hBS
      go_wp2_with fail
      refine (markText_any _ _ (by omega) (by omega)).mono ?_
      rintro e w3 ⟨rfl, hb3⟩
      have st2 : OnlyO (fun _ => False) b (off + k * 3) (off + k * 3 + 3) wr w3 := ((((OnlyO.refl (fun _ => False) b (off + k * 3) (off + k * 3 + 3) wr).thenSet (o := off + k * 3) (by omega) (by omega)).thenSet (o := off + k * 3 + 1) (by omega) (by omega)).trans (OnlyO.below hb3 (World.block_lt_of_cell? _ _ (set_other (set_same A0) (by omega)))))
      have A0_2 : w3.cell? ⟨b, off + k * 3, none⟩ = some (.int .i64 (r)) := cell_later hb3 (set_other (set_same A0) (by omega))
      have F0_2 : w3.frozen? ⟨b, off + k * 3, none⟩ = false := frozen_later hb3 (set_other (set_same A0) (by omega)) (frozen_set (frozen_set F0))
      have A1_2 : w3.cell? ⟨b, off + k * 3 + 1, none⟩ = some (.int .i64 (r + 1)) := cell_later hb3 (set_same (set_other A1 (by omega)))
      have F1_2 : w3.frozen? ⟨b, off + k * 3 + 1, none⟩ = false := frozen_later hb3 (set_same (set_other A1 (by omega))) (frozen_set (frozen_set F1))
      have A2_2 : w3.cell? ⟨b, off + k * 3 + 2, none⟩ = some (.string x2) := cell_later hb3 (set_other (set_other A2 (by omega)) (by omega))
      have F2_2 : w3.frozen? ⟨b, off + k * 3 + 2, none⟩ = false := frozen_later hb3 (set_other (set_other A2 (by omega)) (by omega)) (frozen_set (frozen_set F2))
      have HO_2 : Hid (OnlyO B b (off + k * 3) (off + k * 3 + 3) wr w3) := HO.out.trans (st2.mono (fun _ h => h.elim))
      clear hb3 st2 A0 F0 A1 F1 A2 F2
      go_wp2_with fail
      have hfin := HPUT.out _ (kCopy.mrk (x0, x1, x2) r) [.int .i64 (r), .int .i64 (r + 1), .string (mtext (r + 1 + 1))] (HO_2.out.thenSet (o := off + k * 3 + 2) (v := .string (mtext (r + 1 + 1))) (by omega) (by omega)) (kCopy_shut ⟨by omega, by omega⟩ ⟨by omega, by omega⟩ (by have := mtext_size (r + 1 + 1); unfold maxLen; omega)) (cells_cons (P := fun j u => World.cell? _ ⟨b, off + k * 3 + j, none⟩ = some u) (set_other A0_2 (by omega)) (cells_cons (set_other A1_2 (by omega)) (cells_cons (set_same A2_2) cells_nil)))
      rw [HE.out] at hfin
      have hkp := ((HO_2.out.thenSet (o := off + k * 3 + 2) (v := .string (mtext (r + 1 + 1))) (by omega) (by omega))).to HBS.out.1 HBS.out.2
      go_roundw
      case rel => exact ⟨k + 1, r + 1 + 1 + 1, by omega, by go_num, by first | rfl | go_num, by omega, bd, by show _ = _; have h1 := HN.out; have h2 := HR.out; have h3 := HCX.out; omega, hnx.trans hkp, hfin⟩
      case measure => simp [intOf]; omega
    · go_wp2
      go_ret
      obtain rfl : k = n := by omega
      have h1 := HR.out
      have h2 := HM.out
      rw [HNL.out, List.take_length] at h1
      refine ⟨by rw [h1]; rfl, hnx, ?_⟩
      rw [← mkTil_all, ← HNL.out]
      exact h2

set_option maxRecDepth 100000 in
set_option maxHeartbeats 2000000 in
theorem heldCopyS_k (l : List DCopy) (a : Option Addr) (n c : Nat) (S : Nat → Prop) (k0 : Int) (w : World) (hk0 : 0 < k0) (hk1 : k0 + (sums kCopy.cnt l : Nat) ≤ 2 ^ 31) (h : (kRow kCopy).is false w S [.slice a n c] (mks kCopy l k0)) :
    Calls Try.prog 71 #[.slice a n c, .int .i64 k0] w fun e w' => e = .returned (.int .i64 (k0 + (sums kCopy.cnt l : Nat))) ∧ Below w.heap.size w w' := by
  have hnl := row_len h
  have hmx : n ≤ 9223372036854775807 := by obtain ⟨_, _, _, h, _⟩ := row_form h; rw [hnl]; exact h
  rw [mks_length] at hnl
  have HNL : Hid (n = l.length) := hnl
  have HCN : Hid (k0 + (sums kCopy.cnt l : Nat) ≤ 2 ^ 31) := hk1
  have H : Hid ((kRow kCopy).is false w S [.slice a n c] (mks kCopy l k0)) := h
  clear h hnl hk1
  go_enter Try.func71, Try.ntmps71
  go_wp2_with fail
  go_loopw [1, 5] (fun q i wr => ∃ (k : Nat) (r : Int), k ≤ n ∧ i = .int .i64 k ∧ q = .int .i64 r ∧ 0 < r ∧ r ≤ 2 ^ 31 ∧ Hid (r = k0 + (sums kCopy.cnt (l.take k) : Nat)) ∧ Below w.heap.size w wr) (fun _ i _ => n - (intOf i).toNat)
  case atStart => exact ⟨0, k0, Nat.zero_le _, rfl, rfl, hk0, by have := HCN.out; omega, by show _ = _; simp [sums], Below.refl _ _⟩
  case round =>
    obtain ⟨k, r, hk, rfl, rfl, hr0, hr1, HR, hnx⟩ := hrel
    by_cases hlt : k < n
    · obtain ⟨x, hx⟩ : ∃ x, l[k]? = some x := ⟨_, List.getElem?_eq_getElem (by rw [← HNL.out]; exact hlt)⟩
      have HN : Hid (sums kCopy.cnt (l.take (k + 1)) = sums kCopy.cnt (l.take k) + kCopy.cnt x) := sums_next _ l k x hx
      have HB : Hid (r + (kCopy.cnt x : Nat) ≤ 2 ^ 31) := by
        have h1 := sums_take_le kCopy.cnt l (k + 1)
        have h2 := HN.out
        have h3 := HCN.out
        have h4 := HR.out
        show _ ≤ _
        omega
      have hx' := mks_at kCopy l k0 k x hx
      rw [← HR.out] at hx'
      obtain ⟨b, off, B, C, rfl, hb, _, hi, _, hc⟩ := row_at (Kd.below H.out hnx) hx'
      obtain ⟨x0, x1, x2⟩ := x
      have hi2 : kCopy.is false wr B C (r, r + 1, mtext (r + 1 + 1)) := hi
      obtain ⟨rfl, g0, g1, g2⟩ := kCopy_open hi2
      have A0 : wr.cell? ⟨b, off + k * 3, none⟩ = some (.int .i64 (r)) := (hc 0 _ rfl).1
      have A1 : wr.cell? ⟨b, off + k * 3 + 1, none⟩ = some (.int .i64 (r + 1)) := (hc 1 _ rfl).1
      have A2 : wr.cell? ⟨b, off + k * 3 + 2, none⟩ = some (.string (mtext (r + 1 + 1))) := (hc 2 _ rfl).1
      have HCX : Hid (kCopy.cnt (x0, x1, x2) = 1 + (1 + (1))) := rfl
      have i0 : (0 : Int) ≤ (k : Int) := by omega
      have i1 : (k : Int) < (n : Int) := by omega
      have bd : r + 1 + 1 + 1 ≤ 2 ^ 31 := by have h1 := HB.out; have h2 := HCX.out; omega
      have hbr : Below wr.heap.size wr wr := Below.refl _ _
      clear hc hx hx' hi hi2 g0 g1 g2
      go_wp2_with fail
      have q2 : b < wr.heap.size := World.block_lt_of_cell? _ _ A2
      go_region_held3 (fun w' => w'.cell? ⟨b, off + k * 3 + 2, none⟩ = some (.string (mtext (r + 1 + 1)))) (first | exact A2 | exact (hc2 _ _ q2).trans A2)
        (first | (go_at_call 89; refine (markText_any _ _ (by omega) (by omega)).mono ?_; rintro e w3 ⟨rfl, hb3⟩; obtain ⟨hc2, hf2⟩ := bcell hb3))
      have Z2 : Below wr.heap.size wr w3 := (Below.refl _ _).drew.trans hb3
      have hbr_2 : Below wr.heap.size wr w3 := hbr.trans (Z2.mono hbr.size)
      clear Z2 hb3 hc2 hf2 q2 A0 A1 A2
      go_wp2_with fail
      go_roundw
      case rel => exact ⟨k + 1, r + 1 + 1 + 1, by omega, by go_num, by first | rfl | go_num, by omega, bd, by show _ = _; have h1 := HN.out; have h2 := HR.out; have h3 := HCX.out; omega, hnx.trans (hbr_2.mono hnx.size)⟩
      case measure => simp [intOf]; omega
    · go_wp2
      go_ret
      obtain rfl : k = n := by omega
      have h1 := HR.out
      rw [HNL.out, List.take_length] at h1
      exact ⟨by rw [h1]; rfl, hnx⟩

theorem cntle_Copy (x : DCopy) : kCopy.cnt x ≤ 10 * (1 + kCopy.sz x) := by
  obtain ⟨x0, x1, x2⟩ := x
  show 1 + (1 + (1)) ≤ 10 * (1 + (0 + (0 + (x2.size))))
  omega
theorem cnt_CopyS {l : List DCopy} (h : (kRow kCopy).sz l ≤ 2 ^ 20) : sums kCopy.cnt l ≤ 2 ^ 26 := by
  have h1 := sums_le_of kCopy.cnt kCopy.sz 10 cntle_Copy l
  have h2 : l.length + sums kCopy.sz l ≤ 2 ^ 20 := h
  omega

end Go.Proofs.Ytbkdkiodkcpbeaa
