/- Ranking: how it lies in memory, and what the laws' helpers do with it. No condition. -/
import Derived.Test.YtdaomklgcdfllaaKd
import Derived.Test.YtdaomklgcdfllaaKScored
namespace Go.Proofs.Ytdaomklgcdfllaa
open Go.RowKit
set_option linter.unusedVariables false

/-- Ranking, as data. -/
abbrev DRanking := List DScored
def kRanking : Kd DRanking := (kRow kScored)
theorem kRanking_open {o : Bool} {w : World} {S : Nat → Prop} {vs : List Value} {x0 : List DScored} (h : kRanking.is o w S vs x0) : ∃ (a0 : Option Addr) (c0 : Nat) (T0 : Nat → Prop), vs = [.slice a0 x0.length c0] ∧ x0.length ≤ maxLen ∧ (kRow kScored).is o w T0 [.slice a0 x0.length c0] x0 ∧ (∀ k, T0 k → S k) := by
  obtain ⟨a0, c0, rfl, hl0, _⟩ := row_form h
  exact ⟨a0, c0, S, rfl, hl0, h, fun k hk => hk⟩
theorem kRanking_shut {o : Bool} {w : World} {S : Nat → Prop} {x0 : List DScored} {a0 : Option Addr} {n0 c0 : Nat} {T0 : Nat → Prop} (r0 : (kRow kScored).is o w T0 [.slice a0 n0 c0] x0) (s0 : ∀ k, T0 k → S k) : kRanking.is o w S [.slice a0 n0 c0] x0 := Kd.mono r0 s0

set_option maxRecDepth 100000 in
set_option maxHeartbeats 1000000 in
theorem eqRanking_k (x : DRanking) (C1 C2 : List Value) (S1 S2 : Nat → Prop) (w : World) (h1 : kRanking.is false w S1 C1 x) (h2 : kRanking.is false w S2 C2 x) :
    Calls Try.prog 60 #[.agg C1.toArray, .agg C2.toArray] w fun e w' => e = .returned (.bool true) ∧ Below w.heap.size w w' := by
  obtain ⟨x0, hx0⟩ : ∃ y, y = x := ⟨_, rfl⟩
  subst hx0
  obtain ⟨a0, c0, T0, rfl, l0, r0, s0⟩ := kRanking_open (h1)
  obtain ⟨b0, d0, U0, rfl, m0, p0, q0⟩ := kRanking_open (h2)
  have R0 : Hid ((kRow kScored).is false w T0 [.slice a0 x0.length c0] x0) := r0
  have P0 : Hid ((kRow kScored).is false w U0 [.slice b0 x0.length d0] x0) := p0
  clear h1 h2 r0 p0
  show Calls Try.prog 60 #[.agg #[.slice a0 x0.length c0], .agg #[.slice b0 x0.length d0]] w _
  go_enter Try.func60, Try.ntmps60
  have hbl0 : ∀ o o', Below w.heap.size w ((w.alloc o).alloc o') := fun o o' => ((Below.refl _ _).alloc (Nat.le_refl _) o).alloc (by simp) o'
  go_wp2_with fail
  refine (eqScoredS_k x0 a0 b0 _ c0 d0 T0 U0 _ (Kd.below R0.out (hbl0 _ _)) (Kd.below P0.out (hbl0 _ _))).mono ?_
  rintro e w0 ⟨rfl, hb0⟩
  have HB0 : Hid (Below w.heap.size w w0) := (hbl0 _ _).trans (hb0.mono (by simp; try omega))
  have zz0 : w.heap.size + 1 < w0.heap.size := by have := hb0.size; simp at this; omega
  clear hb0 hbl0
  go_wp2
  go_ret
  exact ⟨rfl, HB0.out⟩

set_option maxRecDepth 100000 in
set_option maxHeartbeats 2000000 in
theorem eqRankingS_k (l : List DRanking) (a1 a2 : Option Addr) (n c1 c2 : Nat) (S1 S2 : Nat → Prop) (w : World) (h1 : (kRow kRanking).is false w S1 [.slice a1 n c1] l) (h2 : (kRow kRanking).is false w S2 [.slice a2 n c2] l) :
    Calls Try.prog 24 #[.slice a1 n c1, .slice a2 n c2] w fun e w' => e = .returned (.bool true) ∧ Below w.heap.size w w' := by
  have hnl := row_len h1
  have hmx : n ≤ 9223372036854775807 := by obtain ⟨_, _, _, h, _⟩ := row_form h1; rw [hnl]; exact h
  have HNL : Hid (n = l.length) := hnl
  clear hnl
  have H1 : Hid ((kRow kRanking).is false w S1 [.slice a1 n c1] l) := h1
  have H2 : Hid ((kRow kRanking).is false w S2 [.slice a2 n c2] l) := h2
  clear h1 h2
  go_enter Try.func24, Try.ntmps24
  go_wp2_with fail
  go_loopw [5] (fun i wr => ∃ k : Nat, k ≤ n ∧ i = .int .i64 k ∧ Below w.heap.size w wr) (fun i _ => n - (intOf i).toNat)
  case atStart => exact ⟨0, Nat.zero_le _, rfl, Below.refl _ _⟩
  case round =>
    obtain ⟨k, hk, rfl, hnx⟩ := hrel
    by_cases hlt : k < n
    · obtain ⟨x, hx⟩ : ∃ x, l[k]? = some x := ⟨_, List.getElem?_eq_getElem (by rw [← HNL.out]; exact hlt)⟩
      obtain ⟨b, off, B, C, rfl, hb, _, hi, _, hc⟩ := row_at (Kd.below H1.out hnx) hx
      obtain ⟨b', off', B', C', rfl, hb', _, hi', _, hc'⟩ := row_at (Kd.below H2.out hnx) hx
      obtain ⟨x0, hx0⟩ : ∃ y, y = x := ⟨_, rfl⟩
      subst hx0
      obtain ⟨a0, c0, T0, rfl, l0, r0, s0⟩ := kRanking_open hi
      obtain ⟨b0, d0, U0, rfl, m0, p0, q0⟩ := kRanking_open hi'
      have A0 : wr.cell? ⟨b, off + k, none⟩ = some (.slice a0 x0.length c0) := by have := (hc 0 _ rfl).1; simpa [kInt, kStr, kBool, show kRanking.wd = 1 from rfl] using this
      have D0 : wr.cell? ⟨b', off' + k, none⟩ = some (.slice b0 x0.length d0) := by have := (hc' 0 _ rfl).1; simpa [kInt, kStr, kBool, show kRanking.wd = 1 from rfl] using this
      have i0 : (0 : Int) ≤ (k : Int) := by omega
      have i1 : (k : Int) < (n : Int) := by omega
      have HI : Hid (kRanking.is false wr B [.slice a0 x0.length c0] x0 ∧ kRanking.is false wr B' [.slice b0 x0.length d0] x0) := ⟨hi, hi'⟩
      have HD : Hid (Below wr.heap.size wr wr.drew) := (Below.refl _ _).drew
      have HS1 : Hid (wr.cell? ⟨b, off + k, none⟩ = some (.slice a0 x0.length c0) ∧ wr.cell? ⟨b', off' + k, none⟩ = some (.slice b0 x0.length d0)) := ⟨A0, D0⟩
      have HSK : Hid (∀ w', Below wr.heap.size wr w' → w'.cell? ⟨b, off + k, none⟩ = some (.slice a0 x0.length c0) ∧ w'.cell? ⟨b', off' + k, none⟩ = some (.slice b0 x0.length d0)) := fun w' h => ⟨(h.cell hb).trans A0, (h.cell hb').trans D0⟩
      clear hi hi' hc hc' r0 p0
      go_wp2_with fail
      go_region_held3 (fun w' => w'.cell? ⟨b, off + k, none⟩ = some (.slice a0 x0.length c0) ∧ w'.cell? ⟨b', off' + k, none⟩ = some (.slice b0 x0.length d0)) (first | exact HS1.out | exact HSK.out _ HD.out | exact HSK.out _ hB1)
        (first | (go_at_call 60; go_fit (eqRanking_k x0 [.slice a0 x0.length c0] [.slice b0 x0.length d0] B B' wr.drew (Kd.below HI.out.1 HD.out) (Kd.below HI.out.2 HD.out)); rintro e w1 ⟨rfl, hb1⟩; have hB1 : Below wr.heap.size wr w1 := HD.out.trans hb1))
      go_wp2
      go_roundw
      case rel => exact ⟨k + 1, by omega, by go_num, hnx.trans (hB1.mono hnx.size)⟩
      case measure => simp [intOf]; omega
    · go_wp2
      go_ret
      exact ⟨rfl, hnx⟩

set_option maxRecDepth 100000 in
set_option maxHeartbeats 1000000 in
theorem szRanking_k (x : DRanking) (C : List Value) (S : Nat → Prop) (left : Int) (w : World) (hl0 : 0 ≤ left) (hl1 : left ≤ 2 ^ 20) (h : kRanking.is false w S C x) :
    Calls Try.prog 55 #[.agg C.toArray, .int .i64 left] w fun e w' => ∃ r : Int, e = .returned (.int .i64 r) ∧ (r = -1 ∨ (0 ≤ r ∧ r + (kRanking.sz x : Nat) = left)) ∧ Below w.heap.size w w' := by
  obtain ⟨x0, hx0⟩ : ∃ y, y = x := ⟨_, rfl⟩
  subst hx0
  obtain ⟨a0, c0, T0, rfl, l0, r0, s0⟩ := kRanking_open h
  have HSZ : Hid (kRanking.sz x0 = (kRow kScored).sz x0) := rfl
  have R0 : Hid ((kRow kScored).is false w T0 [.slice a0 x0.length c0] x0) := r0
  clear h r0
  show Calls Try.prog 55 #[.agg #[.slice a0 x0.length c0], .int .i64 left] w _
  go_enter Try.func55, Try.ntmps55
  have hbl0 : ∀ o, Below w.heap.size w (w.alloc o) := fun o => (Below.refl _ _).alloc (Nat.le_refl _) o
  go_wp2_with fail
  refine (szScoredS_k x0 a0 _ c0 T0 _ _ (by omega) (by omega) (Kd.below R0.out (hbl0 _))).mono ?_
  rintro e w0 ⟨q0, rfl, hq0, hb0⟩
  have HB0 : Hid (Below w.heap.size w w0) := (hbl0 _).trans (hb0.mono (by simp))
  have zz0 : w.heap.size < w0.heap.size := by have := hb0.size; simp at this; omega
  clear hb0 hbl0
  rcases hq0 with rfl | ⟨n0, hs0⟩
  · go_wp2
    go_ret
    exact ⟨-1, rfl, .inl rfl, HB0.out⟩
  · have HQ0 : Hid (q0 + ((kRow kScored).sz x0 : Nat) = left) := hs0
    have nl0 : q0 ≤ 2 ^ 20 := by omega
    have nn0 : ¬ q0 < 0 := by omega
    clear hs0
    go_wp2
    go_ret
    refine ⟨q0, rfl, .inr ⟨by omega, ?_⟩, HB0.out⟩
    rw [HSZ.out]
    have hh0 := HQ0.out
    omega

set_option maxRecDepth 100000 in
set_option maxHeartbeats 1000000 in
theorem szRankingS_k (l : List DRanking) (a : Option Addr) (n c : Nat) (S : Nat → Prop) (left : Int) (w : World) (hl0 : 0 ≤ left) (hl1 : left ≤ 2 ^ 20) (h : (kRow kRanking).is false w S [.slice a n c] l) :
    Calls Try.prog 20 #[.slice a n c, .int .i64 left] w fun e w' => ∃ r : Int, e = .returned (.int .i64 r) ∧ (r = -1 ∨ (0 ≤ r ∧ r + ((kRow kRanking).sz l : Nat) = left)) ∧ Below w.heap.size w w' := by
  have hnl := row_len h
  have hmx : n ≤ 9223372036854775807 := by obtain ⟨_, _, _, h, _⟩ := row_form h; rw [hnl]; exact h
  have HNL : Hid (n = l.length) := hnl
  have HSZ : Hid ((kRow kRanking).sz l = l.length + sums kRanking.sz l) := rfl
  have H : Hid ((kRow kRanking).is false w S [.slice a n c] l) := h
  clear h hnl
  by_cases c0 : left - (n : Int) < 0
  · go_enter Try.func20, Try.ntmps20
    go_wp2
    go_ret
    exact ⟨-1, rfl, .inl rfl, by go_grown⟩
  · go_enter Try.func20, Try.ntmps20
    go_wp2_with fail
    go_loopw [1, 5] (fun q i wr => ∃ (k : Nat) (r : Int), k ≤ n ∧ i = .int .i64 k ∧ q = .int .i64 r ∧ 0 ≤ r ∧ r ≤ 2 ^ 20 ∧ Hid (r + (sums kRanking.sz (l.take k) : Nat) = left - (n : Int)) ∧ Below w.heap.size w wr) (fun _ i _ => n - (intOf i).toNat)
    case atStart => exact ⟨0, _, Nat.zero_le _, rfl, rfl, by omega, by omega, by show _ = _; simp [sums], Below.refl _ _⟩
    case round =>
      obtain ⟨k, r, hk, rfl, rfl, hr0, hr1, HJ, hnx⟩ := hrel
      by_cases hlt : k < n
      · obtain ⟨x, hx⟩ : ∃ x, l[k]? = some x := ⟨_, List.getElem?_eq_getElem (by rw [← HNL.out]; exact hlt)⟩
        have HN : Hid (sums kRanking.sz (l.take (k + 1)) = sums kRanking.sz (l.take k) + kRanking.sz x) := sums_next _ l k x hx
        obtain ⟨b, off, B, C, rfl, hb, _, hi, _, hc⟩ := row_at (Kd.below H.out hnx) hx
        obtain ⟨x0, hx0⟩ : ∃ y, y = x := ⟨_, rfl⟩
        subst hx0
        obtain ⟨a0, c0, T0, rfl, l0, r0, s0⟩ := kRanking_open hi
        have A0 : wr.cell? ⟨b, off + k, none⟩ = some (.slice a0 x0.length c0) := by have := (hc 0 _ rfl).1; simpa [kInt, kStr, kBool, show kRanking.wd = 1 from rfl] using this
        have i0 : (0 : Int) ≤ (k : Int) := by omega
        have i1 : (k : Int) < (n : Int) := by omega
        have HI : Hid (kRanking.is false wr B [.slice a0 x0.length c0] x0) := hi
        clear hi hc hx r0
        go_wp2_with fail
        refine (szRanking_k x0 [.slice a0 x0.length c0] B _ _ hr0 hr1 HI.out).mono ?_
        rintro e w1 ⟨q, rfl, hq, hb1⟩
        have HB : Hid (Below w.heap.size w w1) := hnx.trans (hb1.mono hnx.size)
        clear hb1
        rcases hq with rfl | ⟨q0, q1⟩
        · go_wp2
          go_ret
          exact ⟨-1, rfl, .inl rfl, HB.out⟩
        · have HJ' : Hid (q + (sums kRanking.sz (l.take (k + 1)) : Nat) = left - (n : Int)) := by
            show _ = _
            have h1 := HJ.out
            have h2 := HN.out
            omega
          have q2 : q ≤ 2 ^ 20 := by omega
          have q3 : ¬ q < 0 := by omega
          clear q1
          go_wp2
          go_roundw
          case rel => exact ⟨k + 1, q, by omega, by go_num, rfl, q0, q2, HJ', HB.out⟩
          case measure => simp [intOf]; omega
      · go_wp2
        go_ret
        obtain rfl : k = n := by omega
        refine ⟨r, rfl, .inr ⟨hr0, ?_⟩, hnx⟩
        have h1 := HJ.out
        rw [HNL.out, List.take_length] at h1
        rw [HSZ.out]
        omega

set_option maxRecDepth 100000 in
set_option maxHeartbeats 2000000 in
theorem toRanking_k (x : DRanking) (C : List Value) (S : Nat → Prop) (w : World) (h : kRanking.is false w S C x) (hs : kRanking.sz x ≤ 2 ^ 20) :
    Calls Try.prog 58 #[.agg C.toArray] w fun e w' => ∃ C', e = .returned (.agg C'.toArray) ∧ kRanking.is true w' (fun k => w.heap.size ≤ k) C' x ∧ Below w.heap.size w w' := by
  obtain ⟨x0, hx0⟩ : ∃ y, y = x := ⟨_, rfl⟩
  subst hx0
  obtain ⟨a0, c0, T0, rfl, l0, r0, s0⟩ := kRanking_open h
  have HSZ : Hid ((kRow kScored).sz x0 ≤ 2 ^ 20) := hs
  have R0 : Hid ((kRow kScored).is false w T0 [.slice a0 x0.length c0] x0) := r0
  clear h hs r0
  show Calls Try.prog 58 #[.agg #[.slice a0 x0.length c0]] w _
  go_enter Try.func58, Try.ntmps58
  have hbl0 : ∀ o o' o'', Below w.heap.size w (((w.alloc o).alloc o').alloc o'') := fun o o' o'' => (((Below.refl _ _).alloc (Nat.le_refl _) o).alloc (by simp) o').alloc (by simp; omega) o''
  go_wp2_with fail
  refine (toScoredS_k x0 a0 _ c0 T0 _ (Kd.below R0.out (hbl0 _ _ _)) (by have := HSZ.out; omega)).mono ?_
  rintro e w0 ⟨b0, rfl, ho0, hl0, hb0⟩
  have o0_0 : w0.cell? ⟨w.heap.size + 1 + 1, 0, none⟩ = some (.slice none 0 0) := by rw [hb0.cell (by simp)]; simp [go_sem]
  have fo0_0 : w0.frozen? ⟨w.heap.size + 1 + 1, 0, none⟩ = false := by rw [hb0.frozen (by simp)]; simp [go_sem]
  have r0_0 : w0.cell? ⟨w.heap.size + 1, 0, none⟩ = some (.slice none 0 0) := by rw [hb0.cell (by simp)]; simp [go_sem]
  have fr0_0 : w0.frozen? ⟨w.heap.size + 1, 0, none⟩ = false := by rw [hb0.frozen (by simp)]; simp [go_sem]
  have zz0 : w.heap.size + 1 + 1 < w0.heap.size := by have := hb0.size; simp at this; omega
  have HB0 : Hid (Below w.heap.size w w0) := (hbl0 _ _ _).trans (hb0.mono (by simp; omega))
  simp only [World.size_alloc] at ho0 hl0
  obtain ⟨L0, hL0⟩ : ∃ L, L = w.heap.size + 1 + 1 + 1 := ⟨_, rfl⟩
  obtain ⟨M0, hM0⟩ : ∃ M, M = w0.heap.size := ⟨_, rfl⟩
  have LM0 : w.heap.size + 1 + 1 < L0 ∧ L0 < M0 ∧ M0 ≤ w0.heap.size := by omega
  have O0_0 : Hid ((kRow kScored).is true w0 (fun k => L0 ≤ k ∧ k < M0) [.slice b0 x0.length x0.length] x0) := Kd.tight _ ho0 (fun k hk hk' => by rw [hL0, hM0]; exact ⟨hk', hk⟩)
  clear hL0 hM0 ho0 hl0 hb0 hbl0
  go_wp2
  refine bodyPost_ret (v := .agg #[.slice b0 x0.length x0.length]) (by simp [results, Try.results58, go_sem, r0_0]) rfl ⟨[.slice b0 x0.length x0.length], rfl, ?_, ?_⟩
  · refine kRanking_shut  (T0 := fun k => L0 ≤ k ∧ k < M0) ?_ (fun k hk => by show w.heap.size ≤ k; omega) 
    · exact Kd.keep _ O0_0.out (by simp [World.setCell]) (fun k hk hk' => by simp only [heap_set_ne (show k ≠ w.heap.size + 1 + 1 by omega), heap_set_ne (show k ≠ w.heap.size + 1 by omega)])
  · exact ((HB0.out.setCell (by show _ ≤ w.heap.size + 1 + 1; omega) _).setCell (by show _ ≤ w.heap.size + 1; omega) _)

theorem infoRankingS : (Try.prog.info? 86).map (fun i => (i.zero, i.size, i.bytes)) = some (some (.agg #[.slice none 0 0]), 1, 24) := by kernel_rfl
theorem makeRankingS (n : Nat) (hn : n ≤ 2 ^ 30) (W : World) : (Instr.makeSlice 37 (.int .i64 (n : Int)) (.int .i64 (n : Int))).run Try.prog W = .ok (.slice (some ⟨W.heap.size, 0, none⟩) n n) (W.alloc (.cells (madeCells #[.slice none 0 0] (n)) 86)) := by
  obtain ⟨i0, hi, hz0, hz1, hz2⟩ := info_parts infoRankingS
  have h := run_make (P := Try.prog) W 37 86 i0 _ Try.underlying37 hi hz0 .i64 .i64 n n (by omega) (by omega) (by rw [hz2]; omega) (by omega)
  rw [hz1] at h
  simpa [Value.cells] using h
set_option maxRecDepth 100000 in
set_option maxHeartbeats 2000000 in
theorem toRankingS_k (l : List DRanking) (a : Option Addr) (n c : Nat) (S : Nat → Prop) (w : World) (h : (kRow kRanking).is false w S [.slice a n c] l) (hs : (kRow kRanking).sz l ≤ 2 ^ 20) :
    Calls Try.prog 22 #[.slice a n c] w fun e w' => ∃ a', e = .returned (.slice a' n n) ∧ (kRow kRanking).is true w' (fun k => w.heap.size ≤ k) [.slice a' n n] l ∧ w.heap.size < w'.heap.size ∧ Below w.heap.size w w' := by
  have hnl := row_len h
  have HSZ : Hid (l.length + sums kRanking.sz l ≤ 2 ^ 20) := hs
  have n20 : n ≤ 2 ^ 20 := by have := HSZ.out; omega
  have HNL : Hid (n = l.length) := hnl
  have H : Hid ((kRow kRanking).is false w S [.slice a n c] l) := h
  clear h hnl hs
  have hmk := makeRankingS n (by omega)
  obtain ⟨W, hW⟩ : ∃ W, W = w.alloc (.cells (madeCells #[.slice none 0 0] (n)) 86) := ⟨_, rfl⟩
  have HN : Hid (FillO kRanking W w.heap.size n []) := by
    refine FillO.start _ (by rw [hW]; simp) fun o ho => ?_
    have ho' : o < n := by simpa [show kRanking.wd = 1 from rfl] using ho
    rw [hW, World.cell?_alloc_new]
    exact ⟨by simp [madeCells, ho'], World.frozen?_alloc_new _ _ _ _⟩
  have hsz : w.heap.size < W.heap.size := by rw [hW]; simp
  have hbl : Below w.heap.size w W := by rw [hW]; go_grown
  have hmw := hmk w
  rw [← hW] at hmw
  clear hmk hW
  go_enter Try.func22, Try.ntmps22
  go_wp2_with fail
  go_loopw [4] (fun i wr => ∃ k : Nat, k ≤ n ∧ i = .int .i64 k ∧ w.heap.size < wr.heap.size ∧ Below w.heap.size w wr ∧ Hid (FillO kRanking wr w.heap.size n (l.take k))) (fun i _ => n - (intOf i).toNat)
  case atStart => exact ⟨0, Nat.zero_le _, rfl, hsz, hbl, by show FillO _ _ _ _ _; simpa using HN.out⟩
  case round =>
    obtain ⟨k, hk, rfl, hz, hnx, HF⟩ := hrel
    by_cases hlt : k < n
    · obtain ⟨x, hx⟩ : ∃ x, l[k]? = some x := ⟨_, List.getElem?_eq_getElem (by rw [← HNL.out]; exact hlt)⟩
      have HT : Hid (l.take (k + 1) = l.take k ++ [x]) := by show _ = _; rw [List.take_add_one, hx]; rfl
      have HKL : Hid ((l.take k).length = k) := by show _ = _; rw [List.length_take, ← HNL.out]; omega
      have HXS : Hid (kRanking.sz x ≤ 2 ^ 20) := by have := sums_ge kRanking.sz l k x hx; have := HSZ.out; show _ ≤ _; omega
      obtain ⟨b, off, B, C, rfl, hb, _, hi, _, hc⟩ := row_at (Kd.below H.out hnx) hx
      obtain ⟨x0, hx0⟩ : ∃ y, y = x := ⟨_, rfl⟩
      subst hx0
      obtain ⟨a0, c0, T0, rfl, l0, r0, s0⟩ := kRanking_open hi
      have A0 : wr.cell? ⟨b, off + k, none⟩ = some (.slice a0 x0.length c0) := by have := (hc 0 _ rfl).1; simpa [kInt, kStr, kBool, show kRanking.wd = 1 from rfl] using this
      have i0 : (0 : Int) ≤ (k : Int) := by omega
      have i1 : (k : Int) < (n : Int) := by omega
      have HI : Hid (kRanking.is false wr B [.slice a0 x0.length c0] x0) := hi
      clear hi hc hx r0
      go_wp2_with fail
      refine (toRanking_k x0 [.slice a0 x0.length c0] B _ HI.out HXS.out).mono ?_
      rintro e w1 ⟨C1, rfl, hi1, hb1⟩
      obtain ⟨b0, d0, U0, rfl, m0, p0, q0⟩ := kRanking_open hi1
      have HI1 : Hid (kRanking.is true w1 (fun k => wr.heap.size ≤ k) [.slice b0 x0.length d0] x0) := hi1
      have HF1 : Hid (FillO kRanking w1 w.heap.size n (l.take k)) := HF.out.below hb1
      obtain ⟨u0, hu0⟩ := Option.isSome_iff_exists.1 (HF1.out.room (k) (by show _ < n * 1; omega)).1
      have f0 := (HF1.out.room (k) (by show _ < n * 1; omega)).2
      have z1 := hb1.size
      have HB : Hid (Below wr.heap.size wr w1) := hb1
      clear hb1 hi1 A0 p0
      have zg : w.heap.size < w1.heap.size := by omega
      go_wp2_with fail
      obtain ⟨r1, r2⟩ := FillO.next HF.out (by rw [HKL.out]; exact hlt) HB.out HI1.out rfl
      rw [HKL.out, ← HT.out] at r1
      rw [HKL.out] at r2
      rw [show k * kRanking.wd = k from Nat.mul_one k] at r1 r2
      go_roundw
      case rel => exact ⟨k + 1, by omega, by go_num, by have := r2.size; exact Nat.lt_of_lt_of_le zg this, hnx.trans ((HB.out.mono hnx.size).trans (r2.below (by omega) (Nat.le_refl _))), r1⟩
      case measure => simp [intOf]; omega
    · go_wp2
      go_ret
      obtain rfl : k = n := by omega
      have hf := HF.out
      rw [HNL.out, List.take_length] at hf
      exact ⟨_, rfl, by rw [HNL.out]; exact hf.done rfl (by unfold maxLen; have := HNL.out; omega) (fun k hk _ => hk), hz, hnx⟩

set_option maxRecDepth 100000 in
set_option maxHeartbeats 2000000 in
theorem markRankingS_k (l : List DRanking) (a : Option Addr) (n c : Nat) (S : Nat → Prop) (k0 : Int) (w : World) (hk0 : 0 < k0) (hk1 : k0 + (sums kRanking.cnt l : Nat) ≤ 2 ^ 31) (h : (kRow kRanking).is true w S [.slice a n c] l) :
    Calls Try.prog 30 #[.slice a n c, .int .i64 k0] w fun e w' => e = .returned (.int .i64 (k0 + (sums kRanking.cnt l : Nat))) ∧ KeptO S w w' ∧ (kRow kRanking).is true w' S [.slice a n c] (mks kRanking l k0) := by
  have hnl := row_len h
  have hmx : n ≤ 9223372036854775807 := by obtain ⟨_, _, _, h, _⟩ := row_form h; rw [hnl]; exact h
  have HNL : Hid (n = l.length) := hnl
  have HCN : Hid (k0 + (sums kRanking.cnt l : Nat) ≤ 2 ^ 31) := hk1
  have H : Hid ((kRow kRanking).is true w S [.slice a n c] l) := h
  clear h hnl hk1
  go_enter Try.func30, Try.ntmps30
  go_wp2_with fail
  go_loopw [1, 5] (fun q i wr => ∃ (k : Nat) (r : Int), k ≤ n ∧ i = .int .i64 k ∧ q = .int .i64 r ∧ 0 < r ∧ r ≤ 2 ^ 31 ∧ Hid (r = k0 + (sums kRanking.cnt (l.take k) : Nat)) ∧ KeptO S w wr ∧ Hid ((kRow kRanking).is true wr S [.slice a n c] (mkTil kRanking l k0 k))) (fun _ i _ => n - (intOf i).toNat)
  case atStart => exact ⟨0, k0, Nat.zero_le _, rfl, rfl, hk0, by have := HCN.out; omega, by show _ = _; simp [sums], KeptO.refl _ _, by show Kd.is _ _ _ _ _ _; rw [mkTil_zero]; exact H.out⟩
  case round =>
    obtain ⟨k, r, hk, rfl, rfl, hr0, hr1, HR, hnx, HM⟩ := hrel
    by_cases hlt : k < n
    · obtain ⟨x, hx⟩ : ∃ x, l[k]? = some x := ⟨_, List.getElem?_eq_getElem (by rw [← HNL.out]; exact hlt)⟩
      have HN : Hid (sums kRanking.cnt (l.take (k + 1)) = sums kRanking.cnt (l.take k) + kRanking.cnt x) := sums_next _ l k x hx
      have HE : Hid ((mkTil kRanking l k0 k).set k (kRanking.mrk x r) = mkTil kRanking l k0 (k + 1)) := by show _ = _; rw [HR.out]; exact mkTil_next kRanking l k0 k x hx
      have HB : Hid (r + (kRanking.cnt x : Nat) ≤ 2 ^ 31) := by
        have h1 := sums_take_le kRanking.cnt l (k + 1)
        have h2 := HN.out
        have h3 := HCN.out
        have h4 := HR.out
        show _ ≤ _
        omega
      obtain ⟨b, off, B, C, rfl, hb, hSb, hnb, hi, hBS, hc, hput⟩ := row_put HM.out (by rw [mkTil_at _ _ _ _ (by rw [← HNL.out]; exact hlt)]; exact hx)
      obtain ⟨x0, hx0⟩ : ∃ y, y = x := ⟨_, rfl⟩
      subst hx0
      obtain ⟨a0, c0, T0, rfl, l0, r0, s0⟩ := kRanking_open hi
      have e1 : off + k * kRanking.wd = off + k := by show off + k * 1 = _; omega
      rw [e1] at hc hput
      have A0 : wr.cell? ⟨b, off + k, none⟩ = some (.slice a0 x0.length c0) := (hc 0 _ rfl).1
      have F0 : wr.frozen? ⟨b, off + k, none⟩ = false := (hc 0 _ rfl).2
      have HPUT : Hid (∀ w' x' C', OnlyO B b (off + k) (off + k + 1) wr w' → kRanking.is true w' B C' x' → (∀ j v, C'[j]? = some v → w'.cell? ⟨b, off + k + j, none⟩ = some v) → (kRow kRanking).is true w' S [.slice (some ⟨b, off, none⟩) n c] ((mkTil kRanking l k0 k).set k x')) := hput
      have HCX : Hid (kRanking.cnt x0 = sums kScored.cnt x0) := rfl
      have HO : Hid (OnlyO B b (off + k) (off + k + 1) wr wr) := OnlyO.refl _ _ _ _ _
      have R0 : Hid ((kRow kScored).is true wr T0 [.slice a0 x0.length c0] x0) := r0
      have hn0 : ∀ k, T0 k → k ≠ b := fun k hk e => hnb (e ▸ s0 k hk)
      have HBS : Hid (S b ∧ ∀ k, B k → S k) := ⟨hSb, hBS⟩
      have i0 : (0 : Int) ≤ (k : Int) := by omega
      have i1 : (k : Int) < (n : Int) := by omega
      have bd : r + (sums kScored.cnt x0 : Nat) ≤ 2 ^ 31 := by have h1 := HB.out; have h2 := HCX.out; omega
      have HN0 : Hid (∀ k, T0 k → k ≠ b) := hn0
      have HS0 : Hid (∀ k, T0 k → B k) := s0
      clear hc hput hx hi r0 s0 hn0 hBS
      go_wp2_with fail
      refine (markScoredS_k x0 a0 _ c0 T0 _ _ (by omega) (by omega) (OnlyO.keepK (OnlyO.refl (fun _ => False) b (off + k) (off + k + 1) wr) R0.out (fun k hk => ⟨HN0.out k hk, fun h => h.elim⟩))).mono ?_
      rintro e w1 ⟨rfl, hk1, hr1⟩
      have st0 : OnlyO T0 b (off + k) (off + k + 1) wr w1 := (((OnlyO.refl (fun _ => False) b (off + k) (off + k + 1) wr).mono (fun _ h => h.elim)).trans (OnlyO.kept hk1 (World.block_lt_of_cell? _ _ A0) (fun _ h => h) (fun h => HN0.out b h rfl)))
      have A0_0 : w1.cell? ⟨b, off + k, none⟩ = some (.slice a0 x0.length c0) := cell_keptO hk1 A0 (fun h => HN0.out b h rfl)
      have F0_0 : w1.frozen? ⟨b, off + k, none⟩ = false := frozen_keptO hk1 A0 F0 (fun h => HN0.out b h rfl)
      have HO_0 : Hid (OnlyO B b (off + k) (off + k + 1) wr w1) := HO.out.trans (st0.mono (HS0.out))
      have R0_0 : Hid ((kRow kScored).is true w1 T0 [.slice a0 x0.length c0] (mks kScored x0 (r))) := hr1
      clear hk1 hr1 st0 A0 F0
      go_wp2_with fail
      have hfin := HPUT.out _ (kRanking.mrk x0 r) [.slice a0 x0.length c0] HO_0.out (kRanking_shut (OnlyO.keepK (OnlyO.refl (fun _ => False) b (off + k) (off + k + 1) w1) R0_0.out (fun k hk => ⟨HN0.out k hk, fun h => h.elim⟩)) HS0.out) (cells_cons (P := fun j u => World.cell? _ ⟨b, off + k + j, none⟩ = some u) A0_0 cells_nil)
      rw [HE.out] at hfin
      have hkp := (HO_0.out).to HBS.out.1 HBS.out.2
      go_roundw
      case rel => exact ⟨k + 1, r + (sums kScored.cnt x0 : Nat), by omega, by go_num, by first | rfl | go_num, by omega, bd, by show _ = _; have h1 := HN.out; have h2 := HR.out; have h3 := HCX.out; omega, hnx.trans hkp, hfin⟩
      case measure => simp [intOf]; omega
    · go_wp2
      go_ret
      obtain rfl : k = n := by omega
      have h1 := HR.out
      have h2 := HM.out
      rw [HNL.out, List.take_length] at h1
      refine ⟨by rw [h1]; rfl, hnx, ?_⟩
      rw [← mkTil_all, ← HNL.out]
      exact h2

set_option maxRecDepth 100000 in
set_option maxHeartbeats 2000000 in
theorem heldRankingS_k (l : List DRanking) (a : Option Addr) (n c : Nat) (S : Nat → Prop) (k0 : Int) (w : World) (hk0 : 0 < k0) (hk1 : k0 + (sums kRanking.cnt l : Nat) ≤ 2 ^ 31) (h : (kRow kRanking).is false w S [.slice a n c] (mks kRanking l k0)) :
    Calls Try.prog 43 #[.slice a n c, .int .i64 k0] w fun e w' => e = .returned (.int .i64 (k0 + (sums kRanking.cnt l : Nat))) ∧ Below w.heap.size w w' := by
  have hnl := row_len h
  have hmx : n ≤ 9223372036854775807 := by obtain ⟨_, _, _, h, _⟩ := row_form h; rw [hnl]; exact h
  rw [mks_length] at hnl
  have HNL : Hid (n = l.length) := hnl
  have HCN : Hid (k0 + (sums kRanking.cnt l : Nat) ≤ 2 ^ 31) := hk1
  have H : Hid ((kRow kRanking).is false w S [.slice a n c] (mks kRanking l k0)) := h
  clear h hnl hk1
  go_enter Try.func43, Try.ntmps43
  go_wp2_with fail
  go_loopw [1, 5] (fun q i wr => ∃ (k : Nat) (r : Int), k ≤ n ∧ i = .int .i64 k ∧ q = .int .i64 r ∧ 0 < r ∧ r ≤ 2 ^ 31 ∧ Hid (r = k0 + (sums kRanking.cnt (l.take k) : Nat)) ∧ Below w.heap.size w wr) (fun _ i _ => n - (intOf i).toNat)
  case atStart => exact ⟨0, k0, Nat.zero_le _, rfl, rfl, hk0, by have := HCN.out; omega, by show _ = _; simp [sums], Below.refl _ _⟩
  case round =>
    obtain ⟨k, r, hk, rfl, rfl, hr0, hr1, HR, hnx⟩ := hrel
    by_cases hlt : k < n
    · obtain ⟨x, hx⟩ : ∃ x, l[k]? = some x := ⟨_, List.getElem?_eq_getElem (by rw [← HNL.out]; exact hlt)⟩
      have HN : Hid (sums kRanking.cnt (l.take (k + 1)) = sums kRanking.cnt (l.take k) + kRanking.cnt x) := sums_next _ l k x hx
      have HB : Hid (r + (kRanking.cnt x : Nat) ≤ 2 ^ 31) := by
        have h1 := sums_take_le kRanking.cnt l (k + 1)
        have h2 := HN.out
        have h3 := HCN.out
        have h4 := HR.out
        show _ ≤ _
        omega
      have hx' := mks_at kRanking l k0 k x hx
      rw [← HR.out] at hx'
      obtain ⟨b, off, B, C, rfl, hb, _, hi, _, hc⟩ := row_at (Kd.below H.out hnx) hx'
      obtain ⟨x0, hx0⟩ : ∃ y, y = x := ⟨_, rfl⟩
      subst hx0
      have hi2 : kRanking.is false wr B C (mks kScored x0 (r)) := hi
      obtain ⟨a0, c0, T0, rfl, l0, r0, s0⟩ := kRanking_open hi2
      have A0 : wr.cell? ⟨b, off + k, none⟩ = some (.slice a0 (mks kScored x0 (r)).length c0) := by have := (hc 0 _ rfl).1; simpa [kInt, kStr, kBool, show kRanking.wd = 1 from rfl] using this
      have HCX : Hid (kRanking.cnt x0 = sums kScored.cnt x0) := rfl
      have R0 : Hid ((kRow kScored).is false wr T0 [.slice a0 (mks kScored x0 (r)).length c0] (mks kScored x0 (r))) := r0
      have i0 : (0 : Int) ≤ (k : Int) := by omega
      have i1 : (k : Int) < (n : Int) := by omega
      have bd : r + (sums kScored.cnt x0 : Nat) ≤ 2 ^ 31 := by have h1 := HB.out; have h2 := HCX.out; omega
      have hbr : Below wr.heap.size wr wr := Below.refl _ _
      clear hc hx hx' hi hi2 r0 l0
      go_wp2_with fail
      refine (heldScoredS_k x0 a0 _ c0 T0 _ _ (by omega) (by omega) R0.out).mono ?_
      rintro e w1 ⟨rfl, hb1⟩
      have Z0 : Below wr.heap.size wr w1 := hb1
      have nz0 : ¬ (r + (sums kScored.cnt x0 : Nat) < 0) := by omega
      have hbr_0 : Below wr.heap.size wr w1 := hbr.trans (Z0.mono hbr.size)
      clear Z0 hb1 A0
      go_wp2_with fail
      go_roundw
      case rel => exact ⟨k + 1, r + (sums kScored.cnt x0 : Nat), by omega, by go_num, by first | rfl | go_num, by omega, bd, by show _ = _; have h1 := HN.out; have h2 := HR.out; have h3 := HCX.out; omega, hnx.trans (hbr_0.mono hnx.size)⟩
      case measure => simp [intOf]; omega
    · go_wp2
      go_ret
      obtain rfl : k = n := by omega
      have h1 := HR.out
      rw [HNL.out, List.take_length] at h1
      exact ⟨by rw [h1]; rfl, hnx⟩

/-- What is marked behind a Ranking by value: how many marks, and the marks. -/
def hRanking_cnt : DRanking → Nat := fun x0 => sums kScored.cnt x0
def hRanking_mrk : DRanking → Int → DRanking := fun x0 k0 => mks kScored x0 (k0)
theorem cntle_Ranking (x : DRanking) : kRanking.cnt x ≤ 10 * (1 + kRanking.sz x) := by
  obtain ⟨x0, hx0⟩ : ∃ y, y = x := ⟨_, rfl⟩
  subst hx0
  have h0 := sums_le_of kScored.cnt kScored.sz 10 cntle_Scored x0
  show sums kScored.cnt x0 ≤ 10 * (1 + ((x0.length + sums kScored.sz x0)))
  omega
theorem cnt_RankingS {l : List DRanking} (h : (kRow kRanking).sz l ≤ 2 ^ 20) : sums kRanking.cnt l ≤ 2 ^ 26 := by
  have h1 := sums_le_of kRanking.cnt kRanking.sz 10 cntle_Ranking l
  have h2 : l.length + sums kRanking.sz l ≤ 2 ^ 20 := h
  omega
theorem cnt_Ranking {x : DRanking} (h : kRanking.sz x ≤ 2 ^ 20) : hRanking_cnt x ≤ 2 ^ 26 := by
  obtain ⟨x0, hx0⟩ : ∃ y, y = x := ⟨_, rfl⟩
  subst hx0
  have h0 := sums_le_of kScored.cnt kScored.sz 10 cntle_Scored x0
  have h' : (x0.length + sums kScored.sz x0) ≤ 2 ^ 20 := h
  show sums kScored.cnt x0 ≤ 2 ^ 26
  omega

end Go.Proofs.Ytdaomklgcdfllaa
