/- Voting: how it lies in memory, and what the laws' helpers do with it. No condition. -/
import Derived.Test.YtbkdkiodkcpbeaaKd
import Derived.Test.YtbkdkiodkcpbeaaKCopy
namespace Go.Proofs.Ytbkdkiodkcpbeaa
open Go.RowKit
set_option linter.unusedVariables false

/-- Voting, as data. -/
abbrev DVoting := List DCopy × Int × Int
def kVoting : Kd DVoting := kPair (kRow kCopy) (kPair kInt kInt)
theorem kVoting_open {o : Bool} {w : World} {S : Nat → Prop} {vs : List Value} {x0 : List DCopy} {x1 : Int} {x2 : Int} (h : kVoting.is o w S vs (x0, x1, x2)) : ∃ (a0 : Option Addr) (c0 : Nat) (T0 : Nat → Prop), vs = [.slice a0 x0.length c0, .int .i64 x1, .int .i64 x2] ∧ IntOk x1 ∧ IntOk x2 ∧ x0.length ≤ maxLen ∧ (kRow kCopy).is o w T0 [.slice a0 x0.length c0] x0 ∧ (∀ k, T0 k → S k) := by
  obtain ⟨P0, Q0, v0, u0, rfl, g0, r0, s0, q0, d0⟩ := h
  obtain ⟨P1, Q1, v1, u1, rfl, ⟨rfl, g1⟩, ⟨rfl, g2⟩, s1, q1, d1⟩ := r0
  obtain ⟨a0, c0, rfl, l0, _⟩ := row_form g0
  exact ⟨a0, c0, P0, rfl, g1, g2, l0, g0, fun k hk => s0 k hk⟩
theorem kVoting_shut {o : Bool} {w : World} {S : Nat → Prop} {x0 : List DCopy} {x1 : Int} {x2 : Int} {a0 : Option Addr} {n0 c0 : Nat} {T0 : Nat → Prop} (g1 : IntOk x1) (g2 : IntOk x2) (r0 : (kRow kCopy).is o w T0 [.slice a0 n0 c0] x0) (s0 : ∀ k, T0 k → S k) : kVoting.is o w S [.slice a0 n0 c0, .int .i64 x1, .int .i64 x2] (x0, x1, x2) := 
  ⟨T0, fun k => False, _, _, rfl, r0, ⟨fun _ => False, fun _ => False, _, _, rfl, ⟨rfl, g1⟩, ⟨rfl, g2⟩, fun k hk => hk.elim, (fun k hk => hk.elim), (fun e k hk hk' => hk.elim)⟩, fun k hk => s0 k hk, (fun k hk => hk.elim), (fun e k hk hk' => hk'.elim)⟩

set_option maxRecDepth 100000 in
set_option maxHeartbeats 1000000 in
theorem eqVoting_k (x : DVoting) (C1 C2 : List Value) (S1 S2 : Nat → Prop) (w : World) (h1 : kVoting.is false w S1 C1 x) (h2 : kVoting.is false w S2 C2 x) :
    Calls Try.prog 32 #[.agg C1.toArray, .agg C2.toArray] w fun e w' => e = .returned (.bool true) ∧ Below w.heap.size w w' := by
  obtain ⟨x0, x1, x2⟩ := x
  obtain ⟨a0, c0, T0, rfl, g1, g2, l0, r0, s0⟩ := kVoting_open (h1)
  obtain ⟨b0, d0, U0, rfl, j1, j2, m0, p0, q0⟩ := kVoting_open (h2)
  have R0 : Hid ((kRow kCopy).is false w T0 [.slice a0 x0.length c0] x0) := r0
  have P0 : Hid ((kRow kCopy).is false w U0 [.slice b0 x0.length d0] x0) := p0
  clear h1 h2 r0 p0
  show Calls Try.prog 32 #[.agg #[.slice a0 x0.length c0, .int .i64 x1, .int .i64 x2], .agg #[.slice b0 x0.length d0, .int .i64 x1, .int .i64 x2]] w _
  go_enter Try.func32, Try.ntmps32
  have hbl0 : ∀ o o', Below w.heap.size w ((w.alloc o).alloc o') := fun o o' => ((Below.refl _ _).alloc (Nat.le_refl _) o).alloc (by simp) o'
  go_wp2_with fail
  refine (eqCopyS_k x0 a0 b0 _ c0 d0 T0 U0 _ (Kd.below R0.out (hbl0 _ _)) (Kd.below P0.out (hbl0 _ _))).mono ?_
  rintro e w0 ⟨rfl, hb0⟩
  have y0_1 : w0.cell? ⟨w.heap.size, 1, none⟩ = some (.int .i64 x1) := by rw [hb0.cell (by simp; try omega)]; simp [go_sem]
  have z0_1 : w0.cell? ⟨w.heap.size + 1, 1, none⟩ = some (.int .i64 x1) := by rw [hb0.cell (by simp; try omega)]; simp [go_sem]
  have y0_2 : w0.cell? ⟨w.heap.size, 2, none⟩ = some (.int .i64 x2) := by rw [hb0.cell (by simp; try omega)]; simp [go_sem]
  have z0_2 : w0.cell? ⟨w.heap.size + 1, 2, none⟩ = some (.int .i64 x2) := by rw [hb0.cell (by simp; try omega)]; simp [go_sem]
  have HB0 : Hid (Below w.heap.size w w0) := (hbl0 _ _).trans (hb0.mono (by simp; try omega))
  have zz0 : w.heap.size + 1 < w0.heap.size := by have := hb0.size; simp at this; omega
  clear hb0 hbl0
  go_wp2
  go_ret
  exact ⟨rfl, HB0.out⟩

set_option maxRecDepth 100000 in
set_option maxHeartbeats 1000000 in
theorem szVoting_k (x : DVoting) (C : List Value) (S : Nat → Prop) (left : Int) (w : World) (hl0 : 0 ≤ left) (hl1 : left ≤ 2 ^ 20) (h : kVoting.is false w S C x) :
    Calls Try.prog 37 #[.agg C.toArray, .int .i64 left] w fun e w' => ∃ r : Int, e = .returned (.int .i64 r) ∧ (r = -1 ∨ (0 ≤ r ∧ r + (kVoting.sz x : Nat) = left)) ∧ Below w.heap.size w w' := by
  obtain ⟨x0, x1, x2⟩ := x
  obtain ⟨a0, c0, T0, rfl, g1, g2, l0, r0, s0⟩ := kVoting_open h
  have HSZ : Hid (kVoting.sz (x0, x1, x2) = (kRow kCopy).sz x0 + (0 + (0))) := rfl
  have R0 : Hid ((kRow kCopy).is false w T0 [.slice a0 x0.length c0] x0) := r0
  clear h r0
  show Calls Try.prog 37 #[.agg #[.slice a0 x0.length c0, .int .i64 x1, .int .i64 x2], .int .i64 left] w _
  go_enter Try.func37, Try.ntmps37
  have hbl0 : ∀ o, Below w.heap.size w (w.alloc o) := fun o => (Below.refl _ _).alloc (Nat.le_refl _) o
  go_wp2_with fail
  refine (szCopyS_k x0 a0 _ c0 T0 _ _ (by omega) (by omega) (Kd.below R0.out (hbl0 _))).mono ?_
  rintro e w0 ⟨q0, rfl, hq0, hb0⟩
  have HB0 : Hid (Below w.heap.size w w0) := (hbl0 _).trans (hb0.mono (by simp))
  have zz0 : w.heap.size < w0.heap.size := by have := hb0.size; simp at this; omega
  clear hb0 hbl0
  rcases hq0 with rfl | ⟨n0, hs0⟩
  · go_wp2
    go_ret
    exact ⟨-1, rfl, .inl rfl, HB0.out⟩
  · have HQ0 : Hid (q0 + ((kRow kCopy).sz x0 : Nat) = left) := hs0
    have nl0 : q0 ≤ 2 ^ 20 := by omega
    have nn0 : ¬ q0 < 0 := by omega
    clear hs0
    go_wp2
    go_ret
    refine ⟨q0, rfl, .inr ⟨by omega, ?_⟩, HB0.out⟩
    rw [HSZ.out]
    have hh0 := HQ0.out
    omega

set_option maxRecDepth 100000 in
set_option maxHeartbeats 2000000 in
theorem toVoting_k (x : DVoting) (C : List Value) (S : Nat → Prop) (w : World) (h : kVoting.is false w S C x) (hs : kVoting.sz x ≤ 2 ^ 20) :
    Calls Try.prog 38 #[.agg C.toArray] w fun e w' => ∃ C', e = .returned (.agg C'.toArray) ∧ kVoting.is true w' (fun k => w.heap.size ≤ k) C' x ∧ Below w.heap.size w w' := by
  obtain ⟨x0, x1, x2⟩ := x
  obtain ⟨a0, c0, T0, rfl, g1, g2, l0, r0, s0⟩ := kVoting_open h
  have HSZ : Hid ((kRow kCopy).sz x0 + (0 + (0)) ≤ 2 ^ 20) := hs
  have G1 : Hid (IntOk x1) := g1
  have G2 : Hid (IntOk x2) := g2
  have R0 : Hid ((kRow kCopy).is false w T0 [.slice a0 x0.length c0] x0) := r0
  clear h hs r0 g1 g2
  show Calls Try.prog 38 #[.agg #[.slice a0 x0.length c0, .int .i64 x1, .int .i64 x2]] w _
  go_enter Try.func38, Try.ntmps38
  have hbl0 : ∀ o o' o'', Below w.heap.size w (((w.alloc o).alloc o').alloc o'') := fun o o' o'' => (((Below.refl _ _).alloc (Nat.le_refl _) o).alloc (by simp) o').alloc (by simp; omega) o''
  go_wp2_with fail
  refine (toCopyS_k x0 a0 _ c0 T0 _ (Kd.below R0.out (hbl0 _ _ _)) (by have := HSZ.out; omega)).mono ?_
  rintro e w0 ⟨b0, rfl, ho0, hl0, hb0⟩
  have o0_0 : w0.cell? ⟨w.heap.size + 1 + 1, 0, none⟩ = some (.slice none 0 0) := by rw [hb0.cell (by simp)]; simp [go_sem]
  have fo0_0 : w0.frozen? ⟨w.heap.size + 1 + 1, 0, none⟩ = false := by rw [hb0.frozen (by simp)]; simp [go_sem]
  have r0_0 : w0.cell? ⟨w.heap.size + 1, 0, none⟩ = some (.slice none 0 0) := by rw [hb0.cell (by simp)]; simp [go_sem]
  have fr0_0 : w0.frozen? ⟨w.heap.size + 1, 0, none⟩ = false := by rw [hb0.frozen (by simp)]; simp [go_sem]
  have o0_1 : w0.cell? ⟨w.heap.size + 1 + 1, 1, none⟩ = some (.int .i64 0) := by rw [hb0.cell (by simp)]; simp [go_sem]
  have fo0_1 : w0.frozen? ⟨w.heap.size + 1 + 1, 1, none⟩ = false := by rw [hb0.frozen (by simp)]; simp [go_sem]
  have r0_1 : w0.cell? ⟨w.heap.size + 1, 1, none⟩ = some (.int .i64 0) := by rw [hb0.cell (by simp)]; simp [go_sem]
  have fr0_1 : w0.frozen? ⟨w.heap.size + 1, 1, none⟩ = false := by rw [hb0.frozen (by simp)]; simp [go_sem]
  have o0_2 : w0.cell? ⟨w.heap.size + 1 + 1, 2, none⟩ = some (.int .i64 0) := by rw [hb0.cell (by simp)]; simp [go_sem]
  have fo0_2 : w0.frozen? ⟨w.heap.size + 1 + 1, 2, none⟩ = false := by rw [hb0.frozen (by simp)]; simp [go_sem]
  have r0_2 : w0.cell? ⟨w.heap.size + 1, 2, none⟩ = some (.int .i64 0) := by rw [hb0.cell (by simp)]; simp [go_sem]
  have fr0_2 : w0.frozen? ⟨w.heap.size + 1, 2, none⟩ = false := by rw [hb0.frozen (by simp)]; simp [go_sem]
  have p0_1 : w0.cell? ⟨w.heap.size, 1, none⟩ = some (.int .i64 x1) := by rw [hb0.cell (by simp; omega)]; simp [go_sem]
  have p0_2 : w0.cell? ⟨w.heap.size, 2, none⟩ = some (.int .i64 x2) := by rw [hb0.cell (by simp; omega)]; simp [go_sem]
  have zz0 : w.heap.size + 1 + 1 < w0.heap.size := by have := hb0.size; simp at this; omega
  have HB0 : Hid (Below w.heap.size w w0) := (hbl0 _ _ _).trans (hb0.mono (by simp; omega))
  simp only [World.size_alloc] at ho0 hl0
  obtain ⟨L0, hL0⟩ : ∃ L, L = w.heap.size + 1 + 1 + 1 := ⟨_, rfl⟩
  obtain ⟨M0, hM0⟩ : ∃ M, M = w0.heap.size := ⟨_, rfl⟩
  have LM0 : w.heap.size + 1 + 1 < L0 ∧ L0 < M0 ∧ M0 ≤ w0.heap.size := by omega
  have O0_0 : Hid ((kRow kCopy).is true w0 (fun k => L0 ≤ k ∧ k < M0) [.slice b0 x0.length x0.length] x0) := Kd.tight _ ho0 (fun k hk hk' => by rw [hL0, hM0]; exact ⟨hk', hk⟩)
  clear hL0 hM0 ho0 hl0 hb0 hbl0
  go_wp2
  refine bodyPost_ret (v := .agg #[.slice b0 x0.length x0.length, .int .i64 x1, .int .i64 x2]) (by simp [results, Try.results38, go_sem, r0_0, r0_1, r0_2]) rfl ⟨[.slice b0 x0.length x0.length, .int .i64 x1, .int .i64 x2], rfl, ?_, ?_⟩
  · refine kVoting_shut G1.out G2.out (T0 := fun k => L0 ≤ k ∧ k < M0) ?_ (fun k hk => by show w.heap.size ≤ k; omega) 
    · exact Kd.keep _ O0_0.out (by simp [World.setCell]) (fun k hk hk' => by simp only [heap_set_ne (show k ≠ w.heap.size + 1 + 1 by omega), heap_set_ne (show k ≠ w.heap.size + 1 by omega)])
  · exact ((((((HB0.out.setCell (by show _ ≤ w.heap.size + 1 + 1; omega) _).setCell (by show _ ≤ w.heap.size + 1 + 1; omega) _).setCell (by show _ ≤ w.heap.size + 1 + 1; omega) _).setCell (by show _ ≤ w.heap.size + 1; omega) _).setCell (by show _ ≤ w.heap.size + 1; omega) _).setCell (by show _ ≤ w.heap.size + 1; omega) _)

theorem infoVotingS : (Try.prog.info? 25).map (fun i => (i.zero, i.size, i.bytes)) = some (some (.agg #[.slice none 0 0, .int .i64 0, .int .i64 0]), 3, 40) := by kernel_rfl
/-- What is marked behind a Voting by value: how many marks, and the marks. -/
def hVoting_cnt : DVoting → Nat := fun ⟨x0, x1, x2⟩ => sums kCopy.cnt x0 + (0 + (0))
def hVoting_mrk : DVoting → Int → DVoting := fun ⟨x0, x1, x2⟩ k0 => (mks kCopy x0 (k0), x1, x2)
set_option maxRecDepth 100000 in
set_option maxHeartbeats 1000000 in
theorem markVoting_k (x : DVoting) (C : List Value) (S : Nat → Prop) (k0 : Int) (w : World) (hk0 : 0 < k0) (hk1 : k0 + (hVoting_cnt x : Nat) ≤ 2 ^ 31) (h : kVoting.is true w S C x) :
    Calls Try.prog 35 #[.agg C.toArray, .int .i64 k0] w fun e w' => e = .returned (.int .i64 (k0 + (hVoting_cnt x : Nat))) ∧ KeptO S w w' ∧ kVoting.is true w' S C (hVoting_mrk x k0) := by
  obtain ⟨x0, x1, x2⟩ := x
  have h' := Kd.tight (S' := fun k => S k ∧ k < w.heap.size) _ h (fun k hk hS => ⟨hS, hk⟩)
  obtain ⟨a0, c0, T0, rfl, g1, g2, l0, r0, s0⟩ := kVoting_open h'
  have HCX : Hid (hVoting_cnt (x0, x1, x2) = sums kCopy.cnt x0 + (0 + (0))) := rfl
  have HMX : Hid (hVoting_mrk (x0, x1, x2) k0 = (mks kCopy x0 (k0), x1, x2)) := rfl
  have bd : k0 + (sums kCopy.cnt x0 : Nat) ≤ 2 ^ 31 := by have h1 := HCX.out; omega
  have HK1 : Hid (k0 + (sums kCopy.cnt x0 : Nat) = k0 + (hVoting_cnt (x0, x1, x2) : Nat)) := by show _ = _; have h1 := HCX.out; omega
  have G1 : Hid (IntOk x1) := g1
  have G2 : Hid (IntOk x2) := g2
  have R0 : Hid ((kRow kCopy).is true w T0 [.slice a0 x0.length c0] x0) := r0
  have HS0 : Hid (∀ k, T0 k → S k ∧ k < w.heap.size) := s0
  clear h h' hk1 r0 s0 g1 g2
  show Calls Try.prog 35 #[.agg #[.slice a0 x0.length c0, .int .i64 x1, .int .i64 x2], .int .i64 k0] w _
  go_enter Try.func35, Try.ntmps35
  have hbl0 : ∀ o, Below w.heap.size w (w.alloc o) := fun o => (Below.refl _ _).alloc (Nat.le_refl _) o
  go_wp2_with fail
  refine (markCopyS_k x0 a0 _ c0 T0 _ _ (by omega) (by omega) (Kd.below R0.out (hbl0 _))).mono ?_
  rintro e w1 ⟨rfl, hk1, hr1⟩
  have R0_0 : Hid ((kRow kCopy).is true w1 T0 [.slice a0 x0.length c0] (mks kCopy x0 (k0))) := hr1
  have KP0 : Hid (KeptO S w w1) := (KeptO.of (hbl0 _)).trans (hk1.mono (fun k h => (HS0.out k h).1))
  clear hk1 hr1 hbl0
  go_wp2
  go_ret
  refine ⟨by rw [← HK1.out]; rfl, KP0.out, ?_⟩
  rw [HMX.out]
  exact kVoting_shut G1.out G2.out R0_0.out (fun k h => (HS0.out k h).1)

set_option maxRecDepth 100000 in
set_option maxHeartbeats 1000000 in
theorem heldVoting_k (x : DVoting) (C : List Value) (S : Nat → Prop) (k0 : Int) (w : World) (hk0 : 0 < k0) (hk1 : k0 + (hVoting_cnt x : Nat) ≤ 2 ^ 31) (h : kVoting.is false w S C (hVoting_mrk x k0)) :
    Calls Try.prog 36 #[.agg C.toArray, .int .i64 k0] w fun e w' => e = .returned (.int .i64 (k0 + (hVoting_cnt x : Nat))) ∧ Below w.heap.size w w' := by
  obtain ⟨x0, x1, x2⟩ := x
  have h' : kVoting.is false w S C (mks kCopy x0 (k0), x1, x2) := h
  obtain ⟨a0, c0, T0, rfl, g1, g2, l0, r0, s0⟩ := kVoting_open h'
  have HCX : Hid (hVoting_cnt (x0, x1, x2) = sums kCopy.cnt x0 + (0 + (0))) := rfl
  have bd : k0 + (sums kCopy.cnt x0 : Nat) ≤ 2 ^ 31 := by have h1 := HCX.out; omega
  have HK1 : Hid (k0 + (sums kCopy.cnt x0 : Nat) = k0 + (hVoting_cnt (x0, x1, x2) : Nat)) := by show _ = _; have h1 := HCX.out; omega
  have R0 : Hid ((kRow kCopy).is false w T0 [.slice a0 (mks kCopy x0 (k0)).length c0] (mks kCopy x0 (k0))) := r0
  clear h h' hk1 r0
  show Calls Try.prog 36 #[.agg #[.slice a0 (mks kCopy x0 (k0)).length c0, .int .i64 x1, .int .i64 x2], .int .i64 k0] w _
  go_enter Try.func36, Try.ntmps36
  have hbl0 : ∀ o, Below w.heap.size w (w.alloc o) := fun o => (Below.refl _ _).alloc (Nat.le_refl _) o
  go_wp2_with fail
  refine (heldCopyS_k x0 a0 _ c0 T0 _ _ (by omega) (by omega) (Kd.below R0.out (hbl0 _))).mono ?_
  rintro e w1 ⟨rfl, hb1⟩
  have HB0 : Hid (Below w.heap.size w w1) := (hbl0 _).trans (hb1.mono (by simp))
  have nz0 : ¬ (k0 + (sums kCopy.cnt x0 : Nat) < 0) := by omega
  clear hb1 hbl0
  go_wp2
  go_ret
  exact ⟨by rw [← HK1.out]; rfl, HB0.out⟩

theorem cntle_Voting (x : DVoting) : kVoting.cnt x ≤ 10 * (1 + kVoting.sz x) := by
  obtain ⟨x0, x1, x2⟩ := x
  have h0 := sums_le_of kCopy.cnt kCopy.sz 10 cntle_Copy x0
  show sums kCopy.cnt x0 + (1 + (1)) ≤ 10 * (1 + ((x0.length + sums kCopy.sz x0) + (0 + (0))))
  omega
theorem cnt_VotingS {l : List DVoting} (h : (kRow kVoting).sz l ≤ 2 ^ 20) : sums kVoting.cnt l ≤ 2 ^ 26 := by
  have h1 := sums_le_of kVoting.cnt kVoting.sz 10 cntle_Voting l
  have h2 : l.length + sums kVoting.sz l ≤ 2 ^ 20 := h
  omega
theorem cnt_Voting {x : DVoting} (h : kVoting.sz x ≤ 2 ^ 20) : hVoting_cnt x ≤ 2 ^ 26 := by
  obtain ⟨x0, x1, x2⟩ := x
  have h0 := sums_le_of kCopy.cnt kCopy.sz 10 cntle_Copy x0
  have h' : (x0.length + sums kCopy.sz x0) + (0 + (0)) ≤ 2 ^ 20 := h
  show sums kCopy.cnt x0 + (0 + (0)) ≤ 2 ^ 26
  omega

end Go.Proofs.Ytbkdkiodkcpbeaa
