/- Words: how it lies in memory, and what the laws' helpers do with it. No condition. -/
import Derived.Test.YtdaomklgcdfllaaKd
import Derived.Test.YtdaomklgcdfllaaKEntry
namespace Go.Proofs.Ytdaomklgcdfllaa
open Go.RowKit
set_option linter.unusedVariables false

/-- Words, as data. -/
abbrev DWords := Int × List DEntry
def kWords : Kd DWords := kPair kInt (kRow kEntry)
theorem kWords_open {o : Bool} {w : World} {S : Nat → Prop} {vs : List Value} {x0 : Int} {x1 : List DEntry} (h : kWords.is o w S vs (x0, x1)) : ∃ (a1 : Option Addr) (c1 : Nat) (T1 : Nat → Prop), vs = [.int .i64 x0, .slice a1 x1.length c1] ∧ IntOk x0 ∧ x1.length ≤ maxLen ∧ (kRow kEntry).is o w T1 [.slice a1 x1.length c1] x1 ∧ (∀ k, T1 k → S k) := by
  obtain ⟨P0, Q0, v0, u0, rfl, ⟨rfl, g0⟩, g1, s0, q0, d0⟩ := h
  obtain ⟨a1, c1, rfl, l1, _⟩ := row_form g1
  exact ⟨a1, c1, Q0, rfl, g0, l1, g1, fun k hk => q0 k hk⟩
theorem kWords_shut {o : Bool} {w : World} {S : Nat → Prop} {x0 : Int} {x1 : List DEntry} {a1 : Option Addr} {n1 c1 : Nat} {T1 : Nat → Prop} (g0 : IntOk x0) (r1 : (kRow kEntry).is o w T1 [.slice a1 n1 c1] x1) (s1 : ∀ k, T1 k → S k) : kWords.is o w S [.int .i64 x0, .slice a1 n1 c1] (x0, x1) := 
  ⟨fun _ => False, T1, _, _, rfl, ⟨rfl, g0⟩, r1, fun k hk => hk.elim, (fun k hk => s1 k hk), (fun e k hk hk' => hk.elim)⟩

set_option maxRecDepth 100000 in
set_option maxHeartbeats 1000000 in
theorem eqWords_k (x : DWords) (C1 C2 : List Value) (S1 S2 : Nat → Prop) (w : World) (h1 : kWords.is false w S1 C1 x) (h2 : kWords.is false w S2 C2 x) :
    Calls Try.prog 15 #[.agg C1.toArray, .agg C2.toArray] w fun e w' => e = .returned (.bool true) ∧ Below w.heap.size w w' := by
  obtain ⟨x0, x1⟩ := x
  obtain ⟨a1, c1, T1, rfl, g0, l1, r1, s1⟩ := kWords_open (h1)
  obtain ⟨b1, d1, U1, rfl, j0, m1, p1, q1⟩ := kWords_open (h2)
  have R1 : Hid ((kRow kEntry).is false w T1 [.slice a1 x1.length c1] x1) := r1
  have P1 : Hid ((kRow kEntry).is false w U1 [.slice b1 x1.length d1] x1) := p1
  clear h1 h2 r1 p1
  show Calls Try.prog 15 #[.agg #[.int .i64 x0, .slice a1 x1.length c1], .agg #[.int .i64 x0, .slice b1 x1.length d1]] w _
  go_enter Try.func15, Try.ntmps15
  have hbl0 : ∀ o o', Below w.heap.size w ((w.alloc o).alloc o') := fun o o' => ((Below.refl _ _).alloc (Nat.le_refl _) o).alloc (by simp) o'
  go_wp2_with fail
  refine (eqEntryS_k x1 a1 b1 _ c1 d1 T1 U1 _ (Kd.below R1.out (hbl0 _ _)) (Kd.below P1.out (hbl0 _ _))).mono ?_
  rintro e w1 ⟨rfl, hb1⟩
  have HB1 : Hid (Below w.heap.size w w1) := (hbl0 _ _).trans (hb1.mono (by simp; try omega))
  have zz1 : w.heap.size + 1 < w1.heap.size := by have := hb1.size; simp at this; omega
  clear hb1 hbl0
  go_wp2
  go_ret
  exact ⟨rfl, HB1.out⟩

set_option maxRecDepth 100000 in
set_option maxHeartbeats 1000000 in
theorem szWords_k (x : DWords) (C : List Value) (S : Nat → Prop) (left : Int) (w : World) (hl0 : 0 ≤ left) (hl1 : left ≤ 2 ^ 20) (h : kWords.is false w S C x) :
    Calls Try.prog 35 #[.agg C.toArray, .int .i64 left] w fun e w' => ∃ r : Int, e = .returned (.int .i64 r) ∧ (r = -1 ∨ (0 ≤ r ∧ r + (kWords.sz x : Nat) = left)) ∧ Below w.heap.size w w' := by
  obtain ⟨x0, x1⟩ := x
  obtain ⟨a1, c1, T1, rfl, g0, l1, r1, s1⟩ := kWords_open h
  have HSZ : Hid (kWords.sz (x0, x1) = 0 + ((kRow kEntry).sz x1)) := rfl
  have R1 : Hid ((kRow kEntry).is false w T1 [.slice a1 x1.length c1] x1) := r1
  clear h r1
  show Calls Try.prog 35 #[.agg #[.int .i64 x0, .slice a1 x1.length c1], .int .i64 left] w _
  go_enter Try.func35, Try.ntmps35
  have hbl0 : ∀ o, Below w.heap.size w (w.alloc o) := fun o => (Below.refl _ _).alloc (Nat.le_refl _) o
  go_wp2_with fail
  refine (szEntryS_k x1 a1 _ c1 T1 _ _ (by omega) (by omega) (Kd.below R1.out (hbl0 _))).mono ?_
  rintro e w1 ⟨q1, rfl, hq1, hb1⟩
  have HB1 : Hid (Below w.heap.size w w1) := (hbl0 _).trans (hb1.mono (by simp))
  have zz1 : w.heap.size < w1.heap.size := by have := hb1.size; simp at this; omega
  clear hb1 hbl0
  rcases hq1 with rfl | ⟨n1, hs1⟩
  · go_wp2
    go_ret
    exact ⟨-1, rfl, .inl rfl, HB1.out⟩
  · have HQ1 : Hid (q1 + ((kRow kEntry).sz x1 : Nat) = left) := hs1
    have nl1 : q1 ≤ 2 ^ 20 := by omega
    have nn1 : ¬ q1 < 0 := by omega
    clear hs1
    go_wp2
    go_ret
    refine ⟨q1, rfl, .inr ⟨by omega, ?_⟩, HB1.out⟩
    rw [HSZ.out]
    have hh1 := HQ1.out
    omega

set_option maxRecDepth 100000 in
set_option maxHeartbeats 2000000 in
theorem toWords_k (x : DWords) (C : List Value) (S : Nat → Prop) (w : World) (h : kWords.is false w S C x) (hs : kWords.sz x ≤ 2 ^ 20) :
    Calls Try.prog 37 #[.agg C.toArray] w fun e w' => ∃ C', e = .returned (.agg C'.toArray) ∧ kWords.is true w' (fun k => w.heap.size ≤ k) C' x ∧ Below w.heap.size w w' := by
  obtain ⟨x0, x1⟩ := x
  obtain ⟨a1, c1, T1, rfl, g0, l1, r1, s1⟩ := kWords_open h
  have HSZ : Hid (0 + ((kRow kEntry).sz x1) ≤ 2 ^ 20) := hs
  have G0 : Hid (IntOk x0) := g0
  have R1 : Hid ((kRow kEntry).is false w T1 [.slice a1 x1.length c1] x1) := r1
  clear h hs r1 g0
  show Calls Try.prog 37 #[.agg #[.int .i64 x0, .slice a1 x1.length c1]] w _
  go_enter Try.func37, Try.ntmps37
  have hbl0 : ∀ o o' o'', Below w.heap.size w (((w.alloc o).alloc o').alloc o'') := fun o o' o'' => (((Below.refl _ _).alloc (Nat.le_refl _) o).alloc (by simp) o').alloc (by simp; omega) o''
  go_wp2_with fail
  refine (toEntryS_k x1 a1 _ c1 T1 _ (Kd.below R1.out (hbl0 _ _ _)) (by have := HSZ.out; omega)).mono ?_
  rintro e w1 ⟨b1, rfl, ho1, hl1, hb1⟩
  have o1_0 : w1.cell? ⟨w.heap.size + 1 + 1, 0, none⟩ = some (.int .i64 x0) := by rw [hb1.cell (by simp)]; simp [go_sem]
  have fo1_0 : w1.frozen? ⟨w.heap.size + 1 + 1, 0, none⟩ = false := by rw [hb1.frozen (by simp)]; simp [go_sem]
  have r1_0 : w1.cell? ⟨w.heap.size + 1, 0, none⟩ = some (.int .i64 0) := by rw [hb1.cell (by simp)]; simp [go_sem]
  have fr1_0 : w1.frozen? ⟨w.heap.size + 1, 0, none⟩ = false := by rw [hb1.frozen (by simp)]; simp [go_sem]
  have o1_1 : w1.cell? ⟨w.heap.size + 1 + 1, 1, none⟩ = some (.slice none 0 0) := by rw [hb1.cell (by simp)]; simp [go_sem]
  have fo1_1 : w1.frozen? ⟨w.heap.size + 1 + 1, 1, none⟩ = false := by rw [hb1.frozen (by simp)]; simp [go_sem]
  have r1_1 : w1.cell? ⟨w.heap.size + 1, 1, none⟩ = some (.slice none 0 0) := by rw [hb1.cell (by simp)]; simp [go_sem]
  have fr1_1 : w1.frozen? ⟨w.heap.size + 1, 1, none⟩ = false := by rw [hb1.frozen (by simp)]; simp [go_sem]
  have zz1 : w.heap.size + 1 + 1 < w1.heap.size := by have := hb1.size; simp at this; omega
  have HB1 : Hid (Below w.heap.size w w1) := (hbl0 _ _ _).trans (hb1.mono (by simp; omega))
  simp only [World.size_alloc] at ho1 hl1
  obtain ⟨L1, hL1⟩ : ∃ L, L = w.heap.size + 1 + 1 + 1 := ⟨_, rfl⟩
  obtain ⟨M1, hM1⟩ : ∃ M, M = w1.heap.size := ⟨_, rfl⟩
  have LM1 : w.heap.size + 1 + 1 < L1 ∧ L1 < M1 ∧ M1 ≤ w1.heap.size := by omega
  have O1_1 : Hid ((kRow kEntry).is true w1 (fun k => L1 ≤ k ∧ k < M1) [.slice b1 x1.length x1.length] x1) := Kd.tight _ ho1 (fun k hk hk' => by rw [hL1, hM1]; exact ⟨hk', hk⟩)
  clear hL1 hM1 ho1 hl1 hb1 hbl0
  go_wp2
  refine bodyPost_ret (v := .agg #[.int .i64 x0, .slice b1 x1.length x1.length]) (by simp [results, Try.results37, go_sem, r1_0, r1_1]) rfl ⟨[.int .i64 x0, .slice b1 x1.length x1.length], rfl, ?_, ?_⟩
  · refine kWords_shut G0.out (T1 := fun k => L1 ≤ k ∧ k < M1) ?_ (fun k hk => by show w.heap.size ≤ k; omega) 
    · exact Kd.keep _ O1_1.out (by simp [World.setCell]) (fun k hk hk' => by simp only [heap_set_ne (show k ≠ w.heap.size + 1 + 1 by omega), heap_set_ne (show k ≠ w.heap.size + 1 by omega)])
  · exact (((HB1.out.setCell (by show _ ≤ w.heap.size + 1 + 1; omega) _).setCell (by show _ ≤ w.heap.size + 1; omega) _).setCell (by show _ ≤ w.heap.size + 1; omega) _)

theorem infoWordsS : (Try.prog.info? 26).map (fun i => (i.zero, i.size, i.bytes)) = some (some (.agg #[.int .i64 0, .slice none 0 0]), 2, 32) := by kernel_rfl
/-- What is marked behind a Words by value: how many marks, and the marks. -/
def hWords_cnt : DWords → Nat := fun ⟨x0, x1⟩ => 0 + (sums kEntry.cnt x1)
def hWords_mrk : DWords → Int → DWords := fun ⟨x0, x1⟩ k0 => (x0, mks kEntry x1 (k0))
set_option maxRecDepth 100000 in
set_option maxHeartbeats 1000000 in
theorem markWords_k (x : DWords) (C : List Value) (S : Nat → Prop) (k0 : Int) (w : World) (hk0 : 0 < k0) (hk1 : k0 + (hWords_cnt x : Nat) ≤ 2 ^ 31) (h : kWords.is true w S C x) :
    Calls Try.prog 18 #[.agg C.toArray, .int .i64 k0] w fun e w' => e = .returned (.int .i64 (k0 + (hWords_cnt x : Nat))) ∧ KeptO S w w' ∧ kWords.is true w' S C (hWords_mrk x k0) := by
  obtain ⟨x0, x1⟩ := x
  have h' := Kd.tight (S' := fun k => S k ∧ k < w.heap.size) _ h (fun k hk hS => ⟨hS, hk⟩)
  obtain ⟨a1, c1, T1, rfl, g0, l1, r1, s1⟩ := kWords_open h'
  have HCX : Hid (hWords_cnt (x0, x1) = 0 + (sums kEntry.cnt x1)) := rfl
  have HMX : Hid (hWords_mrk (x0, x1) k0 = (x0, mks kEntry x1 (k0))) := rfl
  have bd : k0 + (sums kEntry.cnt x1 : Nat) ≤ 2 ^ 31 := by have h1 := HCX.out; omega
  have HK1 : Hid (k0 + (sums kEntry.cnt x1 : Nat) = k0 + (hWords_cnt (x0, x1) : Nat)) := by show _ = _; have h1 := HCX.out; omega
  have G0 : Hid (IntOk x0) := g0
  have R1 : Hid ((kRow kEntry).is true w T1 [.slice a1 x1.length c1] x1) := r1
  have HS1 : Hid (∀ k, T1 k → S k ∧ k < w.heap.size) := s1
  clear h h' hk1 r1 s1 g0
  show Calls Try.prog 18 #[.agg #[.int .i64 x0, .slice a1 x1.length c1], .int .i64 k0] w _
  go_enter Try.func18, Try.ntmps18
  have hbl0 : ∀ o, Below w.heap.size w (w.alloc o) := fun o => (Below.refl _ _).alloc (Nat.le_refl _) o
  go_wp2_with fail
  refine (markEntryS_k x1 a1 _ c1 T1 _ _ (by omega) (by omega) (Kd.below R1.out (hbl0 _))).mono ?_
  rintro e w2 ⟨rfl, hk2, hr2⟩
  have R1_1 : Hid ((kRow kEntry).is true w2 T1 [.slice a1 x1.length c1] (mks kEntry x1 (k0))) := hr2
  have KP1 : Hid (KeptO S w w2) := (KeptO.of (hbl0 _)).trans (hk2.mono (fun k h => (HS1.out k h).1))
  clear hk2 hr2 hbl0
  go_wp2
  go_ret
  refine ⟨by rw [← HK1.out]; rfl, KP1.out, ?_⟩
  rw [HMX.out]
  exact kWords_shut G0.out R1_1.out (fun k h => (HS1.out k h).1)

set_option maxRecDepth 100000 in
set_option maxHeartbeats 1000000 in
theorem heldWords_k (x : DWords) (C : List Value) (S : Nat → Prop) (k0 : Int) (w : World) (hk0 : 0 < k0) (hk1 : k0 + (hWords_cnt x : Nat) ≤ 2 ^ 31) (h : kWords.is false w S C (hWords_mrk x k0)) :
    Calls Try.prog 19 #[.agg C.toArray, .int .i64 k0] w fun e w' => e = .returned (.int .i64 (k0 + (hWords_cnt x : Nat))) ∧ Below w.heap.size w w' := by
  obtain ⟨x0, x1⟩ := x
  have h' : kWords.is false w S C (x0, mks kEntry x1 (k0)) := h
  obtain ⟨a1, c1, T1, rfl, g0, l1, r1, s1⟩ := kWords_open h'
  have HCX : Hid (hWords_cnt (x0, x1) = 0 + (sums kEntry.cnt x1)) := rfl
  have bd : k0 + (sums kEntry.cnt x1 : Nat) ≤ 2 ^ 31 := by have h1 := HCX.out; omega
  have HK1 : Hid (k0 + (sums kEntry.cnt x1 : Nat) = k0 + (hWords_cnt (x0, x1) : Nat)) := by show _ = _; have h1 := HCX.out; omega
  have R1 : Hid ((kRow kEntry).is false w T1 [.slice a1 (mks kEntry x1 (k0)).length c1] (mks kEntry x1 (k0))) := r1
  clear h h' hk1 r1
  show Calls Try.prog 19 #[.agg #[.int .i64 x0, .slice a1 (mks kEntry x1 (k0)).length c1], .int .i64 k0] w _
  go_enter Try.func19, Try.ntmps19
  have hbl0 : ∀ o, Below w.heap.size w (w.alloc o) := fun o => (Below.refl _ _).alloc (Nat.le_refl _) o
  go_wp2_with fail
  refine (heldEntryS_k x1 a1 _ c1 T1 _ _ (by omega) (by omega) (Kd.below R1.out (hbl0 _))).mono ?_
  rintro e w2 ⟨rfl, hb2⟩
  have HB1 : Hid (Below w.heap.size w w2) := (hbl0 _).trans (hb2.mono (by simp))
  have nz1 : ¬ (k0 + (sums kEntry.cnt x1 : Nat) < 0) := by omega
  clear hb2 hbl0
  go_wp2
  go_ret
  exact ⟨by rw [← HK1.out]; rfl, HB1.out⟩

theorem cntle_Words (x : DWords) : kWords.cnt x ≤ 10 * (1 + kWords.sz x) := by
  obtain ⟨x0, x1⟩ := x
  have h1 := sums_le_of kEntry.cnt kEntry.sz 10 cntle_Entry x1
  show 1 + (sums kEntry.cnt x1) ≤ 10 * (1 + (0 + ((x1.length + sums kEntry.sz x1))))
  omega
theorem cnt_WordsS {l : List DWords} (h : (kRow kWords).sz l ≤ 2 ^ 20) : sums kWords.cnt l ≤ 2 ^ 26 := by
  have h1 := sums_le_of kWords.cnt kWords.sz 10 cntle_Words l
  have h2 : l.length + sums kWords.sz l ≤ 2 ^ 20 := h
  omega
theorem cnt_Words {x : DWords} (h : kWords.sz x ≤ 2 ^ 20) : hWords_cnt x ≤ 2 ^ 26 := by
  obtain ⟨x0, x1⟩ := x
  have h1 := sums_le_of kEntry.cnt kEntry.sz 10 cntle_Entry x1
  have h' : 0 + ((x1.length + sums kEntry.sz x1)) ≤ 2 ^ 20 := h
  show 0 + (sums kEntry.cnt x1) ≤ 2 ^ 26
  omega

end Go.Proofs.Ytdaomklgcdfllaa
