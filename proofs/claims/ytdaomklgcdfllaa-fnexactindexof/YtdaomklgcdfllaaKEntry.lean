/- Entry: how it lies in memory, and what the laws' helpers do with it. No condition. -/
import Derived.Test.YtdaomklgcdfllaaKd
import Derived.Test.YtdaomklgcdfllaaKPosting
namespace Go.Proofs.Ytdaomklgcdfllaa
open Go.RowKit
set_option linter.unusedVariables false

/-- Entry, as data. -/
abbrev DEntry := ByteArray × List DPosting
def kEntry : Kd DEntry := kPair kStr (kRow kPosting)
theorem kEntry_open {o : Bool} {w : World} {S : Nat → Prop} {vs : List Value} {x0 : ByteArray} {x1 : List DPosting} (h : kEntry.is o w S vs (x0, x1)) : ∃ (a1 : Option Addr) (c1 : Nat) (T1 : Nat → Prop), vs = [.string x0, .slice a1 x1.length c1] ∧ x0.size ≤ maxLen ∧ x1.length ≤ maxLen ∧ (kRow kPosting).is o w T1 [.slice a1 x1.length c1] x1 ∧ (∀ k, T1 k → S k) := by
  obtain ⟨P0, Q0, v0, u0, rfl, ⟨rfl, g0⟩, g1, s0, q0, d0⟩ := h
  obtain ⟨a1, c1, rfl, l1, _⟩ := row_form g1
  exact ⟨a1, c1, Q0, rfl, g0, l1, g1, fun k hk => q0 k hk⟩
theorem kEntry_shut {o : Bool} {w : World} {S : Nat → Prop} {x0 : ByteArray} {x1 : List DPosting} {a1 : Option Addr} {n1 c1 : Nat} {T1 : Nat → Prop} (g0 : x0.size ≤ maxLen) (r1 : (kRow kPosting).is o w T1 [.slice a1 n1 c1] x1) (s1 : ∀ k, T1 k → S k) : kEntry.is o w S [.string x0, .slice a1 n1 c1] (x0, x1) := 
  ⟨fun _ => False, T1, _, _, rfl, ⟨rfl, g0⟩, r1, fun k hk => hk.elim, (fun k hk => s1 k hk), (fun e k hk hk' => hk.elim)⟩

set_option maxRecDepth 100000 in
set_option maxHeartbeats 1000000 in
theorem eqEntry_k (x : DEntry) (C1 C2 : List Value) (S1 S2 : Nat → Prop) (w : World) (h1 : kEntry.is false w S1 C1 x) (h2 : kEntry.is false w S2 C2 x) :
    Calls Try.prog 90 #[.agg C1.toArray, .agg C2.toArray] w fun e w' => e = .returned (.bool true) ∧ Below w.heap.size w w' := by
  obtain ⟨x0, x1⟩ := x
  obtain ⟨a1, c1, T1, rfl, g0, l1, r1, s1⟩ := kEntry_open (h1)
  obtain ⟨b1, d1, U1, rfl, j0, m1, p1, q1⟩ := kEntry_open (h2)
  have R1 : Hid ((kRow kPosting).is false w T1 [.slice a1 x1.length c1] x1) := r1
  have P1 : Hid ((kRow kPosting).is false w U1 [.slice b1 x1.length d1] x1) := p1
  clear h1 h2 r1 p1
  show Calls Try.prog 90 #[.agg #[.string x0, .slice a1 x1.length c1], .agg #[.string x0, .slice b1 x1.length d1]] w _
  go_enter Try.func90, Try.ntmps90
  have hbl0 : ∀ o o', Below w.heap.size w ((w.alloc o).alloc o') := fun o o' => ((Below.refl _ _).alloc (Nat.le_refl _) o).alloc (by simp) o'
  go_wp2_with fail
  refine (eqPostingS_k x1 a1 b1 _ c1 d1 T1 U1 _ (Kd.below R1.out (hbl0 _ _)) (Kd.below P1.out (hbl0 _ _))).mono ?_
  rintro e w1 ⟨rfl, hb1⟩
  have HB1 : Hid (Below w.heap.size w w1) := (hbl0 _ _).trans (hb1.mono (by simp; try omega))
  have zz1 : w.heap.size + 1 < w1.heap.size := by have := hb1.size; simp at this; omega
  clear hb1 hbl0
  go_wp2
  go_ret
  exact ⟨rfl, HB1.out⟩

set_option maxRecDepth 100000 in
set_option maxHeartbeats 2000000 in
theorem eqEntryS_k (l : List DEntry) (a1 a2 : Option Addr) (n c1 c2 : Nat) (S1 S2 : Nat → Prop) (w : World) (h1 : (kRow kEntry).is false w S1 [.slice a1 n c1] l) (h2 : (kRow kEntry).is false w S2 [.slice a2 n c2] l) :
    Calls Try.prog 51 #[.slice a1 n c1, .slice a2 n c2] w fun e w' => e = .returned (.bool true) ∧ Below w.heap.size w w' := by
  have hnl := row_len h1
  have hmx : n ≤ 9223372036854775807 := by obtain ⟨_, _, _, h, _⟩ := row_form h1; rw [hnl]; exact h
  have HNL : Hid (n = l.length) := hnl
  clear hnl
  have H1 : Hid ((kRow kEntry).is false w S1 [.slice a1 n c1] l) := h1
  have H2 : Hid ((kRow kEntry).is false w S2 [.slice a2 n c2] l) := h2
  clear h1 h2
  go_enter Try.func51, Try.ntmps51
  go_wp2_with fail
  go_loopw [5] (fun i wr => ∃ k : Nat, k ≤ n ∧ i = .int .i64 k ∧ Below w.heap.size w wr) (fun i _ => n - (intOf i).toNat)
  case atStart => exact ⟨0, Nat.zero_le _, rfl, Below.refl _ _⟩
  case round =>
    obtain ⟨k, hk, rfl, hnx⟩ := hrel
    by_cases hlt : k < n
    · obtain ⟨x, hx⟩ : ∃ x, l[k]? = some x := ⟨_, List.getElem?_eq_getElem (by rw [← HNL.out]; exact hlt)⟩
      obtain ⟨b, off, B, C, rfl, hb, _, hi, _, hc⟩ := row_at (Kd.below H1.out hnx) hx
      obtain ⟨b', off', B', C', rfl, hb', _, hi', _, hc'⟩ := row_at (Kd.below H2.out hnx) hx
      obtain ⟨x0, x1⟩ := x
      obtain ⟨a1, c1, T1, rfl, g0, l1, r1, s1⟩ := kEntry_open hi
      obtain ⟨b1, d1, U1, rfl, j0, m1, p1, q1⟩ := kEntry_open hi'
      have A0 : wr.cell? ⟨b, off + k * 2, none⟩ = some (.string x0) := (hc 0 _ rfl).1
      have A1 : wr.cell? ⟨b, off + k * 2 + 1, none⟩ = some (.slice a1 x1.length c1) := (hc 1 _ rfl).1
      have D0 : wr.cell? ⟨b', off' + k * 2, none⟩ = some (.string x0) := (hc' 0 _ rfl).1
      have D1 : wr.cell? ⟨b', off' + k * 2 + 1, none⟩ = some (.slice b1 x1.length d1) := (hc' 1 _ rfl).1
      have i0 : (0 : Int) ≤ (k : Int) := by omega
      have i1 : (k : Int) < (n : Int) := by omega
      have HI : Hid (kEntry.is false wr B [.string x0, .slice a1 x1.length c1] (x0, x1) ∧ kEntry.is false wr B' [.string x0, .slice b1 x1.length d1] (x0, x1)) := ⟨hi, hi'⟩
      have HD : Hid (Below wr.heap.size wr wr.drew) := (Below.refl _ _).drew
      have HS1 : Hid (wr.cell? ⟨b, off + k * 2, none⟩ = some (.string x0) ∧ wr.cell? ⟨b, off + k * 2 + 1, none⟩ = some (.slice a1 x1.length c1) ∧ wr.cell? ⟨b', off' + k * 2, none⟩ = some (.string x0) ∧ wr.cell? ⟨b', off' + k * 2 + 1, none⟩ = some (.slice b1 x1.length d1)) := ⟨A0, A1, D0, D1⟩
      have HSK : Hid (∀ w', Below wr.heap.size wr w' → w'.cell? ⟨b, off + k * 2, none⟩ = some (.string x0) ∧ w'.cell? ⟨b, off + k * 2 + 1, none⟩ = some (.slice a1 x1.length c1) ∧ w'.cell? ⟨b', off' + k * 2, none⟩ = some (.string x0) ∧ w'.cell? ⟨b', off' + k * 2 + 1, none⟩ = some (.slice b1 x1.length d1)) := fun w' h => ⟨(h.cell hb).trans A0, (h.cell hb).trans A1, (h.cell hb').trans D0, (h.cell hb').trans D1⟩
      clear hi hi' hc hc' r1 p1
      go_wp2_with fail
      go_region_held3 (fun w' => w'.cell? ⟨b, off + k * 2, none⟩ = some (.string x0) ∧ w'.cell? ⟨b, off + k * 2 + 1, none⟩ = some (.slice a1 x1.length c1) ∧ w'.cell? ⟨b', off' + k * 2, none⟩ = some (.string x0) ∧ w'.cell? ⟨b', off' + k * 2 + 1, none⟩ = some (.slice b1 x1.length d1)) (first | exact HS1.out | exact HSK.out _ HD.out | exact HSK.out _ hB1)
        (first | (go_at_call 90; go_fit (eqEntry_k (x0, x1) [.string x0, .slice a1 x1.length c1] [.string x0, .slice b1 x1.length d1] B B' wr.drew (Kd.below HI.out.1 HD.out) (Kd.below HI.out.2 HD.out)); rintro e w1 ⟨rfl, hb1⟩; have hB1 : Below wr.heap.size wr w1 := HD.out.trans hb1))
      go_wp2
      go_roundw
      case rel => exact ⟨k + 1, by omega, by go_num, hnx.trans (hB1.mono hnx.size)⟩
      case measure => simp [intOf]; omega
    · go_wp2
      go_ret
      exact ⟨rfl, hnx⟩

set_option maxRecDepth 100000 in
set_option maxHeartbeats 1000000 in
theorem szEntry_k (x : DEntry) (C : List Value) (S : Nat → Prop) (left : Int) (w : World) (hl0 : 0 ≤ left) (hl1 : left ≤ 2 ^ 20) (h : kEntry.is false w S C x) :
    Calls Try.prog 102 #[.agg C.toArray, .int .i64 left] w fun e w' => ∃ r : Int, e = .returned (.int .i64 r) ∧ (r = -1 ∨ (0 ≤ r ∧ r + (kEntry.sz x : Nat) = left)) ∧ Below w.heap.size w w' := by
  obtain ⟨x0, x1⟩ := x
  obtain ⟨a1, c1, T1, rfl, g0, l1, r1, s1⟩ := kEntry_open h
  have HSZ : Hid (kEntry.sz (x0, x1) = x0.size + ((kRow kPosting).sz x1)) := rfl
  have R1 : Hid ((kRow kPosting).is false w T1 [.slice a1 x1.length c1] x1) := r1
  clear h r1
  unfold maxLen at g0
  show Calls Try.prog 102 #[.agg #[.string x0, .slice a1 x1.length c1], .int .i64 left] w _
  go_enter Try.func102, Try.ntmps102
  have hbl0 : ∀ o, Below w.heap.size w (w.alloc o) := fun o => (Below.refl _ _).alloc (Nat.le_refl _) o
  by_cases cc0 : left - (x0.size : Int) < 0
  · go_wp2
    go_ret
    exact ⟨-1, rfl, .inl rfl, by go_grown⟩
  · have nn0 : 0 ≤ left - (x0.size : Int) := by omega
    go_wp2_with fail
    refine (szPostingS_k x1 a1 _ c1 T1 _ _ (by omega) (by omega) (Kd.below R1.out (hbl0 _))).mono ?_
    rintro e w1 ⟨q1, rfl, hq1, hb1⟩
    have HB1 : Hid (Below w.heap.size w w1) := (hbl0 _).trans (hb1.mono (by simp))
    have zz1 : w.heap.size < w1.heap.size := by have := hb1.size; simp at this; omega
    clear hb1 hbl0
    rcases hq1 with rfl | ⟨n1, hs1⟩
    · go_wp2
      go_ret
      exact ⟨-1, rfl, .inl rfl, HB1.out⟩
    · have HQ1 : Hid (q1 + ((kRow kPosting).sz x1 : Nat) = left - (x0.size : Int)) := hs1
      have nl1 : q1 ≤ 2 ^ 20 := by omega
      have nn1 : ¬ q1 < 0 := by omega
      clear hs1
      go_wp2
      go_ret
      refine ⟨q1, rfl, .inr ⟨by omega, ?_⟩, HB1.out⟩
      rw [HSZ.out]
      have hh1 := HQ1.out
      omega

set_option maxRecDepth 100000 in
set_option maxHeartbeats 1000000 in
theorem szEntryS_k (l : List DEntry) (a : Option Addr) (n c : Nat) (S : Nat → Prop) (left : Int) (w : World) (hl0 : 0 ≤ left) (hl1 : left ≤ 2 ^ 20) (h : (kRow kEntry).is false w S [.slice a n c] l) :
    Calls Try.prog 74 #[.slice a n c, .int .i64 left] w fun e w' => ∃ r : Int, e = .returned (.int .i64 r) ∧ (r = -1 ∨ (0 ≤ r ∧ r + ((kRow kEntry).sz l : Nat) = left)) ∧ Below w.heap.size w w' := by
  have hnl := row_len h
  have hmx : n ≤ 9223372036854775807 := by obtain ⟨_, _, _, h, _⟩ := row_form h; rw [hnl]; exact h
  have HNL : Hid (n = l.length) := hnl
  have HSZ : Hid ((kRow kEntry).sz l = l.length + sums kEntry.sz l) := rfl
  have H : Hid ((kRow kEntry).is false w S [.slice a n c] l) := h
  clear h hnl
  by_cases c0 : left - (n : Int) < 0
  · go_enter Try.func74, Try.ntmps74
    go_wp2
    go_ret
    exact ⟨-1, rfl, .inl rfl, by go_grown⟩
  · go_enter Try.func74, Try.ntmps74
    go_wp2_with fail
    go_loopw [1, 5] (fun q i wr => ∃ (k : Nat) (r : Int), k ≤ n ∧ i = .int .i64 k ∧ q = .int .i64 r ∧ 0 ≤ r ∧ r ≤ 2 ^ 20 ∧ Hid (r + (sums kEntry.sz (l.take k) : Nat) = left - (n : Int)) ∧ Below w.heap.size w wr) (fun _ i _ => n - (intOf i).toNat)
    case atStart => exact ⟨0, _, Nat.zero_le _, rfl, rfl, by omega, by omega, by show _ = _; simp [sums], Below.refl _ _⟩
    case round =>
      obtain ⟨k, r, hk, rfl, rfl, hr0, hr1, HJ, hnx⟩ := hrel
      by_cases hlt : k < n
      · obtain ⟨x, hx⟩ : ∃ x, l[k]? = some x := ⟨_, List.getElem?_eq_getElem (by rw [← HNL.out]; exact hlt)⟩
        have HN : Hid (sums kEntry.sz (l.take (k + 1)) = sums kEntry.sz (l.take k) + kEntry.sz x) := sums_next _ l k x hx
        obtain ⟨b, off, B, C, rfl, hb, _, hi, _, hc⟩ := row_at (Kd.below H.out hnx) hx
        obtain ⟨x0, x1⟩ := x
        obtain ⟨a1, c1, T1, rfl, g0, l1, r1, s1⟩ := kEntry_open hi
        have A0 : wr.cell? ⟨b, off + k * 2, none⟩ = some (.string x0) := (hc 0 _ rfl).1
        have A1 : wr.cell? ⟨b, off + k * 2 + 1, none⟩ = some (.slice a1 x1.length c1) := (hc 1 _ rfl).1
        have i0 : (0 : Int) ≤ (k : Int) := by omega
        have i1 : (k : Int) < (n : Int) := by omega
        have HI : Hid (kEntry.is false wr B [.string x0, .slice a1 x1.length c1] (x0, x1)) := hi
        clear hi hc hx r1
        go_wp2_with fail
        refine (szEntry_k (x0, x1) [.string x0, .slice a1 x1.length c1] B _ _ hr0 hr1 HI.out).mono ?_
        rintro e w1 ⟨q, rfl, hq, hb1⟩
        have HB : Hid (Below w.heap.size w w1) := hnx.trans (hb1.mono hnx.size)
        clear hb1
        rcases hq with rfl | ⟨q0, q1⟩
        · go_wp2
          go_ret
          exact ⟨-1, rfl, .inl rfl, HB.out⟩
        · have HJ' : Hid (q + (sums kEntry.sz (l.take (k + 1)) : Nat) = left - (n : Int)) := by
            show _ = _
            have h1 := HJ.out
            have h2 := HN.out
            omega
          have q2 : q ≤ 2 ^ 20 := by omega
          have q3 : ¬ q < 0 := by omega
          clear q1
          go_wp2
          go_roundw
          case rel => exact ⟨k + 1, q, by omega, by go_num, rfl, q0, q2, HJ', HB.out⟩
          case measure => simp [intOf]; omega
      · go_wp2
        go_ret
        obtain rfl : k = n := by omega
        refine ⟨r, rfl, .inr ⟨hr0, ?_⟩, hnx⟩
        have h1 := HJ.out
        rw [HNL.out, List.take_length] at h1
        rw [HSZ.out]
        omega

set_option maxRecDepth 100000 in
set_option maxHeartbeats 2000000 in
theorem toEntry_k (x : DEntry) (C : List Value) (S : Nat → Prop) (w : World) (h : kEntry.is false w S C x) (hs : kEntry.sz x ≤ 2 ^ 20) :
    Calls Try.prog 104 #[.agg C.toArray] w fun e w' => ∃ C', e = .returned (.agg C'.toArray) ∧ kEntry.is true w' (fun k => w.heap.size ≤ k) C' x ∧ Below w.heap.size w w' := by
  obtain ⟨x0, x1⟩ := x
  obtain ⟨a1, c1, T1, rfl, g0, l1, r1, s1⟩ := kEntry_open h
  have HSZ : Hid (x0.size + ((kRow kPosting).sz x1) ≤ 2 ^ 20) := hs
  have G0 : Hid (x0.size ≤ maxLen) := g0
  have R1 : Hid ((kRow kPosting).is false w T1 [.slice a1 x1.length c1] x1) := r1
  clear h hs r1 g0
  show Calls Try.prog 104 #[.agg #[.string x0, .slice a1 x1.length c1]] w _
  go_enter Try.func104, Try.ntmps104
  have hbl0 : ∀ o o' o'', Below w.heap.size w (((w.alloc o).alloc o').alloc o'') := fun o o' o'' => (((Below.refl _ _).alloc (Nat.le_refl _) o).alloc (by simp) o').alloc (by simp; omega) o''
  go_wp2_with fail
  refine (toPostingS_k x1 a1 _ c1 T1 _ (Kd.below R1.out (hbl0 _ _ _)) (by have := HSZ.out; omega)).mono ?_
  rintro e w1 ⟨b1, rfl, ho1, hl1, hb1⟩
  have o1_0 : w1.cell? ⟨w.heap.size + 1 + 1, 0, none⟩ = some (.string x0) := by rw [hb1.cell (by simp)]; simp [go_sem]
  have fo1_0 : w1.frozen? ⟨w.heap.size + 1 + 1, 0, none⟩ = false := by rw [hb1.frozen (by simp)]; simp [go_sem]
  have r1_0 : w1.cell? ⟨w.heap.size + 1, 0, none⟩ = some (.string ⟨#[]⟩) := by rw [hb1.cell (by simp)]; simp [go_sem]
  have fr1_0 : w1.frozen? ⟨w.heap.size + 1, 0, none⟩ = false := by rw [hb1.frozen (by simp)]; simp [go_sem]
  have o1_1 : w1.cell? ⟨w.heap.size + 1 + 1, 1, none⟩ = some (.slice none 0 0) := by rw [hb1.cell (by simp)]; simp [go_sem]
  have fo1_1 : w1.frozen? ⟨w.heap.size + 1 + 1, 1, none⟩ = false := by rw [hb1.frozen (by simp)]; simp [go_sem]
  have r1_1 : w1.cell? ⟨w.heap.size + 1, 1, none⟩ = some (.slice none 0 0) := by rw [hb1.cell (by simp)]; simp [go_sem]
  have fr1_1 : w1.frozen? ⟨w.heap.size + 1, 1, none⟩ = false := by rw [hb1.frozen (by simp)]; simp [go_sem]
  have zz1 : w.heap.size + 1 + 1 < w1.heap.size := by have := hb1.size; simp at this; omega
  have HB1 : Hid (Below w.heap.size w w1) := (hbl0 _ _ _).trans (hb1.mono (by simp; omega))
  simp only [World.size_alloc] at ho1 hl1
  obtain ⟨L1, hL1⟩ : ∃ L, L = w.heap.size + 1 + 1 + 1 := ⟨_, rfl⟩
  obtain ⟨M1, hM1⟩ : ∃ M, M = w1.heap.size := ⟨_, rfl⟩
  have LM1 : w.heap.size + 1 + 1 < L1 ∧ L1 < M1 ∧ M1 ≤ w1.heap.size := by omega
  have O1_1 : Hid ((kRow kPosting).is true w1 (fun k => L1 ≤ k ∧ k < M1) [.slice b1 x1.length x1.length] x1) := Kd.tight _ ho1 (fun k hk hk' => by rw [hL1, hM1]; exact ⟨hk', hk⟩)
  clear hL1 hM1 ho1 hl1 hb1 hbl0
  go_wp2
  refine bodyPost_ret (v := .agg #[.string x0, .slice b1 x1.length x1.length]) (by simp [results, Try.results104, go_sem, r1_0, r1_1]) rfl ⟨[.string x0, .slice b1 x1.length x1.length], rfl, ?_, ?_⟩
  · refine kEntry_shut G0.out (T1 := fun k => L1 ≤ k ∧ k < M1) ?_ (fun k hk => by show w.heap.size ≤ k; omega) 
    · exact Kd.keep _ O1_1.out (by simp [World.setCell]) (fun k hk hk' => by simp only [heap_set_ne (show k ≠ w.heap.size + 1 + 1 by omega), heap_set_ne (show k ≠ w.heap.size + 1 by omega)])
  · exact (((HB1.out.setCell (by show _ ≤ w.heap.size + 1 + 1; omega) _).setCell (by show _ ≤ w.heap.size + 1; omega) _).setCell (by show _ ≤ w.heap.size + 1; omega) _)

theorem infoEntryS : (Try.prog.info? 112).map (fun i => (i.zero, i.size, i.bytes)) = some (some (.agg #[.string ⟨#[]⟩, .slice none 0 0]), 2, 40) := by kernel_rfl
theorem makeEntryS (n : Nat) (hn : n ≤ 2 ^ 30) (W : World) : (Instr.makeSlice 24 (.int .i64 (n : Int)) (.int .i64 (n : Int))).run Try.prog W = .ok (.slice (some ⟨W.heap.size, 0, none⟩) n n) (W.alloc (.cells (madeCells #[.string ⟨#[]⟩, .slice none 0 0] (n * 2)) 112)) := by
  obtain ⟨i0, hi, hz0, hz1, hz2⟩ := info_parts infoEntryS
  have h := run_make (P := Try.prog) W 24 112 i0 _ Try.underlying24 hi hz0 .i64 .i64 n n (by omega) (by omega) (by rw [hz2]; omega) (by omega)
  rw [hz1] at h
  simpa [Value.cells] using h
set_option maxRecDepth 100000 in
set_option maxHeartbeats 2000000 in
theorem toEntryS_k (l : List DEntry) (a : Option Addr) (n c : Nat) (S : Nat → Prop) (w : World) (h : (kRow kEntry).is false w S [.slice a n c] l) (hs : (kRow kEntry).sz l ≤ 2 ^ 20) :
    Calls Try.prog 77 #[.slice a n c] w fun e w' => ∃ a', e = .returned (.slice a' n n) ∧ (kRow kEntry).is true w' (fun k => w.heap.size ≤ k) [.slice a' n n] l ∧ w.heap.size < w'.heap.size ∧ Below w.heap.size w w' := by
  have hnl := row_len h
  have HSZ : Hid (l.length + sums kEntry.sz l ≤ 2 ^ 20) := hs
  have n20 : n ≤ 2 ^ 20 := by have := HSZ.out; omega
  have HNL : Hid (n = l.length) := hnl
  have H : Hid ((kRow kEntry).is false w S [.slice a n c] l) := h
  clear h hnl hs
  have hmk := makeEntryS n (by omega)
  obtain ⟨W, hW⟩ : ∃ W, W = w.alloc (.cells (madeCells #[.string ⟨#[]⟩, .slice none 0 0] (n * 2)) 112) := ⟨_, rfl⟩
  have HN : Hid (FillO kEntry W w.heap.size n []) := by
    refine FillO.start _ (by rw [hW]; simp) fun o ho => ?_
    have ho' : o < n * 2 := by simpa [show kEntry.wd = 2 from rfl] using ho
    rw [hW, World.cell?_alloc_new]
    exact ⟨by simp [madeCells, ho'], World.frozen?_alloc_new _ _ _ _⟩
  have hsz : w.heap.size < W.heap.size := by rw [hW]; simp
  have hbl : Below w.heap.size w W := by rw [hW]; go_grown
  have hmw := hmk w
  rw [← hW] at hmw
  clear hmk hW
  go_enter Try.func77, Try.ntmps77
  go_wp2_with fail
  go_loopw [4] (fun i wr => ∃ k : Nat, k ≤ n ∧ i = .int .i64 k ∧ w.heap.size < wr.heap.size ∧ Below w.heap.size w wr ∧ Hid (FillO kEntry wr w.heap.size n (l.take k))) (fun i _ => n - (intOf i).toNat)
  case atStart => exact ⟨0, Nat.zero_le _, rfl, hsz, hbl, by show FillO _ _ _ _ _; simpa using HN.out⟩
  case round =>
    obtain ⟨k, hk, rfl, hz, hnx, HF⟩ := hrel
    by_cases hlt : k < n
    · obtain ⟨x, hx⟩ : ∃ x, l[k]? = some x := ⟨_, List.getElem?_eq_getElem (by rw [← HNL.out]; exact hlt)⟩
      have HT : Hid (l.take (k + 1) = l.take k ++ [x]) := by show _ = _; rw [List.take_add_one, hx]; rfl
      have HKL : Hid ((l.take k).length = k) := by show _ = _; rw [List.length_take, ← HNL.out]; omega
      have HXS : Hid (kEntry.sz x ≤ 2 ^ 20) := by have := sums_ge kEntry.sz l k x hx; have := HSZ.out; show _ ≤ _; omega
      obtain ⟨b, off, B, C, rfl, hb, _, hi, _, hc⟩ := row_at (Kd.below H.out hnx) hx
      obtain ⟨x0, x1⟩ := x
      obtain ⟨a1, c1, T1, rfl, g0, l1, r1, s1⟩ := kEntry_open hi
      have A0 : wr.cell? ⟨b, off + k * 2, none⟩ = some (.string x0) := (hc 0 _ rfl).1
      have A1 : wr.cell? ⟨b, off + k * 2 + 1, none⟩ = some (.slice a1 x1.length c1) := (hc 1 _ rfl).1
      have i0 : (0 : Int) ≤ (k : Int) := by omega
      have i1 : (k : Int) < (n : Int) := by omega
      have HI : Hid (kEntry.is false wr B [.string x0, .slice a1 x1.length c1] (x0, x1)) := hi
      clear hi hc hx r1
      go_wp2_with fail
      refine (toEntry_k (x0, x1) [.string x0, .slice a1 x1.length c1] B _ HI.out HXS.out).mono ?_
      rintro e w1 ⟨C1, rfl, hi1, hb1⟩
      obtain ⟨b1, d1, U1, rfl, j0, m1, p1, q1⟩ := kEntry_open hi1
      have HI1 : Hid (kEntry.is true w1 (fun k => wr.heap.size ≤ k) [.string x0, .slice b1 x1.length d1] (x0, x1)) := hi1
      have HF1 : Hid (FillO kEntry w1 w.heap.size n (l.take k)) := HF.out.below hb1
      obtain ⟨u0, hu0⟩ := Option.isSome_iff_exists.1 (HF1.out.room (k * 2) (by show _ < n * 2; omega)).1
      have f0 := (HF1.out.room (k * 2) (by show _ < n * 2; omega)).2
      obtain ⟨u1, hu1⟩ := Option.isSome_iff_exists.1 (HF1.out.room (k * 2 + 1) (by show _ < n * 2; omega)).1
      have f1 := (HF1.out.room (k * 2 + 1) (by show _ < n * 2; omega)).2
      have z1 := hb1.size
      have HB : Hid (Below wr.heap.size wr w1) := hb1
      clear hb1 hi1 A0 A1 p1
      have zg : w.heap.size < w1.heap.size := by omega
      go_wp2_with fail
      obtain ⟨r1, r2⟩ := FillO.next HF.out (by rw [HKL.out]; exact hlt) HB.out HI1.out rfl
      rw [HKL.out, ← HT.out] at r1
      rw [HKL.out] at r2
      go_roundw
      case rel => exact ⟨k + 1, by omega, by go_num, by have := r2.size; exact Nat.lt_of_lt_of_le zg this, hnx.trans ((HB.out.mono hnx.size).trans (r2.below (by omega) (Nat.le_refl _))), r1⟩
      case measure => simp [intOf]; omega
    · go_wp2
      go_ret
      obtain rfl : k = n := by omega
      have hf := HF.out
      rw [HNL.out, List.take_length] at hf
      exact ⟨_, rfl, by rw [HNL.out]; exact hf.done rfl (by unfold maxLen; have := HNL.out; omega) (fun k hk _ => hk), hz, hnx⟩

set_option maxRecDepth 100000 in
set_option maxHeartbeats 2000000 in
theorem markEntryS_k (l : List DEntry) (a : Option Addr) (n c : Nat) (S : Nat → Prop) (k0 : Int) (w : World) (hk0 : 0 < k0) (hk1 : k0 + (sums kEntry.cnt l : Nat) ≤ 2 ^ 31) (h : (kRow kEntry).is true w S [.slice a n c] l) :
    Calls Try.prog 53 #[.slice a n c, .int .i64 k0] w fun e w' => e = .returned (.int .i64 (k0 + (sums kEntry.cnt l : Nat))) ∧ KeptO S w w' ∧ (kRow kEntry).is true w' S [.slice a n c] (mks kEntry l k0) := by
  have hnl := row_len h
  have hmx : n ≤ 9223372036854775807 := by obtain ⟨_, _, _, h, _⟩ := row_form h; rw [hnl]; exact h
  have HNL : Hid (n = l.length) := hnl
  have HCN : Hid (k0 + (sums kEntry.cnt l : Nat) ≤ 2 ^ 31) := hk1
  have H : Hid ((kRow kEntry).is true w S [.slice a n c] l) := h
  clear h hnl hk1
  go_enter Try.func53, Try.ntmps53
  go_wp2_with fail
  go_loopw [1, 5] (fun q i wr => ∃ (k : Nat) (r : Int), k ≤ n ∧ i = .int .i64 k ∧ q = .int .i64 r ∧ 0 < r ∧ r ≤ 2 ^ 31 ∧ Hid (r = k0 + (sums kEntry.cnt (l.take k) : Nat)) ∧ KeptO S w wr ∧ Hid ((kRow kEntry).is true wr S [.slice a n c] (mkTil kEntry l k0 k))) (fun _ i _ => n - (intOf i).toNat)
  case atStart => exact ⟨0, k0, Nat.zero_le _, rfl, rfl, hk0, by have := HCN.out; omega, by show _ = _; simp [sums], KeptO.refl _ _, by show Kd.is _ _ _ _ _ _; rw [mkTil_zero]; exact H.out⟩
  case round =>
    obtain ⟨k, r, hk, rfl, rfl, hr0, hr1, HR, hnx, HM⟩ := hrel
    by_cases hlt : k < n
    · obtain ⟨x, hx⟩ : ∃ x, l[k]? = some x := ⟨_, List.getElem?_eq_getElem (by rw [← HNL.out]; exact hlt)⟩
      have HN : Hid (sums kEntry.cnt (l.take (k + 1)) = sums kEntry.cnt (l.take k) + kEntry.cnt x) := sums_next _ l k x hx
      have HE : Hid ((mkTil kEntry l k0 k).set k (kEntry.mrk x r) = mkTil kEntry l k0 (k + 1)) := by show _ = _; rw [HR.out]; exact mkTil_next kEntry l k0 k x hx
      have HB : Hid (r + (kEntry.cnt x : Nat) ≤ 2 ^ 31) := by
        have h1 := sums_take_le kEntry.cnt l (k + 1)
        have h2 := HN.out
        have h3 := HCN.out
        have h4 := HR.out
        show _ ≤ _
        omega
      obtain ⟨b, off, B, C, rfl, hb, hSb, hnb, hi, hBS, hc, hput⟩ := row_put HM.out (by rw [mkTil_at _ _ _ _ (by rw [← HNL.out]; exact hlt)]; exact hx)
      obtain ⟨x0, x1⟩ := x
      obtain ⟨a1, c1, T1, rfl, g0, l1, r1, s1⟩ := kEntry_open hi
      have A0 : wr.cell? ⟨b, off + k * 2, none⟩ = some (.string x0) := (hc 0 _ rfl).1
      have F0 : wr.frozen? ⟨b, off + k * 2, none⟩ = false := (hc 0 _ rfl).2
      have A1 : wr.cell? ⟨b, off + k * 2 + 1, none⟩ = some (.slice a1 x1.length c1) := (hc 1 _ rfl).1
      have F1 : wr.frozen? ⟨b, off + k * 2 + 1, none⟩ = false := (hc 1 _ rfl).2
      have HPUT : Hid (∀ w' x' C', OnlyO B b (off + k * 2) (off + k * 2 + 2) wr w' → kEntry.is true w' B C' x' → (∀ j v, C'[j]? = some v → w'.cell? ⟨b, off + k * 2 + j, none⟩ = some v) → (kRow kEntry).is true w' S [.slice (some ⟨b, off, none⟩) n c] ((mkTil kEntry l k0 k).set k x')) := hput
      have HCX : Hid (kEntry.cnt (x0, x1) = 1 + (sums kPosting.cnt x1)) := rfl
      have HO : Hid (OnlyO B b (off + k * 2) (off + k * 2 + 2) wr wr) := OnlyO.refl _ _ _ _ _
      have R1 : Hid ((kRow kPosting).is true wr T1 [.slice a1 x1.length c1] x1) := r1
      have hn1 : ∀ k, T1 k → k ≠ b := fun k hk e => hnb (e ▸ s1 k hk)
      have HBS : Hid (S b ∧ ∀ k, B k → S k) := ⟨hSb, hBS⟩
      have i0 : (0 : Int) ≤ (k : Int) := by omega
      have i1 : (k : Int) < (n : Int) := by omega
      have bd : r + 1 + (sums kPosting.cnt x1 : Nat) ≤ 2 ^ 31 := by have h1 := HB.out; have h2 := HCX.out; omega
      have HN1 : Hid (∀ k, T1 k → k ≠ b) := hn1
      have HS1 : Hid (∀ k, T1 k → B k) := s1
      clear hc hput hx hi r1 s1 hn1 hBS
      go_wp2_with fail
      refine (markText_any _ _ (by omega) (by omega)).mono ?_
      rintro e w1 ⟨rfl, hb1⟩
      have st0 : OnlyO (fun _ => False) b (off + k * 2) (off + k * 2 + 2) wr w1 := ((OnlyO.refl (fun _ => False) b (off + k * 2) (off + k * 2 + 2) wr).trans (OnlyO.below hb1 (World.block_lt_of_cell? _ _ A0)))
      have A0_0 : w1.cell? ⟨b, off + k * 2, none⟩ = some (.string x0) := cell_later hb1 A0
      have F0_0 : w1.frozen? ⟨b, off + k * 2, none⟩ = false := frozen_later hb1 A0 F0
      have A1_0 : w1.cell? ⟨b, off + k * 2 + 1, none⟩ = some (.slice a1 x1.length c1) := cell_later hb1 A1
      have F1_0 : w1.frozen? ⟨b, off + k * 2 + 1, none⟩ = false := frozen_later hb1 A1 F1
      have HO_0 : Hid (OnlyO B b (off + k * 2) (off + k * 2 + 2) wr w1) := HO.out.trans (st0.mono (fun _ h => h.elim))
      have R1_0 : Hid ((kRow kPosting).is true w1 T1 [.slice a1 x1.length c1] x1) := OnlyO.keepK st0 R1.out (fun k hk => ⟨HN1.out k hk, fun h => h.elim⟩)
      clear hb1 st0 A0 F0 A1 F1
      go_wp2_with fail
      refine (markPostingS_k x1 a1 _ c1 T1 _ _ (by omega) (by omega) (OnlyO.keepK ((OnlyO.refl (fun _ => False) b (off + k * 2) (off + k * 2 + 2) w1).thenSet (o := off + k * 2) (by omega) (by omega)) R1_0.out (fun k hk => ⟨HN1.out k hk, fun h => h.elim⟩))).mono ?_
      rintro e w2 ⟨rfl, hk2, hr2⟩
      have st1 : OnlyO T1 b (off + k * 2) (off + k * 2 + 2) w1 w2 := ((((OnlyO.refl (fun _ => False) b (off + k * 2) (off + k * 2 + 2) w1).thenSet (o := off + k * 2) (by omega) (by omega)).mono (fun _ h => h.elim)).trans (OnlyO.kept hk2 (World.block_lt_of_cell? _ _ (set_same A0_0)) (fun _ h => h) (fun h => HN1.out b h rfl)))
      have A0_1 : w2.cell? ⟨b, off + k * 2, none⟩ = some (.string (mtext (r))) := cell_keptO hk2 (set_same A0_0) (fun h => HN1.out b h rfl)
      have F0_1 : w2.frozen? ⟨b, off + k * 2, none⟩ = false := frozen_keptO hk2 (set_same A0_0) (frozen_set F0_0) (fun h => HN1.out b h rfl)
      have A1_1 : w2.cell? ⟨b, off + k * 2 + 1, none⟩ = some (.slice a1 x1.length c1) := cell_keptO hk2 (set_other A1_0 (by omega)) (fun h => HN1.out b h rfl)
      have F1_1 : w2.frozen? ⟨b, off + k * 2 + 1, none⟩ = false := frozen_keptO hk2 (set_other A1_0 (by omega)) (frozen_set F1_0) (fun h => HN1.out b h rfl)
      have HO_1 : Hid (OnlyO B b (off + k * 2) (off + k * 2 + 2) wr w2) := HO_0.out.trans (st1.mono (HS1.out))
      have R1_1 : Hid ((kRow kPosting).is true w2 T1 [.slice a1 x1.length c1] (mks kPosting x1 (r + 1))) := hr2
      clear hk2 hr2 st1 A0_0 F0_0 A1_0 F1_0
      go_wp2_with fail
      have hfin := HPUT.out _ (kEntry.mrk (x0, x1) r) [.string (mtext (r)), .slice a1 x1.length c1] HO_1.out (kEntry_shut (by have := mtext_size (r); unfold maxLen; omega) (OnlyO.keepK (OnlyO.refl (fun _ => False) b (off + k * 2) (off + k * 2 + 2) w2) R1_1.out (fun k hk => ⟨HN1.out k hk, fun h => h.elim⟩)) HS1.out) (cells_cons (P := fun j u => World.cell? _ ⟨b, off + k * 2 + j, none⟩ = some u) A0_1 (cells_cons A1_1 cells_nil))
      rw [HE.out] at hfin
      have hkp := (HO_1.out).to HBS.out.1 HBS.out.2
      go_roundw
      case rel => exact ⟨k + 1, r + 1 + (sums kPosting.cnt x1 : Nat), by omega, by go_num, by first | rfl | go_num, by omega, bd, by show _ = _; have h1 := HN.out; have h2 := HR.out; have h3 := HCX.out; omega, hnx.trans hkp, hfin⟩
      case measure => simp [intOf]; omega
    · go_wp2
      go_ret
      obtain rfl : k = n := by omega
      have h1 := HR.out
      have h2 := HM.out
      rw [HNL.out, List.take_length] at h1
      refine ⟨by rw [h1]; rfl, hnx, ?_⟩
      rw [← mkTil_all, ← HNL.out]
      exact h2

set_option maxRecDepth 100000 in
set_option maxHeartbeats 2000000 in
theorem heldEntryS_k (l : List DEntry) (a : Option Addr) (n c : Nat) (S : Nat → Prop) (k0 : Int) (w : World) (hk0 : 0 < k0) (hk1 : k0 + (sums kEntry.cnt l : Nat) ≤ 2 ^ 31) (h : (kRow kEntry).is false w S [.slice a n c] (mks kEntry l k0)) :
    Calls Try.prog 54 #[.slice a n c, .int .i64 k0] w fun e w' => e = .returned (.int .i64 (k0 + (sums kEntry.cnt l : Nat))) ∧ Below w.heap.size w w' := by
  have hnl := row_len h
  have hmx : n ≤ 9223372036854775807 := by obtain ⟨_, _, _, h, _⟩ := row_form h; rw [hnl]; exact h
  rw [mks_length] at hnl
  have HNL : Hid (n = l.length) := hnl
  have HCN : Hid (k0 + (sums kEntry.cnt l : Nat) ≤ 2 ^ 31) := hk1
  have H : Hid ((kRow kEntry).is false w S [.slice a n c] (mks kEntry l k0)) := h
  clear h hnl hk1
  go_enter Try.func54, Try.ntmps54
  go_wp2_with fail
  go_loopw [1, 5] (fun q i wr => ∃ (k : Nat) (r : Int), k ≤ n ∧ i = .int .i64 k ∧ q = .int .i64 r ∧ 0 < r ∧ r ≤ 2 ^ 31 ∧ Hid (r = k0 + (sums kEntry.cnt (l.take k) : Nat)) ∧ Below w.heap.size w wr) (fun _ i _ => n - (intOf i).toNat)
  case atStart => exact ⟨0, k0, Nat.zero_le _, rfl, rfl, hk0, by have := HCN.out; omega, by show _ = _; simp [sums], Below.refl _ _⟩
  case round =>
    obtain ⟨k, r, hk, rfl, rfl, hr0, hr1, HR, hnx⟩ := hrel
    by_cases hlt : k < n
    · obtain ⟨x, hx⟩ : ∃ x, l[k]? = some x := ⟨_, List.getElem?_eq_getElem (by rw [← HNL.out]; exact hlt)⟩
      have HN : Hid (sums kEntry.cnt (l.take (k + 1)) = sums kEntry.cnt (l.take k) + kEntry.cnt x) := sums_next _ l k x hx
      have HB : Hid (r + (kEntry.cnt x : Nat) ≤ 2 ^ 31) := by
        have h1 := sums_take_le kEntry.cnt l (k + 1)
        have h2 := HN.out
        have h3 := HCN.out
        have h4 := HR.out
        show _ ≤ _
        omega
      have hx' := mks_at kEntry l k0 k x hx
      rw [← HR.out] at hx'
      obtain ⟨b, off, B, C, rfl, hb, _, hi, _, hc⟩ := row_at (Kd.below H.out hnx) hx'
      obtain ⟨x0, x1⟩ := x
      have hi2 : kEntry.is false wr B C (mtext (r), mks kPosting x1 (r + 1)) := hi
      obtain ⟨a1, c1, T1, rfl, g0, l1, r1, s1⟩ := kEntry_open hi2
      have A0 : wr.cell? ⟨b, off + k * 2, none⟩ = some (.string (mtext (r))) := (hc 0 _ rfl).1
      have A1 : wr.cell? ⟨b, off + k * 2 + 1, none⟩ = some (.slice a1 (mks kPosting x1 (r + 1)).length c1) := (hc 1 _ rfl).1
      have HCX : Hid (kEntry.cnt (x0, x1) = 1 + (sums kPosting.cnt x1)) := rfl
      have R1 : Hid ((kRow kPosting).is false wr T1 [.slice a1 (mks kPosting x1 (r + 1)).length c1] (mks kPosting x1 (r + 1))) := r1
      have i0 : (0 : Int) ≤ (k : Int) := by omega
      have i1 : (k : Int) < (n : Int) := by omega
      have bd : r + 1 + (sums kPosting.cnt x1 : Nat) ≤ 2 ^ 31 := by have h1 := HB.out; have h2 := HCX.out; omega
      have hbr : Below wr.heap.size wr wr := Below.refl _ _
      clear hc hx hx' hi hi2 r1 l1 g0
      go_wp2_with fail
      have q0 : b < wr.heap.size := World.block_lt_of_cell? _ _ A0
      go_region_held3 (fun w' => w'.cell? ⟨b, off + k * 2, none⟩ = some (.string (mtext (r)))) (first | exact A0 | exact (hc0 _ _ q0).trans A0)
        (first | (go_at_call 52; refine (markText_any _ _ (by omega) (by omega)).mono ?_; rintro e w1 ⟨rfl, hb1⟩; obtain ⟨hc0, hf0⟩ := bcell hb1))
      have Z0 : Below wr.heap.size wr w1 := (Below.refl _ _).drew.trans hb1
      have A1_0 : w1.cell? ⟨b, off + k * 2 + 1, none⟩ = some (.slice a1 (mks kPosting x1 (r + 1)).length c1) := cell_later Z0 A1
      have R1_0 : Hid ((kRow kPosting).is false w1 T1 [.slice a1 (mks kPosting x1 (r + 1)).length c1] (mks kPosting x1 (r + 1))) := Kd.below R1.out Z0
      have hbr_0 : Below wr.heap.size wr w1 := hbr.trans (Z0.mono hbr.size)
      clear Z0 hb1 hc0 hf0 q0 A0 A1
      go_wp2_with fail
      refine (heldPostingS_k x1 a1 _ c1 T1 _ _ (by omega) (by omega) R1_0.out).mono ?_
      rintro e w2 ⟨rfl, hb2⟩
      have Z1 : Below w1.heap.size w1 w2 := hb2
      have nz1 : ¬ (r + 1 + (sums kPosting.cnt x1 : Nat) < 0) := by omega
      have hbr_1 : Below wr.heap.size wr w2 := hbr_0.trans (Z1.mono hbr_0.size)
      clear Z1 hb2 A1_0
      go_wp2_with fail
      go_roundw
      case rel => exact ⟨k + 1, r + 1 + (sums kPosting.cnt x1 : Nat), by omega, by go_num, by first | rfl | go_num, by omega, bd, by show _ = _; have h1 := HN.out; have h2 := HR.out; have h3 := HCX.out; omega, hnx.trans (hbr_1.mono hnx.size)⟩
      case measure => simp [intOf]; omega
    · go_wp2
      go_ret
      obtain rfl : k = n := by omega
      have h1 := HR.out
      rw [HNL.out, List.take_length] at h1
      exact ⟨by rw [h1]; rfl, hnx⟩

/-- What is marked behind a Entry by value: how many marks, and the marks. -/
def hEntry_cnt : DEntry → Nat := fun ⟨x0, x1⟩ => 0 + (sums kPosting.cnt x1)
def hEntry_mrk : DEntry → Int → DEntry := fun ⟨x0, x1⟩ k0 => (x0, mks kPosting x1 (k0))
theorem cntle_Entry (x : DEntry) : kEntry.cnt x ≤ 10 * (1 + kEntry.sz x) := by
  obtain ⟨x0, x1⟩ := x
  have h1 := sums_le_of kPosting.cnt kPosting.sz 10 cntle_Posting x1
  show 1 + (sums kPosting.cnt x1) ≤ 10 * (1 + (x0.size + ((x1.length + sums kPosting.sz x1))))
  omega
theorem cnt_EntryS {l : List DEntry} (h : (kRow kEntry).sz l ≤ 2 ^ 20) : sums kEntry.cnt l ≤ 2 ^ 26 := by
  have h1 := sums_le_of kEntry.cnt kEntry.sz 10 cntle_Entry l
  have h2 : l.length + sums kEntry.sz l ≤ 2 ^ 20 := h
  omega
theorem cnt_Entry {x : DEntry} (h : kEntry.sz x ≤ 2 ^ 20) : hEntry_cnt x ≤ 2 ^ 26 := by
  obtain ⟨x0, x1⟩ := x
  have h1 := sums_le_of kPosting.cnt kPosting.sz 10 cntle_Posting x1
  have h' : x0.size + ((x1.length + sums kPosting.sz x1)) ≤ 2 ^ 20 := h
  show 0 + (sums kPosting.cnt x1) ≤ 2 ^ 26
  omega

end Go.Proofs.Ytdaomklgcdfllaa
