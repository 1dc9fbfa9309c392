/- A filter that came in: weighed. No condition. A filter that came in: weighed as a whole. No condition. -/
import Derived.Test.YtjohocnfcnjciaaGreatDoorFilM
namespace Go.Proofs.YtjohocnfcnjciaaGreatDoor
open Go.RowKit
set_option linter.unusedVariables false

set_option maxHeartbeats 400000 in
theorem szIntS_left (a : Option Addr) (c m : Nat) (left : Int) (hl0 : 0 ≤ left) (hl1 : left ≤ 2 ^ 20) (w : World) (hm : m ≤ maxLen) :
    Calls Tryz.prog 76 #[.slice a m c, .int .i64 left] w fun e w' => ∃ r : Int, e = .returned (.int .i64 r) ∧ (r = -1 ∨ (0 ≤ r ∧ r ≤ 2 ^ 20 ∧ m ≤ 2 ^ 20)) ∧ Below w.heap.size w w' := by
  unfold maxLen at hm
  by_cases c0 : left - (m : Int) < 0
  · go_enter Tryz.func76, Tryz.ntmps76
    go_wp2
    go_ret
    exact ⟨-1, rfl, .inl rfl, by go_grown⟩
  · go_enter Tryz.func76, Tryz.ntmps76
    go_wp2
    go_ret
    exact ⟨_, rfl, .inr ⟨by omega, by omega, by omega⟩, by go_grown⟩

set_option maxHeartbeats 1000000 in
theorem szTerm_any (y : Tm) (va ka : Option Addr) (vc kc : Nat) (left : Int) (hl0 : 0 ≤ left) (hl1 : left ≤ 2 ^ 20) (w : World) (hz : BigT y) (hv : ArgIs w va y.n y.N) :
    Calls Tryz.prog 47 #[.agg #[.int .i64 y.kind, .string y.path, .slice va y.n vc, .slice ka y.m kc], .int .i64 left] w fun e w' => ∃ r : Int, e = .returned (.int .i64 r) ∧ (r = -1 ∨ (0 ≤ r ∧ r ≤ 2 ^ 20 ∧ SmallT y)) ∧ Below w.heap.size w w' := by
  obtain ⟨k, p, n, N, m, K⟩ := y
  dsimp only at hv ⊢
  obtain ⟨z1, z2, z3, z4⟩ := hz
  dsimp only at z1 z2 z3 z4
  have HV : Hid (ArgIs w va n N) := hv
  have HZ : Hid (∀ i, i < n → (N i).text.size ≤ maxLen ∧ (N i).name.size ≤ maxLen) := z3
  have HN : Hid (n ≤ maxLen) := z2
  have HM : Hid (m ≤ maxLen) := z4
  clear hv z3 z2 z4
  unfold maxLen at z1
  by_cases c0 : left - (p.size : Int) < 0
  · go_enter Tryz.func47, Tryz.ntmps47
    go_wp2
    go_ret
    exact ⟨-1, rfl, .inl rfl, by go_grown⟩
  · have HP : Hid (p.size ≤ 2 ^ 20) := by show p.size ≤ 2 ^ 20; omega
    have hl2 : 0 ≤ left - (p.size : Int) := by omega
    have hl3 : left - (p.size : Int) ≤ 2 ^ 20 := by omega
    go_enter Tryz.func47, Tryz.ntmps47
    go_wp2_with fail
    have hbl : ∀ o, Below w.heap.size w (w.alloc o) := fun o => (Below.refl _ _).alloc (Nat.le_refl _) o
    refine (szValue_left va vc n N _ hl2 hl3 _ HN.out (HV.out.below (hbl _)) HZ.out).mono ?_
    rintro e w1 ⟨r, rfl, hr, hb⟩
    have x1 : w1.cell? ⟨w.heap.size, 3, none⟩ = some (.slice ka m kc) := by rw [hb.cell (by simp)]; simp [go_sem]
    have HB : Hid (Below w.heap.size w w1) := (hbl _).trans (hb.mono (by simp))
    clear hb hbl
    rcases hr with rfl | ⟨r0, r20, hs⟩
    · go_wp2
      go_ret
      exact ⟨-1, rfl, .inl rfl, HB.out⟩
    · have HS : Hid (SmallN n N) := hs
      clear hs
      have r1 : ¬ r < 0 := by omega
      go_wp2_with fail
      refine (szIntS_left ka kc m r r0 r20 _ HM.out).mono ?_
      rintro e w2 ⟨q, rfl, hq, hb2⟩
      have HB2 : Hid (Below w.heap.size w w2) := HB.out.trans (hb2.mono HB.out.size)
      clear hb2
      rcases hq with rfl | ⟨q0, q20, hm⟩
      · go_wp2
        go_ret
        exact ⟨-1, rfl, .inl rfl, HB2.out⟩
      · have q1 : ¬ q < 0 := by omega
        go_wp2
        go_ret
        exact ⟨q, rfl, .inr ⟨q0, q20, HP.out, HS.out, hm⟩, HB2.out⟩

set_option maxHeartbeats 1000000 in
theorem szTermS_left (a : Option Addr) (c t : Nat) (F : Nat → Tm) (left : Int) (hl0 : 0 ≤ left) (hl1 : left ≤ 2 ^ 20) (w : World) (ht : t ≤ maxLen) (h : FArg w a t F) (hz : ∀ i, i < t → BigT (F i)) :
    Calls Tryz.prog 27 #[.slice a t c, .int .i64 left] w fun e w' => ∃ r : Int, e = .returned (.int .i64 r) ∧ (r = -1 ∨ (0 ≤ r ∧ r ≤ 2 ^ 20 ∧ SmallF t F)) ∧ Below w.heap.size w w' := by
  have HZ : Hid (∀ i, i < t → BigT (F i)) := hz
  have H : Hid (FArg w a t F) := h
  clear hz h
  unfold maxLen at ht
  by_cases c0 : left - (t : Int) < 0
  · go_enter Tryz.func27, Tryz.ntmps27
    go_wp2
    go_ret
    exact ⟨-1, rfl, .inl rfl, by go_grown⟩
  · go_enter Tryz.func27, Tryz.ntmps27
    go_wp2_with fail
    go_loopw [1, 5] (fun q i wr => ∃ (k : Nat) (r : Int), k ≤ t ∧ i = .int .i64 k ∧ q = .int .i64 r ∧ 0 ≤ r ∧ r ≤ 2 ^ 20 ∧ Hid (∀ j, j < k → SmallT (F j)) ∧ Below w.heap.size w wr) (fun _ i _ => t - (intOf i).toNat)
    case atStart => exact ⟨0, _, Nat.zero_le _, rfl, rfl, by omega, by omega, fun j hj => by omega, Below.refl _ _⟩
    case round =>
      obtain ⟨k, r, hk, rfl, rfl, hr0, hr1, HJ, hnx⟩ := hrel
      by_cases hlt : k < t
      · obtain ⟨b, off, va, vc, ka, kc, rfl, hb, a0, a1, a2, a3, hv, _⟩ := (H.out.below hnx).at hlt
        have i0 : (0 : Int) ≤ (k : Int) := by omega
        have i1 : (k : Int) < (t : Int) := by omega
        have HV : Hid (ArgIs wr va (F k).n (F k).N) := hv
        clear hv
        go_wp2_with fail
        refine (szTerm_any (F k) va ka vc kc r hr0 hr1 _ (HZ.out k hlt) HV.out).mono ?_
        rintro e w1 ⟨q, rfl, hq, hb1⟩
        have HB : Hid (Below w.heap.size w w1) := hnx.trans (hb1.mono hnx.size)
        clear hb1
        rcases hq with rfl | ⟨q0, q1, q2⟩
        · go_wp2
          go_ret
          exact ⟨-1, rfl, .inl rfl, HB.out⟩
        · have HJ' : Hid (∀ j, j < k + 1 → SmallT (F j)) := fun j hj => by
            by_cases e : j = k
            · subst e; exact q2
            · exact HJ.out j (by omega)
          clear q2
          go_wp2
          go_roundw
          case rel => exact ⟨k + 1, q, by omega, by go_num, rfl, q0, by omega, HJ', HB.out⟩
          case measure => simp [intOf]; omega
      · go_wp2
        go_ret
        obtain rfl : k = t := by omega
        exact ⟨r, rfl, .inr ⟨hr0, hr1, by omega, HJ.out⟩, hnx⟩

set_option maxHeartbeats 400000 in
theorem szFilter_left (a : Option Addr) (c t : Nat) (F : Nat → Tm) (left : Int) (hl0 : 0 ≤ left) (hl1 : left ≤ 2 ^ 20) (w : World) (ht : t ≤ maxLen) (h : FArg w a t F) (hz : ∀ i, i < t → BigT (F i)) :
    Calls Tryz.prog 6 #[.agg #[.slice a t c], .int .i64 left] w fun e w' => ∃ r : Int, e = .returned (.int .i64 r) ∧ (r = -1 ∨ (0 ≤ r ∧ r ≤ 2 ^ 20 ∧ SmallF t F)) ∧ Below w.heap.size w w' := by
  have HZ : Hid (∀ i, i < t → BigT (F i)) := hz
  have H : Hid (FArg w a t F) := h
  clear hz h
  go_enter Tryz.func6, Tryz.ntmps6
  go_wp2_with fail
  refine (szTermS_left a c t F left hl0 hl1 _ ht (H.out.below (by go_grown)) HZ.out).mono ?_
  rintro e w1 ⟨r, rfl, hr, hb⟩
  have HB : Hid (Below w.heap.size w w1) := (show Below w.heap.size w _ by go_grown).trans (hb.mono (by simp))
  clear hb
  rcases hr with rfl | ⟨r0, r20, hs⟩
  · go_wp2
    go_ret
    exact ⟨-1, rfl, .inl rfl, HB.out⟩
  · have HS : Hid (SmallF t F) := hs
    clear hs
    have r1 : ¬ r < 0 := by omega
    go_wp2
    go_ret
    exact ⟨r, rfl, .inr ⟨r0, r20, HS.out⟩, HB.out⟩

end Go.Proofs.YtjohocnfcnjciaaGreatDoor
namespace Go.Proofs.YtjohocnfcnjciaaGreatDoor
open Go.RowKit
set_option linter.unusedVariables false

/-- What a filter weighs. -/
def totF (F : Nat → Tm) : Nat → Nat
  | 0 => 0
  | i + 1 => totF F i + (F i).n + (F i).m

set_option maxHeartbeats 400000 in
theorem szIntS_less (a : Option Addr) (c m : Nat) (left : Int) (hl0 : 0 ≤ left) (hl1 : left ≤ 2 ^ 20) (w : World) (hm : m ≤ maxLen) :
    Calls Tryz.prog 76 #[.slice a m c, .int .i64 left] w fun e w' => ∃ r : Int, e = .returned (.int .i64 r) ∧ (r = -1 ∨ (0 ≤ r ∧ r + m ≤ left)) ∧ Below w.heap.size w w' := by
  unfold maxLen at hm
  by_cases c0 : left - (m : Int) < 0
  · go_enter Tryz.func76, Tryz.ntmps76
    go_wp2
    go_ret
    exact ⟨-1, rfl, .inl rfl, by go_grown⟩
  · go_enter Tryz.func76, Tryz.ntmps76
    go_wp2
    go_ret
    exact ⟨_, rfl, .inr ⟨by omega, by omega⟩, by go_grown⟩
set_option maxHeartbeats 1000000 in
theorem szNodeS_less (a : Option Addr) (c n : Nat) (N : Nat → Nd) (left : Int) (hl0 : 0 ≤ left) (hl1 : left ≤ 2 ^ 20) (w : World) (hn : n ≤ maxLen) (h : ArgIs w a n N) (hz : ∀ i, i < n → (N i).text.size ≤ maxLen ∧ (N i).name.size ≤ maxLen) :
    Calls Tryz.prog 28 #[.slice a n c, .int .i64 left] w fun e w' => ∃ r : Int, e = .returned (.int .i64 r) ∧ (r = -1 ∨ (0 ≤ r ∧ r + n ≤ left ∧ SmallN n N)) ∧ Below w.heap.size w w' := by
  have HZ : Hid (∀ i, i < n → (N i).text.size ≤ maxLen ∧ (N i).name.size ≤ maxLen) := hz
  have H : Hid (ArgIs w a n N) := h
  clear hz h
  unfold maxLen at hn
  by_cases c0 : left - (n : Int) < 0
  · go_enter Tryz.func28, Tryz.ntmps28
    go_wp2
    go_ret
    exact ⟨-1, rfl, .inl rfl, by go_grown⟩
  · go_enter Tryz.func28, Tryz.ntmps28
    go_wp2_with fail
    go_loopw [1, 5] (fun q i wr => ∃ (k : Nat) (r : Int), k ≤ n ∧ i = .int .i64 k ∧ q = .int .i64 r ∧ 0 ≤ r ∧ r + n ≤ left ∧ Hid (∀ j, j < k → (N j).text.size ≤ 2 ^ 20 ∧ (N j).name.size ≤ 2 ^ 20) ∧ Below w.heap.size w wr) (fun _ i _ => n - (intOf i).toNat)
    case atStart => exact ⟨0, _, Nat.zero_le _, rfl, rfl, by omega, by omega, fun j hj => by omega, Below.refl _ _⟩
    case round =>
      obtain ⟨k, r, hk, rfl, rfl, hr0, hr1, HJ, hnx⟩ := hrel
      by_cases hlt : k < n
      · rcases H.out with h0 | ⟨b, off, rfl, hb, hat⟩
        · omega
        obtain ⟨a0, a1, a2, a3, a4⟩ := hat.below hnx hb k hlt
        have i0 : (0 : Int) ≤ (k : Int) := by omega
        have i1 : (k : Int) < (n : Int) := by omega
        obtain ⟨t0, t1⟩ := HZ.out k hlt
        clear hat
        go_wp2_with fail
        refine (szNode_any _ _ _ _ _ _ _ hr0 (by omega) t0 t1).mono ?_
        rintro e w1 ⟨q, rfl, hq, hb1⟩
        have HB : Hid (Below w.heap.size w w1) := hnx.trans (hb1.mono hnx.size)
        clear hb1
        rcases hq with rfl | ⟨q0, q1, q2, q3⟩
        · go_wp2
          go_ret
          exact ⟨-1, rfl, .inl rfl, HB.out⟩
        · have HJ' : Hid (∀ j, j < k + 1 → (N j).text.size ≤ 2 ^ 20 ∧ (N j).name.size ≤ 2 ^ 20) := fun j hj => by
            by_cases e : j = k
            · subst e; exact ⟨q2, q3⟩
            · exact HJ.out j (by omega)
          go_wp2
          go_roundw
          case rel => exact ⟨k + 1, q, by omega, by go_num, rfl, q0, by omega, HJ', HB.out⟩
          case measure => simp [intOf]; omega
      · go_wp2
        go_ret
        obtain rfl : k = n := by omega
        exact ⟨r, rfl, .inr ⟨hr0, hr1, by omega, HJ.out⟩, hnx⟩

set_option maxHeartbeats 400000 in
theorem szValue_less (a : Option Addr) (c n : Nat) (N : Nat → Nd) (left : Int) (hl0 : 0 ≤ left) (hl1 : left ≤ 2 ^ 20) (w : World) (hn : n ≤ maxLen) (h : ArgIs w a n N) (hz : ∀ i, i < n → (N i).text.size ≤ maxLen ∧ (N i).name.size ≤ maxLen) :
    Calls Tryz.prog 7 #[.agg #[.slice a n c], .int .i64 left] w fun e w' => ∃ r : Int, e = .returned (.int .i64 r) ∧ (r = -1 ∨ (0 ≤ r ∧ r + n ≤ left ∧ SmallN n N)) ∧ Below w.heap.size w w' := by
  have HZ : Hid (∀ i, i < n → (N i).text.size ≤ maxLen ∧ (N i).name.size ≤ maxLen) := hz
  have H : Hid (ArgIs w a n N) := h
  clear hz h
  go_enter Tryz.func7, Tryz.ntmps7
  go_wp2_with fail
  refine (szNodeS_less a c n N left hl0 hl1 _ hn (H.out.below (by go_grown)) HZ.out).mono ?_
  rintro e w1 ⟨r, rfl, hr, hb⟩
  have HB : Hid (Below w.heap.size w w1) := (show Below w.heap.size w _ by go_grown).trans (hb.mono (by simp))
  clear hb
  rcases hr with rfl | ⟨r0, r20, hs⟩
  · go_wp2
    go_ret
    exact ⟨-1, rfl, .inl rfl, HB.out⟩
  · have HS : Hid (SmallN n N) := hs
    clear hs
    have r1 : ¬ r < 0 := by omega
    go_wp2
    go_ret
    exact ⟨r, rfl, .inr ⟨r0, r20, HS.out⟩, HB.out⟩

set_option maxHeartbeats 1000000 in
theorem szTerm_less (y : Tm) (va ka : Option Addr) (vc kc : Nat) (left : Int) (hl0 : 0 ≤ left) (hl1 : left ≤ 2 ^ 20) (w : World) (hz : BigT y) (hv : ArgIs w va y.n y.N) :
    Calls Tryz.prog 47 #[.agg #[.int .i64 y.kind, .string y.path, .slice va y.n vc, .slice ka y.m kc], .int .i64 left] w fun e w' => ∃ r : Int, e = .returned (.int .i64 r) ∧ (r = -1 ∨ (0 ≤ r ∧ r + y.n + y.m ≤ left ∧ SmallT y)) ∧ Below w.heap.size w w' := by
  obtain ⟨k, p, n, N, m, K⟩ := y
  dsimp only at hv ⊢
  obtain ⟨z1, z2, z3, z4⟩ := hz
  dsimp only at z1 z2 z3 z4
  have HV : Hid (ArgIs w va n N) := hv
  have HZ : Hid (∀ i, i < n → (N i).text.size ≤ maxLen ∧ (N i).name.size ≤ maxLen) := z3
  have HN : Hid (n ≤ maxLen) := z2
  have HM : Hid (m ≤ maxLen) := z4
  clear hv z3 z2 z4
  unfold maxLen at z1
  by_cases c0 : left - (p.size : Int) < 0
  · go_enter Tryz.func47, Tryz.ntmps47
    go_wp2
    go_ret
    exact ⟨-1, rfl, .inl rfl, by go_grown⟩
  · have HP : Hid (p.size ≤ 2 ^ 20) := by show p.size ≤ 2 ^ 20; omega
    have hl2 : 0 ≤ left - (p.size : Int) := by omega
    have hl3 : left - (p.size : Int) ≤ 2 ^ 20 := by omega
    go_enter Tryz.func47, Tryz.ntmps47
    go_wp2_with fail
    have hbl : ∀ o, Below w.heap.size w (w.alloc o) := fun o => (Below.refl _ _).alloc (Nat.le_refl _) o
    refine (szValue_less va vc n N _ hl2 hl3 _ HN.out (HV.out.below (hbl _)) HZ.out).mono ?_
    rintro e w1 ⟨r, rfl, hr, hb⟩
    have x1 : w1.cell? ⟨w.heap.size, 3, none⟩ = some (.slice ka m kc) := by rw [hb.cell (by simp)]; simp [go_sem]
    have HB : Hid (Below w.heap.size w w1) := (hbl _).trans (hb.mono (by simp))
    clear hb hbl
    rcases hr with rfl | ⟨r0, r20, hs⟩
    · go_wp2
      go_ret
      exact ⟨-1, rfl, .inl rfl, HB.out⟩
    · have HS : Hid (SmallN n N) := hs
      clear hs
      have r1 : ¬ r < 0 := by omega
      go_wp2_with fail
      refine (szIntS_less ka kc m r r0 (by omega) _ HM.out).mono ?_
      rintro e w2 ⟨q, rfl, hq, hb2⟩
      have HB2 : Hid (Below w.heap.size w w2) := HB.out.trans (hb2.mono HB.out.size)
      clear hb2
      rcases hq with rfl | ⟨q0, q20⟩
      · go_wp2
        go_ret
        exact ⟨-1, rfl, .inl rfl, HB2.out⟩
      · have q1 : ¬ q < 0 := by omega
        go_wp2
        go_ret
        exact ⟨q, rfl, .inr ⟨q0, by omega, HP.out, HS.out, by show m ≤ 2 ^ 20; omega⟩, HB2.out⟩

set_option maxHeartbeats 1000000 in
theorem szTermS_less (a : Option Addr) (c t : Nat) (F : Nat → Tm) (left : Int) (hl0 : 0 ≤ left) (hl1 : left ≤ 2 ^ 20) (w : World) (ht : t ≤ maxLen) (h : FArg w a t F) (hz : ∀ i, i < t → BigT (F i)) :
    Calls Tryz.prog 27 #[.slice a t c, .int .i64 left] w fun e w' => ∃ r : Int, e = .returned (.int .i64 r) ∧ (r = -1 ∨ (0 ≤ r ∧ r + totF F t ≤ left ∧ SmallF t F)) ∧ Below w.heap.size w w' := by
  have HZ : Hid (∀ i, i < t → BigT (F i)) := hz
  have H : Hid (FArg w a t F) := h
  clear hz h
  unfold maxLen at ht
  by_cases c0 : left - (t : Int) < 0
  · go_enter Tryz.func27, Tryz.ntmps27
    go_wp2
    go_ret
    exact ⟨-1, rfl, .inl rfl, by go_grown⟩
  · go_enter Tryz.func27, Tryz.ntmps27
    go_wp2_with fail
    go_loopw [1, 5] (fun q i wr => ∃ (k : Nat) (r : Int), k ≤ t ∧ i = .int .i64 k ∧ q = .int .i64 r ∧ 0 ≤ r ∧ r + totF F k ≤ left ∧ Hid (∀ j, j < k → SmallT (F j)) ∧ Below w.heap.size w wr) (fun _ i _ => t - (intOf i).toNat)
    case atStart => exact ⟨0, _, Nat.zero_le _, rfl, rfl, by omega, by simp only [totF]; omega, fun j hj => by omega, Below.refl _ _⟩
    case round =>
      obtain ⟨k, r, hk, rfl, rfl, hr0, hr1, HJ, hnx⟩ := hrel
      by_cases hlt : k < t
      · obtain ⟨b, off, va, vc, ka, kc, rfl, hb, a0, a1, a2, a3, hv, _⟩ := (H.out.below hnx).at hlt
        have i0 : (0 : Int) ≤ (k : Int) := by omega
        have i1 : (k : Int) < (t : Int) := by omega
        have HV : Hid (ArgIs wr va (F k).n (F k).N) := hv
        clear hv
        go_wp2_with fail
        refine (szTerm_less (F k) va ka vc kc r hr0 (by omega) _ (HZ.out k hlt) HV.out).mono ?_
        rintro e w1 ⟨q, rfl, hq, hb1⟩
        have HB : Hid (Below w.heap.size w w1) := hnx.trans (hb1.mono hnx.size)
        clear hb1
        rcases hq with rfl | ⟨q0, q1, q2⟩
        · go_wp2
          go_ret
          exact ⟨-1, rfl, .inl rfl, HB.out⟩
        · have HJ' : Hid (∀ j, j < k + 1 → SmallT (F j)) := fun j hj => by
            by_cases e : j = k
            · subst e; exact q2
            · exact HJ.out j (by omega)
          clear q2
          go_wp2
          go_roundw
          case rel => exact ⟨k + 1, q, by omega, by go_num, rfl, q0, by simp only [totF]; omega, HJ', HB.out⟩
          case measure => simp [intOf]; omega
      · go_wp2
        go_ret
        obtain rfl : k = t := by omega
        exact ⟨r, rfl, .inr ⟨hr0, hr1, by omega, HJ.out⟩, hnx⟩

set_option maxHeartbeats 400000 in
theorem szFilter_less (a : Option Addr) (c t : Nat) (F : Nat → Tm) (left : Int) (hl0 : 0 ≤ left) (hl1 : left ≤ 2 ^ 20) (w : World) (ht : t ≤ maxLen) (h : FArg w a t F) (hz : ∀ i, i < t → BigT (F i)) :
    Calls Tryz.prog 6 #[.agg #[.slice a t c], .int .i64 left] w fun e w' => ∃ r : Int, e = .returned (.int .i64 r) ∧ (r = -1 ∨ (0 ≤ r ∧ r + totF F t ≤ left ∧ SmallF t F)) ∧ Below w.heap.size w w' := by
  have HZ : Hid (∀ i, i < t → BigT (F i)) := hz
  have H : Hid (FArg w a t F) := h
  clear hz h
  go_enter Tryz.func6, Tryz.ntmps6
  go_wp2_with fail
  refine (szTermS_less a c t F left hl0 hl1 _ ht (H.out.below (by go_grown)) HZ.out).mono ?_
  rintro e w1 ⟨r, rfl, hr, hb⟩
  have HB : Hid (Below w.heap.size w w1) := (show Below w.heap.size w _ by go_grown).trans (hb.mono (by simp))
  clear hb
  rcases hr with rfl | ⟨r0, r20, hs⟩
  · go_wp2
    go_ret
    exact ⟨-1, rfl, .inl rfl, HB.out⟩
  · have HS : Hid (SmallF t F) := hs
    clear hs
    have r1 : ¬ r < 0 := by omega
    go_wp2
    go_ret
    exact ⟨r, rfl, .inr ⟨r0, r20, HS.out⟩, HB.out⟩

end Go.Proofs.YtjohocnfcnjciaaGreatDoor
