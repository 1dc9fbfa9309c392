/- A filter that came in: weighed. No condition. Two filters that say the same, held against each other. No condition. A copied filter reads as the one that came in. -/
import Derived.Test.YtjbjgkkkkghcgaaGreatDoorQClT
import Derived.Test.YtjbjgkkkkghcgaaGreatDoorQFilTo
namespace Go.Proofs.YtjbjgkkkkghcgaaGreatDoor
open Go.RowKit
set_option linter.unusedVariables false

set_option maxHeartbeats 400000 in
theorem szIntS_left (a : Option Addr) (c m : Nat) (left : Int) (hl0 : 0 ≤ left) (hl1 : left ≤ 2 ^ 20) (w : World) (hm : m ≤ maxLen) :
    Calls Tryz.prog 39 #[.slice a m c, .int .i64 left] w fun e w' => ∃ r : Int, e = .returned (.int .i64 r) ∧ (r = -1 ∨ (0 ≤ r ∧ r ≤ 2 ^ 20 ∧ m ≤ 2 ^ 20)) ∧ Below w.heap.size w w' := by
  unfold maxLen at hm
  by_cases c0 : left - (m : Int) < 0
  · go_enter Tryz.func39, Tryz.ntmps39
    go_wp2
    go_ret
    exact ⟨-1, rfl, .inl rfl, by go_grown⟩
  · go_enter Tryz.func39, Tryz.ntmps39
    go_wp2
    go_ret
    exact ⟨_, rfl, .inr ⟨by omega, by omega, by omega⟩, by go_grown⟩

set_option maxHeartbeats 1000000 in
theorem szTerm_any (y : Tm) (va ka : Option Addr) (vc kc : Nat) (left : Int) (hl0 : 0 ≤ left) (hl1 : left ≤ 2 ^ 20) (w : World) (hz : BigT y) (hv : ArgIs w va y.n y.N) :
    Calls Tryz.prog 19 #[.agg #[.int .i64 y.kind, .string y.path, .slice va y.n vc, .slice ka y.m kc], .int .i64 left] w fun e w' => ∃ r : Int, e = .returned (.int .i64 r) ∧ (r = -1 ∨ (0 ≤ r ∧ r ≤ 2 ^ 20 ∧ SmallT y)) ∧ Below w.heap.size w w' := by
  obtain ⟨k, p, n, N, m, K⟩ := y
  dsimp only at hv ⊢
  obtain ⟨z1, z2, z3, z4⟩ := hz
  dsimp only at z1 z2 z3 z4
  have HV : Hid (ArgIs w va n N) := hv
  have HZ : Hid (∀ i, i < n → (N i).text.size ≤ maxLen ∧ (N i).name.size ≤ maxLen) := z3
  have HN : Hid (n ≤ maxLen) := z2
  have HM : Hid (m ≤ maxLen) := z4
  clear hv z3 z2 z4
  unfold maxLen at z1
  by_cases c0 : left - (p.size : Int) < 0
  · go_enter Tryz.func19, Tryz.ntmps19
    go_wp2
    go_ret
    exact ⟨-1, rfl, .inl rfl, by go_grown⟩
  · have HP : Hid (p.size ≤ 2 ^ 20) := by show p.size ≤ 2 ^ 20; omega
    have hl2 : 0 ≤ left - (p.size : Int) := by omega
    have hl3 : left - (p.size : Int) ≤ 2 ^ 20 := by omega
    go_enter Tryz.func19, Tryz.ntmps19
    go_wp2_with fail
    have hbl : ∀ o, Below w.heap.size w (w.alloc o) := fun o => (Below.refl _ _).alloc (Nat.le_refl _) o
    refine (szValue_left va vc n N _ hl2 hl3 _ HN.out (HV.out.below (hbl _)) HZ.out).mono ?_
    rintro e w1 ⟨r, rfl, hr, hb⟩
    have x1 : w1.cell? ⟨w.heap.size, 3, none⟩ = some (.slice ka m kc) := by rw [hb.cell (by simp)]; simp [go_sem]
    have HB : Hid (Below w.heap.size w w1) := (hbl _).trans (hb.mono (by simp))
    clear hb hbl
    rcases hr with rfl | ⟨r0, r20, hs⟩
    · go_wp2
      go_ret
      exact ⟨-1, rfl, .inl rfl, HB.out⟩
    · have HS : Hid (SmallN n N) := hs
      clear hs
      have r1 : ¬ r < 0 := by omega
      go_wp2_with fail
      refine (szIntS_left ka kc m r r0 r20 _ HM.out).mono ?_
      rintro e w2 ⟨q, rfl, hq, hb2⟩
      have HB2 : Hid (Below w.heap.size w w2) := HB.out.trans (hb2.mono HB.out.size)
      clear hb2
      rcases hq with rfl | ⟨q0, q20, hm⟩
      · go_wp2
        go_ret
        exact ⟨-1, rfl, .inl rfl, HB2.out⟩
      · have q1 : ¬ q < 0 := by omega
        go_wp2
        go_ret
        exact ⟨q, rfl, .inr ⟨q0, q20, HP.out, HS.out, hm⟩, HB2.out⟩

set_option maxHeartbeats 1000000 in
theorem szTermS_left (a : Option Addr) (c t : Nat) (F : Nat → Tm) (left : Int) (hl0 : 0 ≤ left) (hl1 : left ≤ 2 ^ 20) (w : World) (ht : t ≤ maxLen) (h : FArg w a t F) (hz : ∀ i, i < t → BigT (F i)) :
    Calls Tryz.prog 9 #[.slice a t c, .int .i64 left] w fun e w' => ∃ r : Int, e = .returned (.int .i64 r) ∧ (r = -1 ∨ (0 ≤ r ∧ r ≤ 2 ^ 20 ∧ SmallF t F)) ∧ Below w.heap.size w w' := by
  have HZ : Hid (∀ i, i < t → BigT (F i)) := hz
  have H : Hid (FArg w a t F) := h
  clear hz h
  unfold maxLen at ht
  by_cases c0 : left - (t : Int) < 0
  · go_enter Tryz.func9, Tryz.ntmps9
    go_wp2
    go_ret
    exact ⟨-1, rfl, .inl rfl, by go_grown⟩
  · go_enter Tryz.func9, Tryz.ntmps9
    go_wp2_with fail
    go_loopw [1, 5] (fun q i wr => ∃ (k : Nat) (r : Int), k ≤ t ∧ i = .int .i64 k ∧ q = .int .i64 r ∧ 0 ≤ r ∧ r ≤ 2 ^ 20 ∧ Hid (∀ j, j < k → SmallT (F j)) ∧ Below w.heap.size w wr) (fun _ i _ => t - (intOf i).toNat)
    case atStart => exact ⟨0, _, Nat.zero_le _, rfl, rfl, by omega, by omega, fun j hj => by omega, Below.refl _ _⟩
    case round =>
      obtain ⟨k, r, hk, rfl, rfl, hr0, hr1, HJ, hnx⟩ := hrel
      by_cases hlt : k < t
      · obtain ⟨b, off, va, vc, ka, kc, rfl, hb, a0, a1, a2, a3, hv, _⟩ := (H.out.below hnx).at hlt
        have i0 : (0 : Int) ≤ (k : Int) := by omega
        have i1 : (k : Int) < (t : Int) := by omega
        have HV : Hid (ArgIs wr va (F k).n (F k).N) := hv
        clear hv
        go_wp2_with fail
        refine (szTerm_any (F k) va ka vc kc r hr0 hr1 _ (HZ.out k hlt) HV.out).mono ?_
        rintro e w1 ⟨q, rfl, hq, hb1⟩
        have HB : Hid (Below w.heap.size w w1) := hnx.trans (hb1.mono hnx.size)
        clear hb1
        rcases hq with rfl | ⟨q0, q1, q2⟩
        · go_wp2
          go_ret
          exact ⟨-1, rfl, .inl rfl, HB.out⟩
        · have HJ' : Hid (∀ j, j < k + 1 → SmallT (F j)) := fun j hj => by
            by_cases e : j = k
            · subst e; exact q2
            · exact HJ.out j (by omega)
          clear q2
          go_wp2
          go_roundw
          case rel => exact ⟨k + 1, q, by omega, by go_num, rfl, q0, by omega, HJ', HB.out⟩
          case measure => simp [intOf]; omega
      · go_wp2
        go_ret
        obtain rfl : k = t := by omega
        exact ⟨r, rfl, .inr ⟨hr0, hr1, by omega, HJ.out⟩, hnx⟩

set_option maxHeartbeats 400000 in
theorem szFilter_left (a : Option Addr) (c t : Nat) (F : Nat → Tm) (left : Int) (hl0 : 0 ≤ left) (hl1 : left ≤ 2 ^ 20) (w : World) (ht : t ≤ maxLen) (h : FArg w a t F) (hz : ∀ i, i < t → BigT (F i)) :
    Calls Tryz.prog 4 #[.agg #[.slice a t c], .int .i64 left] w fun e w' => ∃ r : Int, e = .returned (.int .i64 r) ∧ (r = -1 ∨ (0 ≤ r ∧ r ≤ 2 ^ 20 ∧ SmallF t F)) ∧ Below w.heap.size w w' := by
  have HZ : Hid (∀ i, i < t → BigT (F i)) := hz
  have H : Hid (FArg w a t F) := h
  clear hz h
  go_enter Tryz.func4, Tryz.ntmps4
  go_wp2_with fail
  refine (szTermS_left a c t F left hl0 hl1 _ ht (H.out.below (by go_grown)) HZ.out).mono ?_
  rintro e w1 ⟨r, rfl, hr, hb⟩
  have HB : Hid (Below w.heap.size w w1) := (show Below w.heap.size w _ by go_grown).trans (hb.mono (by simp))
  clear hb
  rcases hr with rfl | ⟨r0, r20, hs⟩
  · go_wp2
    go_ret
    exact ⟨-1, rfl, .inl rfl, HB.out⟩
  · have HS : Hid (SmallF t F) := hs
    clear hs
    have r1 : ¬ r < 0 := by omega
    go_wp2
    go_ret
    exact ⟨r, rfl, .inr ⟨r0, r20, HS.out⟩, HB.out⟩

end Go.Proofs.YtjbjgkkkkghcgaaGreatDoor
namespace Go.Proofs.YtjbjgkkkkghcgaaGreatDoor
open Go.RowKit
set_option linter.unusedVariables false

set_option maxHeartbeats 400000 in
theorem eqIntS_at (g1 o1 c1 g2 o2 c2 n : Nat) (f : Nat → Int) (w : World) (hn : n ≤ 2 ^ 40) (hb1 : g1 < w.heap.size) (hb2 : g2 < w.heap.size) (h1 : ∀ i, i < n → w.cell? ⟨g1, o1 + i, none⟩ = some (.int .i64 (f i))) (h2 : ∀ i, i < n → w.cell? ⟨g2, o2 + i, none⟩ = some (.int .i64 (f i))) :
    Calls Tryz.prog 53 #[.slice (some ⟨g1, o1, none⟩) n c1, .slice (some ⟨g2, o2, none⟩) n c2] w fun e w' => e = .returned (.bool true) ∧ Below w.heap.size w w' := by
  have H1 : Hid (∀ i, i < n → w.cell? ⟨g1, o1 + i, none⟩ = some (.int .i64 (f i))) := h1
  have H2 : Hid (∀ i, i < n → w.cell? ⟨g2, o2 + i, none⟩ = some (.int .i64 (f i))) := h2
  clear h1 h2
  go_enter Tryz.func53, Tryz.ntmps53
  go_wp2_with fail
  go_loopw [5] (fun i wr => ∃ k : Nat, k ≤ n ∧ i = .int .i64 k ∧ Below w.heap.size w wr) (fun i _ => n - (intOf i).toNat)
  case atStart => exact ⟨0, Nat.zero_le _, rfl, Below.refl _ _⟩
  case round =>
    obtain ⟨k, hk, rfl, hnx⟩ := hrel
    by_cases hlt : k < n
    · have a0 := (hnx.cell hb1).trans (H1.out k hlt)
      have d0 := (hnx.cell hb2).trans (H2.out k hlt)
      have i0 : (0 : Int) ≤ (k : Int) := by omega
      have i1 : (k : Int) < (n : Int) := by omega
      go_wp2_with fail
      go_region_held3 (fun w' => w'.cell? ⟨g1, o1 + k, none⟩ = some (.int .i64 (f k)) ∧ w'.cell? ⟨g2, o2 + k, none⟩ = some (.int .i64 (f k))) (exact ⟨a0, d0⟩) (fail)
      go_wp2
      go_roundw
      case rel => exact ⟨k + 1, by omega, by go_num, hnx.drew⟩
      case measure => simp [intOf]; omega
    · go_wp2
      go_ret
      exact ⟨rfl, hnx⟩

set_option maxHeartbeats 400000 in
theorem eqIntS_zero (a1 a2 : Option Addr) (c1 c2 : Nat) (w : World) :
    Calls Tryz.prog 53 #[.slice a1 0 c1, .slice a2 0 c2] w fun e w' => e = .returned (.bool true) ∧ Below w.heap.size w w' := by
  go_enter Tryz.func53, Tryz.ntmps53
  go_wp2
  go_rounds 1
  go_ret
  exact ⟨rfl, by go_grown⟩

theorem eqIntS_arg (a1 a2 : Option Addr) (c1 c2 n : Nat) (f : Nat → Int) (w : World) (hn : n ≤ 2 ^ 40) (h1 : ArgI w a1 n f) (h2 : ArgI w a2 n f) :
    Calls Tryz.prog 53 #[.slice a1 n c1, .slice a2 n c2] w fun e w' => e = .returned (.bool true) ∧ Below w.heap.size w w' := by
  rcases h1 with rfl | ⟨b1, o1, rfl, q1, h1⟩
  · exact eqIntS_zero a1 a2 c1 c2 w
  · rcases h2 with rfl | ⟨b2, o2, rfl, q2, h2⟩
    · exact eqIntS_zero _ a2 c1 c2 w
    · exact eqIntS_at b1 o1 c1 b2 o2 c2 n f w hn q1 q2 h1 h2


/-- Its lengths are no greater than memory's. -/
def FitT (x : Tm) : Prop := x.n ≤ 2 ^ 40 ∧ x.m ≤ 2 ^ 40
theorem SmallT.fit {x : Tm} (h : SmallT x) : FitT x := ⟨by have := h.2.1.1; omega, by have := h.2.2; omega⟩

set_option maxHeartbeats 1000000 in
theorem eqTerm_same (y : Tm) (va ka va' ka' : Option Addr) (vc kc vc' kc' : Nat) (w : World) (hf : FitT y) (hv : ArgIs w va y.n y.N) (hk : ArgI w ka y.m y.K) (hv' : ArgIs w va' y.n y.N) (hk' : ArgI w ka' y.m y.K) :
    Calls Tryz.prog 37 #[.agg #[.int .i64 y.kind, .string y.path, .slice va y.n vc, .slice ka y.m kc], .agg #[.int .i64 y.kind, .string y.path, .slice va' y.n vc', .slice ka' y.m kc']] w fun e w' => e = .returned (.bool true) ∧ Below w.heap.size w w' := by
  obtain ⟨k, p, n, N, m, K⟩ := y
  obtain ⟨f1, f2⟩ := hf
  dsimp only at hv hk hv' hk' f1 f2 ⊢
  have HV : Hid (ArgIs w va n N) := hv
  have HK : Hid (ArgI w ka m K) := hk
  have HV' : Hid (ArgIs w va' n N) := hv'
  have HK' : Hid (ArgI w ka' m K) := hk'
  have HF : Hid (n ≤ 2 ^ 40 ∧ m ≤ 2 ^ 40) := ⟨f1, f2⟩
  clear hv hk hv' hk' f1 f2
  have hbl0 : ∀ o o', Below w.heap.size w ((w.alloc o).alloc o') := fun o o' => ((Below.refl _ _).alloc (Nat.le_refl _) o).alloc (by simp) o'
  go_enter Tryz.func37, Tryz.ntmps37
  go_wp2_with fail
  refine (eqValue_any _ _ n N _ ((HV.out.below (hbl0 _ _)).slice HF.out.1) ((HV'.out.below (hbl0 _ _)).slice HF.out.1)).mono ?_
  rintro e w1 ⟨rfl, hb⟩
  have x1 : w1.cell? ⟨w.heap.size, 3, none⟩ = some (.slice ka m kc) := by rw [hb.cell (by simp; omega)]; simp [go_sem]
  have y1 : w1.cell? ⟨w.heap.size + 1, 3, none⟩ = some (.slice ka' m kc') := by rw [hb.cell (by simp)]; simp [go_sem]
  have HB : Hid (Below w.heap.size w w1) := (hbl0 _ _).trans (hb.mono (by simp; omega))
  clear hb hbl0
  go_wp2_with fail
  refine (eqIntS_arg ka ka' kc kc' m K _ HF.out.2 (HK.out.below HB.out) (HK'.out.below HB.out)).mono ?_
  rintro e w2 ⟨rfl, hb2⟩
  have HB2 : Hid (Below w.heap.size w w2) := HB.out.trans (hb2.mono HB.out.size)
  clear hb2
  go_wp2
  go_ret
  exact ⟨rfl, HB2.out⟩

set_option maxHeartbeats 2000000 in
theorem eqTermS_same (a1 a2 : Option Addr) (c1 c2 t : Nat) (F : Nat → Tm) (w : World) (ht : t ≤ 2 ^ 40) (hf : ∀ i, i < t → FitT (F i)) (h1 : FArg w a1 t F) (h2 : FArg w a2 t F) :
    Calls Tryz.prog 18 #[.slice a1 t c1, .slice a2 t c2] w fun e w' => e = .returned (.bool true) ∧ Below w.heap.size w w' := by
  have H1 : Hid (FArg w a1 t F) := h1
  have H2 : Hid (FArg w a2 t F) := h2
  have HF : Hid (∀ i, i < t → FitT (F i)) := hf
  clear h1 h2 hf
  go_enter Tryz.func18, Tryz.ntmps18
  go_wp2_with fail
  go_loopw [5] (fun i wr => ∃ k : Nat, k ≤ t ∧ i = .int .i64 k ∧ Below w.heap.size w wr) (fun i _ => t - (intOf i).toNat)
  case atStart => exact ⟨0, Nat.zero_le _, rfl, Below.refl _ _⟩
  case round =>
    obtain ⟨k, hk, rfl, hnx⟩ := hrel
    by_cases hlt : k < t
    · obtain ⟨b, off, va, vc, ka, kc, rfl, hb, a0, a1, a2, a3, hv, hk1⟩ := (H1.out.below hnx).at hlt
      obtain ⟨b', off', va', vc', ka', kc', rfl, hb', d0, d1, d2, d3, hv', hk2⟩ := (H2.out.below hnx).at hlt
      have i0 : (0 : Int) ≤ (k : Int) := by omega
      have i1 : (k : Int) < (t : Int) := by omega
      have HV : Hid (ArgIs wr va (F k).n (F k).N ∧ ArgI wr ka (F k).m (F k).K ∧ ArgIs wr va' (F k).n (F k).N ∧ ArgI wr ka' (F k).m (F k).K) := ⟨hv, hk1, hv', hk2⟩
      have HD : Hid (Below wr.heap.size wr wr.drew) := (Below.refl _ _).drew
      have HS1 : Hid (wr.cell? ⟨b, off + k * 4, none⟩ = some (.int .i64 (F k).kind) ∧ wr.cell? ⟨b, off + k * 4 + 1, none⟩ = some (.string (F k).path) ∧ wr.cell? ⟨b, off + k * 4 + 2, none⟩ = some (.slice va (F k).n vc) ∧ wr.cell? ⟨b, off + k * 4 + 3, none⟩ = some (.slice ka (F k).m kc) ∧
        wr.cell? ⟨b', off' + k * 4, none⟩ = some (.int .i64 (F k).kind) ∧ wr.cell? ⟨b', off' + k * 4 + 1, none⟩ = some (.string (F k).path) ∧ wr.cell? ⟨b', off' + k * 4 + 2, none⟩ = some (.slice va' (F k).n vc') ∧ wr.cell? ⟨b', off' + k * 4 + 3, none⟩ = some (.slice ka' (F k).m kc')) := ⟨a0, a1, a2, a3, d0, d1, d2, d3⟩
      have HSK : Hid (∀ w', Below wr.heap.size wr w' → w'.cell? ⟨b, off + k * 4, none⟩ = some (.int .i64 (F k).kind) ∧ w'.cell? ⟨b, off + k * 4 + 1, none⟩ = some (.string (F k).path) ∧ w'.cell? ⟨b, off + k * 4 + 2, none⟩ = some (.slice va (F k).n vc) ∧ w'.cell? ⟨b, off + k * 4 + 3, none⟩ = some (.slice ka (F k).m kc) ∧
        w'.cell? ⟨b', off' + k * 4, none⟩ = some (.int .i64 (F k).kind) ∧ w'.cell? ⟨b', off' + k * 4 + 1, none⟩ = some (.string (F k).path) ∧ w'.cell? ⟨b', off' + k * 4 + 2, none⟩ = some (.slice va' (F k).n vc') ∧ w'.cell? ⟨b', off' + k * 4 + 3, none⟩ = some (.slice ka' (F k).m kc')) := fun w' h =>
          ⟨(h.cell hb).trans a0, (h.cell hb).trans a1, (h.cell hb).trans a2, (h.cell hb).trans a3, (h.cell hb').trans d0, (h.cell hb').trans d1, (h.cell hb').trans d2, (h.cell hb').trans d3⟩
      clear hv hk1 hv' hk2
      go_wp2_with fail
      go_region_held3 (fun w' => w'.cell? ⟨b, off + k * 4, none⟩ = some (.int .i64 (F k).kind) ∧ w'.cell? ⟨b, off + k * 4 + 1, none⟩ = some (.string (F k).path) ∧ w'.cell? ⟨b, off + k * 4 + 2, none⟩ = some (.slice va (F k).n vc) ∧ w'.cell? ⟨b, off + k * 4 + 3, none⟩ = some (.slice ka (F k).m kc) ∧
        w'.cell? ⟨b', off' + k * 4, none⟩ = some (.int .i64 (F k).kind) ∧ w'.cell? ⟨b', off' + k * 4 + 1, none⟩ = some (.string (F k).path) ∧ w'.cell? ⟨b', off' + k * 4 + 2, none⟩ = some (.slice va' (F k).n vc') ∧ w'.cell? ⟨b', off' + k * 4 + 3, none⟩ = some (.slice ka' (F k).m kc')) (first | exact HS1.out | exact HSK.out _ HD.out | exact HSK.out _ hB1)
        (first | (go_at_call 37; go_fit (eqTerm_same (F k) va ka va' ka' vc kc vc' kc' wr.drew (HF.out k hlt) (HV.out.1.below HD.out) (HV.out.2.1.below HD.out) (HV.out.2.2.1.below HD.out) (HV.out.2.2.2.below HD.out)); rintro e w1 ⟨rfl, hb1⟩; have hB1 : Below wr.heap.size wr w1 := HD.out.trans hb1))
      go_wp2
      go_roundw
      case rel => exact ⟨k + 1, by omega, by go_num, hnx.trans (hB1.mono hnx.size)⟩
      case measure => simp [intOf]; omega
    · go_wp2
      go_ret
      exact ⟨rfl, hnx⟩

set_option maxHeartbeats 400000 in
theorem eqFilter_same (a1 a2 : Option Addr) (c1 c2 t : Nat) (F : Nat → Tm) (w : World) (ht : t ≤ 2 ^ 40) (hf : ∀ i, i < t → FitT (F i)) (h1 : FArg w a1 t F) (h2 : FArg w a2 t F) :
    Calls Tryz.prog 8 #[.agg #[.slice a1 t c1], .agg #[.slice a2 t c2]] w fun e w' => e = .returned (.bool true) ∧ Below w.heap.size w w' := by
  have H1 : Hid (FArg w a1 t F) := h1
  have H2 : Hid (FArg w a2 t F) := h2
  have HF : Hid (∀ i, i < t → FitT (F i)) := hf
  clear h1 h2 hf
  go_enter Tryz.func8, Tryz.ntmps8
  go_wp2_with fail
  refine (eqTermS_same a1 a2 c1 c2 t F _ ht HF.out (H1.out.below (by go_grown)) (H2.out.below (by go_grown))).mono ?_
  rintro e w1 ⟨rfl, hb⟩
  go_wp2
  go_ret
  exact ⟨rfl, (show Below w.heap.size w _ by go_grown).trans (hb.mono (by simp; omega))⟩

end Go.Proofs.YtjbjgkkkkghcgaaGreatDoor
namespace Go.Proofs.YtjbjgkkkkghcgaaGreatDoor
open Go.RowKit

theorem TermsTo.arg {t : Nat} {F : Nat → Tm} {w w' : World} {a : Option Addr} {c : Nat} (h : TermsTo t F w a c w') : FArg w' a t F := by
  obtain ⟨_, b, P, Q, _, _, _, hF⟩ := h
  exact hF.arg

end Go.Proofs.YtjbjgkkkkghcgaaGreatDoor
