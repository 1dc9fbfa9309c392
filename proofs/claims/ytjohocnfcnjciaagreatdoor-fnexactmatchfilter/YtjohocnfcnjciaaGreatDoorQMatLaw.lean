/- A filter that came in: weighed. No condition. Two filters that say the same, held against each other. No condition. A copied filter reads as the one that came in. FnExactMatchFilter answers true at every filter and value: MatchFilter answers as the specification and writes into nothing. -/
import Derived.Test.YtjohocnfcnjciaaGreatDoorQPlN
import Derived.Test.YtjohocnfcnjciaaGreatDoorQMatF
import Derived.Test.YtjohocnfcnjciaaGreatDoorSzL
namespace Go.Proofs.YtjohocnfcnjciaaGreatDoor
open Go.RowKit
set_option linter.unusedVariables false

set_option maxHeartbeats 400000 in
theorem szIntS_left (a : Option Addr) (c m : Nat) (left : Int) (hl0 : 0 ≤ left) (hl1 : left ≤ 2 ^ 20) (w : World) (hm : m ≤ maxLen) :
    Calls Tryz.prog 76 #[.slice a m c, .int .i64 left] w fun e w' => ∃ r : Int, e = .returned (.int .i64 r) ∧ (r = -1 ∨ (0 ≤ r ∧ r ≤ 2 ^ 20 ∧ m ≤ 2 ^ 20)) ∧ Below w.heap.size w w' := by
  unfold maxLen at hm
  by_cases c0 : left - (m : Int) < 0
  · go_enter Tryz.func76, Tryz.ntmps76
    go_wp2
    go_ret
    exact ⟨-1, rfl, .inl rfl, by go_grown⟩
  · go_enter Tryz.func76, Tryz.ntmps76
    go_wp2
    go_ret
    exact ⟨_, rfl, .inr ⟨by omega, by omega, by omega⟩, by go_grown⟩

set_option maxHeartbeats 1000000 in
theorem szTerm_any (y : Tm) (va ka : Option Addr) (vc kc : Nat) (left : Int) (hl0 : 0 ≤ left) (hl1 : left ≤ 2 ^ 20) (w : World) (hz : BigT y) (hv : ArgIs w va y.n y.N) :
    Calls Tryz.prog 47 #[.agg #[.int .i64 y.kind, .string y.path, .slice va y.n vc, .slice ka y.m kc], .int .i64 left] w fun e w' => ∃ r : Int, e = .returned (.int .i64 r) ∧ (r = -1 ∨ (0 ≤ r ∧ r ≤ 2 ^ 20 ∧ SmallT y)) ∧ Below w.heap.size w w' := by
  obtain ⟨k, p, n, N, m, K⟩ := y
  dsimp only at hv ⊢
  obtain ⟨z1, z2, z3, z4⟩ := hz
  dsimp only at z1 z2 z3 z4
  have HV : Hid (ArgIs w va n N) := hv
  have HZ : Hid (∀ i, i < n → (N i).text.size ≤ maxLen ∧ (N i).name.size ≤ maxLen) := z3
  have HN : Hid (n ≤ maxLen) := z2
  have HM : Hid (m ≤ maxLen) := z4
  clear hv z3 z2 z4
  unfold maxLen at z1
  by_cases c0 : left - (p.size : Int) < 0
  · go_enter Tryz.func47, Tryz.ntmps47
    go_wp2
    go_ret
    exact ⟨-1, rfl, .inl rfl, by go_grown⟩
  · have HP : Hid (p.size ≤ 2 ^ 20) := by show p.size ≤ 2 ^ 20; omega
    have hl2 : 0 ≤ left - (p.size : Int) := by omega
    have hl3 : left - (p.size : Int) ≤ 2 ^ 20 := by omega
    go_enter Tryz.func47, Tryz.ntmps47
    go_wp2_with fail
    have hbl : ∀ o, Below w.heap.size w (w.alloc o) := fun o => (Below.refl _ _).alloc (Nat.le_refl _) o
    refine (szValue_left va vc n N _ hl2 hl3 _ HN.out (HV.out.below (hbl _)) HZ.out).mono ?_
    rintro e w1 ⟨r, rfl, hr, hb⟩
    have x1 : w1.cell? ⟨w.heap.size, 3, none⟩ = some (.slice ka m kc) := by rw [hb.cell (by simp)]; simp [go_sem]
    have HB : Hid (Below w.heap.size w w1) := (hbl _).trans (hb.mono (by simp))
    clear hb hbl
    rcases hr with rfl | ⟨r0, r20, hs⟩
    · go_wp2
      go_ret
      exact ⟨-1, rfl, .inl rfl, HB.out⟩
    · have HS : Hid (SmallN n N) := hs
      clear hs
      have r1 : ¬ r < 0 := by omega
      go_wp2_with fail
      refine (szIntS_left ka kc m r r0 r20 _ HM.out).mono ?_
      rintro e w2 ⟨q, rfl, hq, hb2⟩
      have HB2 : Hid (Below w.heap.size w w2) := HB.out.trans (hb2.mono HB.out.size)
      clear hb2
      rcases hq with rfl | ⟨q0, q20, hm⟩
      · go_wp2
        go_ret
        exact ⟨-1, rfl, .inl rfl, HB2.out⟩
      · have q1 : ¬ q < 0 := by omega
        go_wp2
        go_ret
        exact ⟨q, rfl, .inr ⟨q0, q20, HP.out, HS.out, hm⟩, HB2.out⟩

set_option maxHeartbeats 1000000 in
theorem szTermS_left (a : Option Addr) (c t : Nat) (F : Nat → Tm) (left : Int) (hl0 : 0 ≤ left) (hl1 : left ≤ 2 ^ 20) (w : World) (ht : t ≤ maxLen) (h : FArg w a t F) (hz : ∀ i, i < t → BigT (F i)) :
    Calls Tryz.prog 27 #[.slice a t c, .int .i64 left] w fun e w' => ∃ r : Int, e = .returned (.int .i64 r) ∧ (r = -1 ∨ (0 ≤ r ∧ r ≤ 2 ^ 20 ∧ SmallF t F)) ∧ Below w.heap.size w w' := by
  have HZ : Hid (∀ i, i < t → BigT (F i)) := hz
  have H : Hid (FArg w a t F) := h
  clear hz h
  unfold maxLen at ht
  by_cases c0 : left - (t : Int) < 0
  · go_enter Tryz.func27, Tryz.ntmps27
    go_wp2
    go_ret
    exact ⟨-1, rfl, .inl rfl, by go_grown⟩
  · go_enter Tryz.func27, Tryz.ntmps27
    go_wp2_with fail
    go_loopw [1, 5] (fun q i wr => ∃ (k : Nat) (r : Int), k ≤ t ∧ i = .int .i64 k ∧ q = .int .i64 r ∧ 0 ≤ r ∧ r ≤ 2 ^ 20 ∧ Hid (∀ j, j < k → SmallT (F j)) ∧ Below w.heap.size w wr) (fun _ i _ => t - (intOf i).toNat)
    case atStart => exact ⟨0, _, Nat.zero_le _, rfl, rfl, by omega, by omega, fun j hj => by omega, Below.refl _ _⟩
    case round =>
      obtain ⟨k, r, hk, rfl, rfl, hr0, hr1, HJ, hnx⟩ := hrel
      by_cases hlt : k < t
      · obtain ⟨b, off, va, vc, ka, kc, rfl, hb, a0, a1, a2, a3, hv, _⟩ := (H.out.below hnx).at hlt
        have i0 : (0 : Int) ≤ (k : Int) := by omega
        have i1 : (k : Int) < (t : Int) := by omega
        have HV : Hid (ArgIs wr va (F k).n (F k).N) := hv
        clear hv
        go_wp2_with fail
        refine (szTerm_any (F k) va ka vc kc r hr0 hr1 _ (HZ.out k hlt) HV.out).mono ?_
        rintro e w1 ⟨q, rfl, hq, hb1⟩
        have HB : Hid (Below w.heap.size w w1) := hnx.trans (hb1.mono hnx.size)
        clear hb1
        rcases hq with rfl | ⟨q0, q1, q2⟩
        · go_wp2
          go_ret
          exact ⟨-1, rfl, .inl rfl, HB.out⟩
        · have HJ' : Hid (∀ j, j < k + 1 → SmallT (F j)) := fun j hj => by
            by_cases e : j = k
            · subst e; exact q2
            · exact HJ.out j (by omega)
          clear q2
          go_wp2
          go_roundw
          case rel => exact ⟨k + 1, q, by omega, by go_num, rfl, q0, by omega, HJ', HB.out⟩
          case measure => simp [intOf]; omega
      · go_wp2
        go_ret
        obtain rfl : k = t := by omega
        exact ⟨r, rfl, .inr ⟨hr0, hr1, by omega, HJ.out⟩, hnx⟩

set_option maxHeartbeats 400000 in
theorem szFilter_left (a : Option Addr) (c t : Nat) (F : Nat → Tm) (left : Int) (hl0 : 0 ≤ left) (hl1 : left ≤ 2 ^ 20) (w : World) (ht : t ≤ maxLen) (h : FArg w a t F) (hz : ∀ i, i < t → BigT (F i)) :
    Calls Tryz.prog 6 #[.agg #[.slice a t c], .int .i64 left] w fun e w' => ∃ r : Int, e = .returned (.int .i64 r) ∧ (r = -1 ∨ (0 ≤ r ∧ r ≤ 2 ^ 20 ∧ SmallF t F)) ∧ Below w.heap.size w w' := by
  have HZ : Hid (∀ i, i < t → BigT (F i)) := hz
  have H : Hid (FArg w a t F) := h
  clear hz h
  go_enter Tryz.func6, Tryz.ntmps6
  go_wp2_with fail
  refine (szTermS_left a c t F left hl0 hl1 _ ht (H.out.below (by go_grown)) HZ.out).mono ?_
  rintro e w1 ⟨r, rfl, hr, hb⟩
  have HB : Hid (Below w.heap.size w w1) := (show Below w.heap.size w _ by go_grown).trans (hb.mono (by simp))
  clear hb
  rcases hr with rfl | ⟨r0, r20, hs⟩
  · go_wp2
    go_ret
    exact ⟨-1, rfl, .inl rfl, HB.out⟩
  · have HS : Hid (SmallF t F) := hs
    clear hs
    have r1 : ¬ r < 0 := by omega
    go_wp2
    go_ret
    exact ⟨r, rfl, .inr ⟨r0, r20, HS.out⟩, HB.out⟩

end Go.Proofs.YtjohocnfcnjciaaGreatDoor
namespace Go.Proofs.YtjohocnfcnjciaaGreatDoor
open Go.RowKit
set_option linter.unusedVariables false

set_option maxHeartbeats 400000 in
theorem eqIntS_at (g1 o1 c1 g2 o2 c2 n : Nat) (f : Nat → Int) (w : World) (hn : n ≤ 2 ^ 40) (hb1 : g1 < w.heap.size) (hb2 : g2 < w.heap.size) (h1 : ∀ i, i < n → w.cell? ⟨g1, o1 + i, none⟩ = some (.int .i64 (f i))) (h2 : ∀ i, i < n → w.cell? ⟨g2, o2 + i, none⟩ = some (.int .i64 (f i))) :
    Calls Tryz.prog 22 #[.slice (some ⟨g1, o1, none⟩) n c1, .slice (some ⟨g2, o2, none⟩) n c2] w fun e w' => e = .returned (.bool true) ∧ Below w.heap.size w w' := by
  have H1 : Hid (∀ i, i < n → w.cell? ⟨g1, o1 + i, none⟩ = some (.int .i64 (f i))) := h1
  have H2 : Hid (∀ i, i < n → w.cell? ⟨g2, o2 + i, none⟩ = some (.int .i64 (f i))) := h2
  clear h1 h2
  go_enter Tryz.func22, Tryz.ntmps22
  go_wp2_with fail
  go_loopw [5] (fun i wr => ∃ k : Nat, k ≤ n ∧ i = .int .i64 k ∧ Below w.heap.size w wr) (fun i _ => n - (intOf i).toNat)
  case atStart => exact ⟨0, Nat.zero_le _, rfl, Below.refl _ _⟩
  case round =>
    obtain ⟨k, hk, rfl, hnx⟩ := hrel
    by_cases hlt : k < n
    · have a0 := (hnx.cell hb1).trans (H1.out k hlt)
      have d0 := (hnx.cell hb2).trans (H2.out k hlt)
      have i0 : (0 : Int) ≤ (k : Int) := by omega
      have i1 : (k : Int) < (n : Int) := by omega
      go_wp2_with fail
      go_region_held3 (fun w' => w'.cell? ⟨g1, o1 + k, none⟩ = some (.int .i64 (f k)) ∧ w'.cell? ⟨g2, o2 + k, none⟩ = some (.int .i64 (f k))) (exact ⟨a0, d0⟩) (fail)
      go_wp2
      go_roundw
      case rel => exact ⟨k + 1, by omega, by go_num, hnx.drew⟩
      case measure => simp [intOf]; omega
    · go_wp2
      go_ret
      exact ⟨rfl, hnx⟩

set_option maxHeartbeats 400000 in
theorem eqIntS_zero (a1 a2 : Option Addr) (c1 c2 : Nat) (w : World) :
    Calls Tryz.prog 22 #[.slice a1 0 c1, .slice a2 0 c2] w fun e w' => e = .returned (.bool true) ∧ Below w.heap.size w w' := by
  go_enter Tryz.func22, Tryz.ntmps22
  go_wp2
  go_rounds 1
  go_ret
  exact ⟨rfl, by go_grown⟩

theorem eqIntS_arg (a1 a2 : Option Addr) (c1 c2 n : Nat) (f : Nat → Int) (w : World) (hn : n ≤ 2 ^ 40) (h1 : ArgI w a1 n f) (h2 : ArgI w a2 n f) :
    Calls Tryz.prog 22 #[.slice a1 n c1, .slice a2 n c2] w fun e w' => e = .returned (.bool true) ∧ Below w.heap.size w w' := by
  rcases h1 with rfl | ⟨b1, o1, rfl, q1, h1⟩
  · exact eqIntS_zero a1 a2 c1 c2 w
  · rcases h2 with rfl | ⟨b2, o2, rfl, q2, h2⟩
    · exact eqIntS_zero _ a2 c1 c2 w
    · exact eqIntS_at b1 o1 c1 b2 o2 c2 n f w hn q1 q2 h1 h2


/-- Its lengths are no greater than memory's. -/
def FitT (x : Tm) : Prop := x.n ≤ 2 ^ 40 ∧ x.m ≤ 2 ^ 40
theorem SmallT.fit {x : Tm} (h : SmallT x) : FitT x := ⟨by have := h.2.1.1; omega, by have := h.2.2; omega⟩

set_option maxHeartbeats 1000000 in
theorem eqTerm_same (y : Tm) (va ka va' ka' : Option Addr) (vc kc vc' kc' : Nat) (w : World) (hf : FitT y) (hv : ArgIs w va y.n y.N) (hk : ArgI w ka y.m y.K) (hv' : ArgIs w va' y.n y.N) (hk' : ArgI w ka' y.m y.K) :
    Calls Tryz.prog 67 #[.agg #[.int .i64 y.kind, .string y.path, .slice va y.n vc, .slice ka y.m kc], .agg #[.int .i64 y.kind, .string y.path, .slice va' y.n vc', .slice ka' y.m kc']] w fun e w' => e = .returned (.bool true) ∧ Below w.heap.size w w' := by
  obtain ⟨k, p, n, N, m, K⟩ := y
  obtain ⟨f1, f2⟩ := hf
  dsimp only at hv hk hv' hk' f1 f2 ⊢
  have HV : Hid (ArgIs w va n N) := hv
  have HK : Hid (ArgI w ka m K) := hk
  have HV' : Hid (ArgIs w va' n N) := hv'
  have HK' : Hid (ArgI w ka' m K) := hk'
  have HF : Hid (n ≤ 2 ^ 40 ∧ m ≤ 2 ^ 40) := ⟨f1, f2⟩
  clear hv hk hv' hk' f1 f2
  have hbl0 : ∀ o o', Below w.heap.size w ((w.alloc o).alloc o') := fun o o' => ((Below.refl _ _).alloc (Nat.le_refl _) o).alloc (by simp) o'
  go_enter Tryz.func67, Tryz.ntmps67
  go_wp2_with fail
  refine (eqValue_any _ _ n N _ ((HV.out.below (hbl0 _ _)).slice HF.out.1) ((HV'.out.below (hbl0 _ _)).slice HF.out.1)).mono ?_
  rintro e w1 ⟨rfl, hb⟩
  have x1 : w1.cell? ⟨w.heap.size, 3, none⟩ = some (.slice ka m kc) := by rw [hb.cell (by simp; omega)]; simp [go_sem]
  have y1 : w1.cell? ⟨w.heap.size + 1, 3, none⟩ = some (.slice ka' m kc') := by rw [hb.cell (by simp)]; simp [go_sem]
  have HB : Hid (Below w.heap.size w w1) := (hbl0 _ _).trans (hb.mono (by simp; omega))
  clear hb hbl0
  go_wp2_with fail
  refine (eqIntS_arg ka ka' kc kc' m K _ HF.out.2 (HK.out.below HB.out) (HK'.out.below HB.out)).mono ?_
  rintro e w2 ⟨rfl, hb2⟩
  have HB2 : Hid (Below w.heap.size w w2) := HB.out.trans (hb2.mono HB.out.size)
  clear hb2
  go_wp2
  go_ret
  exact ⟨rfl, HB2.out⟩

set_option maxHeartbeats 2000000 in
theorem eqTermS_same (a1 a2 : Option Addr) (c1 c2 t : Nat) (F : Nat → Tm) (w : World) (ht : t ≤ 2 ^ 40) (hf : ∀ i, i < t → FitT (F i)) (h1 : FArg w a1 t F) (h2 : FArg w a2 t F) :
    Calls Tryz.prog 38 #[.slice a1 t c1, .slice a2 t c2] w fun e w' => e = .returned (.bool true) ∧ Below w.heap.size w w' := by
  have H1 : Hid (FArg w a1 t F) := h1
  have H2 : Hid (FArg w a2 t F) := h2
  have HF : Hid (∀ i, i < t → FitT (F i)) := hf
  clear h1 h2 hf
  go_enter Tryz.func38, Tryz.ntmps38
  go_wp2_with fail
  go_loopw [5] (fun i wr => ∃ k : Nat, k ≤ t ∧ i = .int .i64 k ∧ Below w.heap.size w wr) (fun i _ => t - (intOf i).toNat)
  case atStart => exact ⟨0, Nat.zero_le _, rfl, Below.refl _ _⟩
  case round =>
    obtain ⟨k, hk, rfl, hnx⟩ := hrel
    by_cases hlt : k < t
    · obtain ⟨b, off, va, vc, ka, kc, rfl, hb, a0, a1, a2, a3, hv, hk1⟩ := (H1.out.below hnx).at hlt
      obtain ⟨b', off', va', vc', ka', kc', rfl, hb', d0, d1, d2, d3, hv', hk2⟩ := (H2.out.below hnx).at hlt
      have i0 : (0 : Int) ≤ (k : Int) := by omega
      have i1 : (k : Int) < (t : Int) := by omega
      have HV : Hid (ArgIs wr va (F k).n (F k).N ∧ ArgI wr ka (F k).m (F k).K ∧ ArgIs wr va' (F k).n (F k).N ∧ ArgI wr ka' (F k).m (F k).K) := ⟨hv, hk1, hv', hk2⟩
      have HD : Hid (Below wr.heap.size wr wr.drew) := (Below.refl _ _).drew
      have HS1 : Hid (wr.cell? ⟨b, off + k * 4, none⟩ = some (.int .i64 (F k).kind) ∧ wr.cell? ⟨b, off + k * 4 + 1, none⟩ = some (.string (F k).path) ∧ wr.cell? ⟨b, off + k * 4 + 2, none⟩ = some (.slice va (F k).n vc) ∧ wr.cell? ⟨b, off + k * 4 + 3, none⟩ = some (.slice ka (F k).m kc) ∧
        wr.cell? ⟨b', off' + k * 4, none⟩ = some (.int .i64 (F k).kind) ∧ wr.cell? ⟨b', off' + k * 4 + 1, none⟩ = some (.string (F k).path) ∧ wr.cell? ⟨b', off' + k * 4 + 2, none⟩ = some (.slice va' (F k).n vc') ∧ wr.cell? ⟨b', off' + k * 4 + 3, none⟩ = some (.slice ka' (F k).m kc')) := ⟨a0, a1, a2, a3, d0, d1, d2, d3⟩
      have HSK : Hid (∀ w', Below wr.heap.size wr w' → w'.cell? ⟨b, off + k * 4, none⟩ = some (.int .i64 (F k).kind) ∧ w'.cell? ⟨b, off + k * 4 + 1, none⟩ = some (.string (F k).path) ∧ w'.cell? ⟨b, off + k * 4 + 2, none⟩ = some (.slice va (F k).n vc) ∧ w'.cell? ⟨b, off + k * 4 + 3, none⟩ = some (.slice ka (F k).m kc) ∧
        w'.cell? ⟨b', off' + k * 4, none⟩ = some (.int .i64 (F k).kind) ∧ w'.cell? ⟨b', off' + k * 4 + 1, none⟩ = some (.string (F k).path) ∧ w'.cell? ⟨b', off' + k * 4 + 2, none⟩ = some (.slice va' (F k).n vc') ∧ w'.cell? ⟨b', off' + k * 4 + 3, none⟩ = some (.slice ka' (F k).m kc')) := fun w' h =>
          ⟨(h.cell hb).trans a0, (h.cell hb).trans a1, (h.cell hb).trans a2, (h.cell hb).trans a3, (h.cell hb').trans d0, (h.cell hb').trans d1, (h.cell hb').trans d2, (h.cell hb').trans d3⟩
      clear hv hk1 hv' hk2
      go_wp2_with fail
      go_region_held3 (fun w' => w'.cell? ⟨b, off + k * 4, none⟩ = some (.int .i64 (F k).kind) ∧ w'.cell? ⟨b, off + k * 4 + 1, none⟩ = some (.string (F k).path) ∧ w'.cell? ⟨b, off + k * 4 + 2, none⟩ = some (.slice va (F k).n vc) ∧ w'.cell? ⟨b, off + k * 4 + 3, none⟩ = some (.slice ka (F k).m kc) ∧
        w'.cell? ⟨b', off' + k * 4, none⟩ = some (.int .i64 (F k).kind) ∧ w'.cell? ⟨b', off' + k * 4 + 1, none⟩ = some (.string (F k).path) ∧ w'.cell? ⟨b', off' + k * 4 + 2, none⟩ = some (.slice va' (F k).n vc') ∧ w'.cell? ⟨b', off' + k * 4 + 3, none⟩ = some (.slice ka' (F k).m kc')) (first | exact HS1.out | exact HSK.out _ HD.out | exact HSK.out _ hB1)
        (first | (go_at_call 67; go_fit (eqTerm_same (F k) va ka va' ka' vc kc vc' kc' wr.drew (HF.out k hlt) (HV.out.1.below HD.out) (HV.out.2.1.below HD.out) (HV.out.2.2.1.below HD.out) (HV.out.2.2.2.below HD.out)); rintro e w1 ⟨rfl, hb1⟩; have hB1 : Below wr.heap.size wr w1 := HD.out.trans hb1))
      go_wp2
      go_roundw
      case rel => exact ⟨k + 1, by omega, by go_num, hnx.trans (hB1.mono hnx.size)⟩
      case measure => simp [intOf]; omega
    · go_wp2
      go_ret
      exact ⟨rfl, hnx⟩

set_option maxHeartbeats 400000 in
theorem eqFilter_same (a1 a2 : Option Addr) (c1 c2 t : Nat) (F : Nat → Tm) (w : World) (ht : t ≤ 2 ^ 40) (hf : ∀ i, i < t → FitT (F i)) (h1 : FArg w a1 t F) (h2 : FArg w a2 t F) :
    Calls Tryz.prog 12 #[.agg #[.slice a1 t c1], .agg #[.slice a2 t c2]] w fun e w' => e = .returned (.bool true) ∧ Below w.heap.size w w' := by
  have H1 : Hid (FArg w a1 t F) := h1
  have H2 : Hid (FArg w a2 t F) := h2
  have HF : Hid (∀ i, i < t → FitT (F i)) := hf
  clear h1 h2 hf
  go_enter Tryz.func12, Tryz.ntmps12
  go_wp2_with fail
  refine (eqTermS_same a1 a2 c1 c2 t F _ ht HF.out (H1.out.below (by go_grown)) (H2.out.below (by go_grown))).mono ?_
  rintro e w1 ⟨rfl, hb⟩
  go_wp2
  go_ret
  exact ⟨rfl, (show Below w.heap.size w _ by go_grown).trans (hb.mono (by simp; omega))⟩

end Go.Proofs.YtjohocnfcnjciaaGreatDoor
namespace Go.Proofs.YtjohocnfcnjciaaGreatDoor
open Go.RowKit

theorem TermsTo.arg {t : Nat} {F : Nat → Tm} {w w' : World} {a : Option Addr} {c : Nat} (h : TermsTo t F w a c w') : FArg w' a t F := by
  obtain ⟨_, b, P, Q, _, _, _, hF⟩ := h
  exact hF.arg

end Go.Proofs.YtjohocnfcnjciaaGreatDoor
namespace Go.Proofs.YtjohocnfcnjciaaGreatDoor
open Go.RowKit
set_option linter.unusedVariables false

set_option maxRecDepth 100000 in
set_option maxHeartbeats 4000000 in
theorem matchFilter_law (a : Option Addr) (c n : Nat) (N : Nat → Tm) (a' : Option Addr) (c' n' : Nat) (M : Nat → Nd) (w : World) (hn : n ≤ maxLen) (h : FArg w a n N) (hz : ∀ i, i < n → BigT (N i))
    (hn' : n' ≤ maxLen) (h' : ArgIs w a' n' M) (hz' : ∀ i, i < n' → (M i).text.size ≤ maxLen ∧ (M i).name.size ≤ maxLen) (htab : Tab w.heap.size w) (hml : ML w) :
    Calls Tryz.prog 3 #[.agg #[.slice a n c], .agg #[.slice a' n' c']] w fun e w' => e = .returned (.bool true) ∧ Below w.heap.size w w' := by
  have HZ : Hid (∀ i, i < n → BigT (N i)) := hz
  have HZ' : Hid (∀ i, i < n' → (M i).text.size ≤ maxLen ∧ (M i).name.size ≤ maxLen) := hz'
  have H : Hid (FArg w a n N) := h
  have H' : Hid (ArgIs w a' n' M) := h'
  have HTB : Hid (Tab w.heap.size w) := htab
  have HML : Hid (ML w) := hml
  clear hml
  clear hz h htab hz' h'
  go_enter Tryz.func3, Tryz.ntmps3
  go_wp2_with fail
  have hbl0 : ∀ o o', Below w.heap.size w ((w.alloc o).alloc o') := fun o o' => ((Below.refl _ _).alloc (Nat.le_refl _) o).alloc (by simp) o'
  refine (szFilter_left a c n N 1048576 (by decide) (by decide) _ hn (H.out.below (hbl0 _ _)) HZ.out).mono ?_
  rintro e w1 ⟨r, rfl, hr, hb1⟩
  have x1 : w1.cell? ⟨w.heap.size, 0, none⟩ = some (.slice a n c) := by rw [hb1.cell (by simp; omega)]; simp [go_sem]
  have y1 : w1.cell? ⟨w.heap.size + 1, 0, none⟩ = some (.slice a' n' c') := by rw [hb1.cell (by simp)]; simp [go_sem]
  have HB1 : Hid (Below w.heap.size w w1) := (hbl0 _ _).trans (hb1.mono (by simp; omega))
  have z1 : w.heap.size + 1 < w1.heap.size := by have := hb1.size; simp at this; omega
  have z1' : w.heap.size < w1.heap.size := by omega
  clear hb1 hbl0
  rcases hr with rfl | ⟨r0, r20, hsm⟩
  · go_wp2
    go_ret
    exact ⟨rfl, HB1.out⟩
  have HSM : Hid (SmallF n N) := hsm
  have n20 : n ≤ 2 ^ 20 := hsm.1
  have HFT : Hid (∀ i, i < n → FitT (N i)) := fun i hi => (hsm.2 i hi).fit
  have r1 : ¬ r < 0 := by omega
  clear hsm
  go_wp2_with fail
  refine (szValue_left a' c' n' M r r0 r20 _ hn' (H'.out.below HB1.out) HZ'.out).mono ?_
  rintro e w2 ⟨r', rfl, hr, hb2⟩
  have x2 : w2.cell? ⟨w.heap.size, 0, none⟩ = some (.slice a n c) := (hb2.cell z1').trans x1
  have y2 : w2.cell? ⟨w.heap.size + 1, 0, none⟩ = some (.slice a' n' c') := (hb2.cell z1).trans y1
  have HB2 : Hid (Below w.heap.size w w2) := HB1.out.trans (hb2.mono HB1.out.size)
  have z2 : w.heap.size + 1 < w2.heap.size := by have := hb2.size; omega
  have z2' : w.heap.size < w2.heap.size := by omega
  clear hb2
  rcases hr with rfl | ⟨r0', r20', hsm⟩
  · go_wp2
    go_ret
    exact ⟨rfl, HB2.out⟩
  have HSM' : Hid (SmallN n' M) := hsm
  have n20' : n' ≤ 2 ^ 20 := hsm.1
  have r1' : ¬ r' < 0 := by omega
  clear hsm
  go_wp2_with fail
  go_region_held3 (fun w' => w'.cell? ⟨w.heap.size, 0, none⟩ = some (.slice a n c) ∧ w'.cell? ⟨w.heap.size + 1, 0, none⟩ = some (.slice a' n' c')) (first | exact ⟨x2, y2⟩ | exact ⟨x3, y3⟩ | exact ⟨x4, y4⟩ | exact ⟨x5, y5⟩ | fail)
    (first | (go_at_call 9; go_fit (toFilter_any a c n N w2.drew HSM.out (H.out.below HB2.out.drew)); rintro e w3 ⟨a3, c3, rfl, ho3, hb3⟩; have x3 := (hb3.cell (p := ⟨w.heap.size, 0, none⟩) z2').trans x2; have y3 := (hb3.cell (p := ⟨w.heap.size + 1, 0, none⟩) z2).trans y2; have zz3 : w2.heap.size ≤ w3.heap.size := hb3.size; have HB3 : Hid (Below w.heap.size w w3) := HB2.out.drew.trans (hb3.mono HB2.out.size); have HO3 : Hid (FArg w3 a3 n N) := ho3.arg; clear ho3 hb3) | (go_at_call 10; go_fit (toValue_any a' c' n' M w3 n20' (H'.out.below HB3.out)); rintro e w4 ⟨b4, a4, c4, rfl, l4, m4, ho4, hb4⟩; have x4 := (hb4.cell (p := ⟨w.heap.size, 0, none⟩) (Nat.lt_of_lt_of_le z2' zz3)).trans x3; have y4 := (hb4.cell (p := ⟨w.heap.size + 1, 0, none⟩) (Nat.lt_of_lt_of_le z2 zz3)).trans y3; have zz4 : w2.heap.size ≤ w4.heap.size := Nat.le_trans zz3 hb4.size; have HB4 : Hid (Below w.heap.size w w4) := HB3.out.trans (hb4.mono HB3.out.size); have HO34 : Hid (FArg w4 a3 n N) := HO3.out.below hb4; have HO4 : Hid (OwnAt w4 b4 (.slice a4 n' c4) n' M) := ho4; clear ho4 hb4 l4 m4) | (go_at_call 8; go_fit (specMatch_any a3 c3 n N a4 c4 n' M w4 HO34.out HSM.out HO4.out.argOf.2 HSM'.out); rintro e w5 ⟨s, q, rfl, hq, hb5⟩; have x5 := (hb5.cell (p := ⟨w.heap.size, 0, none⟩) (Nat.lt_of_lt_of_le z2' zz4)).trans x4; have y5 := (hb5.cell (p := ⟨w.heap.size + 1, 0, none⟩) (Nat.lt_of_lt_of_le z2 zz4)).trans y4; have zz5 : w2.heap.size ≤ w5.heap.size := Nat.le_trans zz4 hb5.size; have HB5 : Hid (Below w.heap.size w w5) := HB4.out.trans (hb5.mono HB4.out.size); have HQ : Hid (MfTold N n M n' s q) := hq; clear hq hb5))
  have z5 : w.heap.size + 1 < w5.heap.size := by omega
  have z5' : w.heap.size < w5.heap.size := by omega
  clear HO3 HO34 HO4 HB3 HB4 x2 y2 x3 y3 x4 y4 zz3 zz4
  go_wp2_with fail
  refine (toFilter_any a c n N _ HSM.out (H.out.below HB5.out)).mono ?_
  rintro e w6 ⟨a6, c6, rfl, ho6, hb6⟩
  obtain ⟨_, b6, P6, Q6, _, _, _, hF6⟩ := ho6
  have z56 := hb6.size
  have x6 : w6.cell? ⟨w.heap.size, 0, none⟩ = some (.slice a n c) := (hb6.cell z5').trans x5
  have y6 : w6.cell? ⟨w.heap.size + 1, 0, none⟩ = some (.slice a' n' c') := (hb6.cell z5).trans y5
  have HB6 : Hid (Below w.heap.size w w6) := HB5.out.trans (hb6.mono HB5.out.size)
  have HO6 : Hid (FOwn w6 b6 a6 n N P6 Q6) := hF6
  have z6 : w.heap.size + 1 < w6.heap.size := by omega
  have z6' : w.heap.size < w6.heap.size := by omega
  clear hF6 hb6 x5 y5
  go_wp2_with fail
  have al6 : ∀ o, Below w6.heap.size w6 (w6.alloc o) := fun o => (Below.refl _ _).alloc (Nat.le_refl _) o
  refine (toValue_cap a' c' n' M _ n20' (H'.out.below (HB6.out.trans ((al6 _).mono HB6.out.size)))).mono ?_
  rintro e w7 ⟨b7, a7, c7, rfl, cc7, l7, m7, ho7, hb7⟩
  have z67 := hb7.size
  simp at z67
  have B67 : Below w6.heap.size w6 w7 := (al6 _).trans (hb7.mono (by simp))
  have x7 : w7.cell? ⟨w.heap.size, 0, none⟩ = some (.slice a n c) := (B67.cell z6').trans x6
  have y7 : w7.cell? ⟨w.heap.size + 1, 0, none⟩ = some (.slice a' n' c') := (B67.cell z6).trans y6
  have u7 : w7.cell? ⟨w6.heap.size, 0, none⟩ = some (.slice a6 n c6) := by rw [hb7.cell (by simp)]; simp [World.cell?_alloc_new]
  have HB7 : Hid (Below w.heap.size w w7) := HB6.out.trans (B67.mono HB6.out.size)
  have HO67 : Hid (FOwn w7 b6 a6 n N P6 Q6) := HO6.out.below B67
  have HO7 : Hid (OwnAt w7 b7 (.slice a7 n' c7) n' M) := ho7
  have z7 : w.heap.size + 1 < w7.heap.size := by omega
  have z7' : w.heap.size < w7.heap.size := by omega
  have z7u : w6.heap.size < w7.heap.size := by omega
  clear ho7 hb7 l7 m7 x6 y6 B67 al6 HO6
  go_wp2_with fail
  have al7 : ∀ o, Below w7.heap.size w7 (w7.alloc o) := fun o => (Below.refl _ _).alloc (Nat.le_refl _) o
  refine (implMatch_any a6 c6 n N a7 c7 n' b7 M _ (HO67.out.below (al7 _)).arg (HO67.out.below (al7 _)).caps HSM.out (HO7.out.below (al7 _)) cc7 HSM'.out (HTB.out.up (HB7.out.trans ((al7 _).mono HB7.out.size))) (HML.out.below (HB7.out.trans ((al7 _).mono HB7.out.size)))).mono ?_
  rintro e w8 ⟨s', g, rfl, hg, hb8⟩
  obtain ⟨hss, hgq⟩ : s' = s ∧ g = q := hg.same HQ.out
  subst hss hgq
  have z78 := hb8.size
  simp at z78
  have B78 : Below w7.heap.size w7 w8 := (al7 _).trans (hb8.mono (by simp))
  have x8 : w8.cell? ⟨w.heap.size, 0, none⟩ = some (.slice a n c) := (B78.cell z7').trans x7
  have y8 : w8.cell? ⟨w.heap.size + 1, 0, none⟩ = some (.slice a' n' c') := (B78.cell z7).trans y7
  have u8 : w8.cell? ⟨w6.heap.size, 0, none⟩ = some (.slice a6 n c6) := (B78.cell z7u).trans u7
  have v8 : w8.cell? ⟨w7.heap.size, 0, none⟩ = some (.slice a7 n' c7) := by rw [hb8.cell (by simp)]; simp [World.cell?_alloc_new]
  have HB8 : Hid (Below w.heap.size w w8) := HB7.out.trans (B78.mono HB7.out.size)
  have HO68 : Hid (FArg w8 a6 n N) := (HO67.out.below B78).arg
  have HO78 : Hid (OwnAt w8 b7 (.slice a7 n' c7) n' M) := HO7.out.below B78
  have z8 : w.heap.size + 1 < w8.heap.size := by omega
  have z8' : w.heap.size < w8.heap.size := by omega
  have z8u : w6.heap.size < w8.heap.size := by omega
  have z8v : w7.heap.size < w8.heap.size := by omega
  clear hb8 hg B78 al7 HO67 HO7 x7 y7 u7
  go_wp2_with fail
  go_region_held3 (fun w' => w'.cell? ⟨w.heap.size, 0, none⟩ = some (.slice a n c) ∧ w'.cell? ⟨w6.heap.size, 0, none⟩ = some (.slice a6 n c6)) (first | exact ⟨x8, u8⟩ | exact ⟨x9, u9⟩ | exact ⟨x10, u10⟩ | fail)
    (first | (go_at_call 9; go_fit (toFilter_any a c n N w8.drew HSM.out (H.out.below HB8.out.drew)); rintro e w9 ⟨a9, c9, rfl, ho9, hb9⟩; have x9 := (hb9.cell (p := ⟨w.heap.size, 0, none⟩) z8').trans x8; have u9 := (hb9.cell (p := ⟨w6.heap.size, 0, none⟩) z8u).trans u8; have zz9 : w8.heap.size ≤ w9.heap.size := hb9.size; have B89 : Below w8.heap.size w8 w9 := (Below.drew (Below.refl w8.heap.size w8)).trans hb9) | (go_at_call 12; refine (eqFilter_same a6 a9 c6 c9 n N _ (by omega) HFT.out (HO68.out.below B89) ho9.arg).mono ?_; rintro e w10 ⟨rfl, hb10⟩; have x10 := (hb10.cell (p := ⟨w.heap.size, 0, none⟩) (Nat.lt_of_lt_of_le z8' zz9)).trans x9; have u10 := (hb10.cell (p := ⟨w6.heap.size, 0, none⟩) (Nat.lt_of_lt_of_le z8u zz9)).trans u9))
  have B810 : Below w8.heap.size w8 w10 := B89.trans (hb10.mono zz9)
  have zz10 := B810.size
  have y10 : w10.cell? ⟨w.heap.size + 1, 0, none⟩ = some (.slice a' n' c') := (B810.cell z8).trans y8
  have v10 : w10.cell? ⟨w7.heap.size, 0, none⟩ = some (.slice a7 n' c7) := (B810.cell z8v).trans v8
  have HB10 : Hid (Below w.heap.size w w10) := HB8.out.trans (B810.mono HB8.out.size)
  have HO710 : Hid (OwnAt w10 b7 (.slice a7 n' c7) n' M) := HO78.out.below B810
  have z10 : w.heap.size + 1 < w10.heap.size := by omega
  have z10v : w7.heap.size < w10.heap.size := by omega
  clear hb9 hb10 B89 B810 ho9 x8 y8 u8 v8 x9 u9 HO68 HO78 zz9
  go_wp2_with fail
  go_region_held3 (fun w' => w'.cell? ⟨w.heap.size + 1, 0, none⟩ = some (.slice a' n' c') ∧ w'.cell? ⟨w7.heap.size, 0, none⟩ = some (.slice a7 n' c7)) (first | exact ⟨y10, v10⟩ | exact ⟨y11, v11⟩ | exact ⟨y12, v12⟩ | fail)
    (first | (go_at_call 10; go_fit (toValue_any a' c' n' M w10.drew n20' (H'.out.below HB10.out.drew)); rintro e w11 ⟨b11, a11, c11, rfl, l11, m11, ho11, hb11⟩; have y11 := (hb11.cell (p := ⟨w.heap.size + 1, 0, none⟩) z10).trans y10; have v11 := (hb11.cell (p := ⟨w7.heap.size, 0, none⟩) z10v).trans v10; have zz11 : w10.heap.size ≤ w11.heap.size := hb11.size; have B1011 : Below w10.heap.size w10 w11 := (Below.drew (Below.refl w10.heap.size w10)).trans hb11) | (go_at_call 13; refine (eqValue_any _ _ n' M _ ((HO710.out.below B1011).slice) ho11.slice).mono ?_; rintro e w12 ⟨rfl, hb12⟩; have y12 := (hb12.cell (p := ⟨w.heap.size + 1, 0, none⟩) (Nat.lt_of_lt_of_le z10 zz11)).trans y11; have v12 := (hb12.cell (p := ⟨w7.heap.size, 0, none⟩) (Nat.lt_of_lt_of_le z10v zz11)).trans v11))
  have HBF : Hid (Below w.heap.size w w12) := HB10.out.trans ((B1011.trans (hb12.mono zz11)).mono HB10.out.size)
  clear hb11 hb12 B1011 ho11 l11 m11
  go_wp2
  go_ret
  exact ⟨rfl, HBF.out⟩

end Go.Proofs.YtjohocnfcnjciaaGreatDoor
