/- Each term but the last is one term's kid: the program's walk. -/
import Derived.Test.YtadlflgflnlhjaaGreatDoorFilG
import Derived.Test.YtadlflgflnlhjaaGreatDoorFilTo
namespace Go.Proofs.YtadlflgflnlhjaaGreatDoor
open Go.RowKit
set_option linter.unusedVariables false

/-- Kids among the first i terms and j of the next. -/
def cntAt (F : Nat → Tm) (i j : Nat) (z : Nat) : Int := tcnt F i z + kcnt (F i).K j z
theorem cnt_zero (F : Nat → Tm) (i : Nat) : cntAt F i 0 = fun z : Nat => tcnt F i z := by
  funext z
  simp [cntAt, kcnt]
theorem cnt_whole (F : Nat → Tm) (i : Nat) : cntAt F i (F i).m = fun z : Nat => tcnt F (i + 1) z := by
  funext z
  rfl
theorem cnt_step (F : Nat → Tm) (i j q : Nat) (h : (F i).K j = (q : Int)) : (fun z => if z = q then cntAt F i j q + 1 else cntAt F i j z) = cntAt F i (j + 1) := by
  funext z
  unfold cntAt
  simp only [kcnt, h]
  by_cases e : z = q
  · subst e
    simp
    omega
  · have e' : ¬ ((z : Int) = (q : Int)) := by omega
    simp [e, e']
theorem cnt_bound {F : Nat → Tm} {t i j : Nat} (h : ∀ i, i < t → (F i).m ≤ 2 ^ 20) (hi : i < t) (ht : t ≤ 20) (hj : j ≤ (F i).m) (z : Nat) : 0 ≤ cntAt F i j z ∧ cntAt F i j z ≤ 2 ^ 30 := by
  have h1 := tcnt_bound F z i (fun q hq => h q (by omega))
  have h2 := kcnt_bound (F i).K z j
  have h3 := h i hi
  unfold cntAt
  omega

set_option maxRecDepth 100000 in
set_option maxHeartbeats 4000000 in
theorem eachOneKid_any (a : Option Addr) (c t : Nat) (F : Nat → Tm) (w : World) (ht : 1 ≤ t ∧ t ≤ 20) (hm : ∀ i, i < t → (F i).m ≤ 2 ^ 20) (hk : ∀ i, i < t → ∀ j, j < (F i).m → 0 ≤ (F i).K j ∧ (F i).K j < i) (h : FArg w a t F) :
    Calls Tryz.prog 48 #[.slice a t c] w (BoolIs (∀ k : Nat, k < t - 1 → tcnt F t k = 1) w) := by
  have H : Hid (FArg w a t F) := h
  have HM : Hid (∀ i, i < t → (F i).m ≤ 2 ^ 20) := hm
  have HK : Hid (∀ i, i < t → ∀ j, j < (F i).m → 0 ≤ (F i).K j ∧ (F i).K j < i) := hk
  clear h hm hk
  have hmk := make_ints t (by omega)
  have n1 := ints_made t w 3
  obtain ⟨W, hW⟩ : ∃ W, W = w.alloc (.cells (madeCells #[.int .i64 0] t) 3) := ⟨_, rfl⟩
  have hsz : W.heap.size = w.heap.size + 1 := by rw [hW]; simp
  have hbl : Below w.heap.size w W := by rw [hW]; go_grown
  rw [← hW] at n1
  have hmw := hmk w
  rw [← hW] at hmw
  clear hmk
  have HN : Hid (IntsAt W w.heap.size t (fun z => tcnt F 0 z)) := n1.same fun i hi => rfl
  clear n1 hW
  obtain ⟨t0, t1⟩ := ht
  go_enter Tryz.func48, Tryz.ntmps48
  go_wp2_with fail
  go_loopw [15] (fun i wr => ∃ k : Nat, k ≤ t ∧ i = .int .i64 (k : Int) ∧ w.heap.size < wr.heap.size ∧ Below w.heap.size w wr ∧ Hid (IntsAt wr w.heap.size t (fun z => tcnt F k z))) (fun i _ => t - (intOf i).toNat)
  case atStart => exact ⟨0, Nat.zero_le _, rfl, by omega, hbl, HN⟩
  case round =>
    obtain ⟨k, hk, rfl, hz, hnx, HI⟩ := hrel
    by_cases hlt : k < t
    · obtain ⟨b, off, va, vc, ka, kc, rfl, hb, a0, a1, a2, a3, _, hkk⟩ := H.out.at hlt
      replace a0 := (hnx.cell hb).trans a0
      replace a1 := (hnx.cell hb).trans a1
      replace a2 := (hnx.cell hb).trans a2
      replace a3 := (hnx.cell hb).trans a3
      have i0 : (0 : Int) ≤ (k : Int) := by omega
      have i1 : (k : Int) < (t : Int) := by omega
      have hm0 := HM.out k hlt
      have HKK : Hid (ArgI w ka (F k).m (F k).K) := hkk
      have HKB : Hid (∀ j, j < (F k).m → 0 ≤ (F k).K j ∧ (F k).K j < k) := HK.out k hlt
      have HCB : Hid (∀ j z, j ≤ (F k).m → 0 ≤ cntAt F k j z ∧ cntAt F k j z ≤ 2 ^ 30) := fun j z hj => cnt_bound HM.out hlt t1 hj z
      have HI0 : Hid (IntsAt wr w.heap.size t (cntAt F k 0)) := by rw [cnt_zero]; exact HI
      have HCW : Hid (cntAt F k (F k).m = fun z : Nat => tcnt F (k + 1) z) := cnt_whole F k
      have HCS : Hid (∀ j q : Nat, (F k).K j = (q : Int) → (fun z => if z = q then cntAt F k j q + 1 else cntAt F k j z) = cntAt F k (j + 1)) := cnt_step F k
      obtain ⟨m, hm⟩ : ∃ m, m = (F k).m := ⟨_, rfl⟩
      obtain ⟨K, hK⟩ : ∃ K, K = (F k).K := ⟨_, rfl⟩
      obtain ⟨C, hC⟩ : ∃ C, C = cntAt F k := ⟨_, rfl⟩
      rw [← hm] at a3 hm0 HKK HKB HCB HCW
      rw [← hK] at HKK HKB HCS
      rw [← hC] at HCB HI0 HCW HCS
      clear hkk hm hK hC HI
      go_wp2_with fail
      have HWA : ∀ o, Below wr.heap.size wr (wr.alloc o) := fun o => (Below.refl _ _).alloc (Nat.le_refl _) o
      go_loopw [22] (fun i wr2 => ∃ j : Nat, j ≤ m ∧ i = .int .i64 (j : Int) ∧ w.heap.size < wr2.heap.size ∧ Below w.heap.size w wr2 ∧ Hid (IntsAt wr2 w.heap.size t (C j))) (fun i _ => m - (intOf i).toNat)
      case atStart => exact ⟨0, Nat.zero_le _, rfl, by simp; omega, hnx.trans ((HWA _).mono hnx.size), HI0.out.below (HWA _) hz⟩
      case round =>
        clear HI0 HWA a0 a1 a2 a3 hnx hz
        obtain ⟨j, hj, rfl, hz2, hnx2, HI⟩ := hrel
        by_cases hjm : j < m
        · rcases HKK.out with h0 | ⟨b', off', rfl, hb', hat⟩
          · omega
          have d0 := (hnx2.cell hb').trans (hat j hjm)
          obtain ⟨k0, k1⟩ := HKB.out j hjm
          obtain ⟨q, hq⟩ : ∃ q : Nat, K j = (q : Int) := ⟨(K j).toNat, by omega⟩
          rw [hq] at d0 k0 k1
          have hqt : q < t := by omega
          have e0 := (HI.out q hqt).1
          have e1 := (HI.out q hqt).2
          obtain ⟨cb0, cb1⟩ := HCB.out j q hj
          have HIS : Hid (IntsAt (wr.setCell ⟨w.heap.size, q, none⟩ (.int .i64 (C j q + 1))) w.heap.size t (C (j + 1))) := by
            rw [← HCS.out j q hq]
            exact HI.out.set hqt (C j q + 1)
          have j0 : (0 : Int) ≤ (j : Int) := by omega
          have j1 : (j : Int) < (m : Int) := by omega
          have q0 : (0 : Int) ≤ (q : Int) := by omega
          have q1 : (q : Int) < (t : Int) := by omega
          have HBS : Hid (Below w.heap.size w (wr.setCell ⟨w.heap.size, q, none⟩ (.int .i64 (C j q + 1)))) := hnx2.setCell (p := ⟨w.heap.size, _, none⟩) (Nat.le_refl _) _
          clear hat hq
          obtain ⟨x, hx⟩ : ∃ x, x = C j q := ⟨_, rfl⟩
          rw [← hx] at e0 cb0 cb1 HIS HBS
          clear hx
          go_wp2
          go_roundw
          case rel => exact ⟨j + 1, by omega, by go_num, by simpa [World.setCell] using hz2, HBS.out, HIS⟩
          case measure => simp [intOf]; omega
        · obtain rfl : j = m := by omega
          go_wp2
          go_roundw
          case rel => exact ⟨k + 1, by omega, by go_num, hz2, hnx2, by have := HI.out; rw [HCW.out] at this; exact this⟩
          case measure => simp [intOf]; omega
    · obtain rfl : k = t := by omega
      go_wp2_with fail
      go_loopw [40] (fun i wr2 => ∃ j : Nat, j ≤ k - 1 ∧ i = .int .i64 (j : Int) ∧ wr2 = wr ∧ Hid (∀ z : Nat, z < j → tcnt F k z = 1)) (fun i _ => k - (intOf i).toNat)
      case atStart => exact ⟨0, Nat.zero_le _, rfl, rfl, fun z hz => by omega⟩
      case round =>
        obtain ⟨j, hj, rfl, rfl, HJ⟩ := hrel
        by_cases hjm : j < k - 1
        · have e0 := (HI.out j (by omega)).1
          dsimp only at e0
          have j0 : (0 : Int) ≤ (j : Int) := by omega
          have j1 : (j : Int) < ((k - 1 : Nat) : Int) := by omega
          have HJ' : Hid (tcnt F k j = 1 → ∀ z : Nat, z < j + 1 → tcnt F k z = 1) := fun h z hz => by
            by_cases e : z = j
            · subst e; exact h
            · exact HJ.out z (by omega)
          by_cases h1 : tcnt F k j = 1
          · have HY := HJ'.out h1
            rw [h1] at e0
            have HY' : Hid (∀ z : Nat, z < j + 1 → tcnt F k z = 1) := HY
            clear HY h1
            go_wp2
            go_roundw
            case rel => exact ⟨j + 1, by omega, by go_num, trivial, HY'⟩
            case measure => simp [intOf]; omega
          · have HN : Hid (¬ ∀ z : Nat, z < k - 1 → tcnt F k z = 1) := fun h => h1 (h j hjm)
            obtain ⟨x, hx⟩ : ∃ x, x = tcnt F k j := ⟨_, rfl⟩
            rw [← hx] at e0 h1
            clear hx
            go_wp2
            go_ret
            exact BoolIs.no HN.out hnx
        · obtain rfl : j = k - 1 := by omega
          go_wp2
          go_ret
          exact BoolIs.yes HJ.out hnx

end Go.Proofs.YtadlflgflnlhjaaGreatDoor
