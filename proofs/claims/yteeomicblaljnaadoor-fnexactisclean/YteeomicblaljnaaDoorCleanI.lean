/- Whether a value is clean: the program's walks. -/
import Derived.Test.YteeomicblaljnaaDoorCleanM
import Derived.Test.YteeomicblaljnaaDoorCleanE
import Derived.Deep.RegionWith
import Derived.Deep.RegionHeld3
import Derived.Deep.DeepFit
namespace Go.Proofs.YteeomicblaljnaaDoor
open Go.RowKit
set_option linter.unusedVariables false

set_option maxRecDepth 100000 in
set_option maxHeartbeats 2000000 in
theorem withinList_any (b off c n k : Nat) (N : Nat → Nd) (w : World) (hk : k < n) (hn : n ≤ 2 ^ 20) (hup : ∀ i, i < n → -1 ≤ (N i).up ∧ (N i).up < (i : Int)) (hat : NodesAt w b off n N) :
    Calls Tryd.prog 47 #[.slice (some ⟨b, off, none⟩) n c, .int .i64 (k : Int)] w fun e w' => e = .returned (.bool (inL N n (N k).up)) ∧ w' = w := by
  have HAT : Hid (NodesAt w b off n N) := hat
  have HUP : Hid (∀ i, i < n → -1 ≤ (N i).up ∧ (N i).up < (i : Int)) := hup
  have hu0 := hup k hk
  have a4 := (hat k hk).2.2.2.2
  obtain ⟨u0, hu⟩ : ∃ u, u = (N k).up := ⟨_, rfl⟩
  rw [← hu] at hu0 a4 ⊢
  clear hat hup hu
  have i0 : (0 : Int) ≤ (k : Int) := by omega
  have i1 : (k : Int) < (n : Int) := by omega
  go_enter Tryd.func47, Tryd.ntmps47
  go_wp2_with fail
  go_loopw [5] (fun v wr => ∃ u : Int, v = .int .i64 u ∧ -1 ≤ u ∧ u < n ∧ Hid (inL N n u0 = inL N n u) ∧ w = wr) (fun v _ => (intOf v + 1).toNat)
  case atStart => exact ⟨u0, rfl, by omega, by omega, rfl, rfl⟩
  case round =>
    obtain ⟨u, rfl, h1, h2, HI, rfl⟩ := hrel
    by_cases hneg : u < 0
    · have HR : Hid (inL N n u0 = false) := HI.out.trans (inL_neg N n hneg)
      go_wp2
      go_ret
      exact ⟨by rw [HR.out]; rfl, rfl⟩
    · obtain ⟨q, rfl⟩ : ∃ q : Nat, u = (q : Int) := ⟨u.toNat, by omega⟩
      have hq : q < n := by omega
      have st := HI.out.trans (inL_step (fun i hi => (HUP.out i hi).2) hq)
      obtain ⟨c0, _, _, _, c4⟩ := HAT.out q hq
      have hpq := HUP.out q hq
      have j0 : (0 : Int) ≤ (q : Int) := by omega
      have j1 : (q : Int) < (n : Int) := by omega
      by_cases h6 : (N q).kind = 6
      · have HR : Hid (inL N n u0 = true) := by rw [if_pos h6] at st; exact st
        rw [h6] at c0
        clear st HI
        go_wp2
        go_ret
        exact ⟨by rw [HR.out]; rfl, rfl⟩
      · have HR : Hid (inL N n u0 = inL N n (N q).up) := by rw [if_neg h6] at st; exact st
        obtain ⟨v, hv⟩ : ∃ v, v = (N q).up := ⟨_, rfl⟩
        obtain ⟨kd, hkd⟩ : ∃ v, v = (N q).kind := ⟨_, rfl⟩
        rw [← hv] at hpq c4 HR
        rw [← hkd] at c0 h6
        clear st HI hv hkd
        go_wp2
        go_roundw
        case rel => exact ⟨v, rfl, by omega, by omega, HR, trivial⟩
        case measure => simp [intOf]; omega

/-- WHAT nullFault TELLS: the first null that keeps a value from being clean. -/
def FirstBad (N : Nat → Nd) (n : Nat) : Option Nat → Prop
  | none => ∀ i, ¬ BadN N n i
  | some k => BadN N n k ∧ ∀ i, i < k → ¬ BadN N n i
def faultV (e : Addr) : Option Nat → Value
  | none => .nilIface
  | some k => .iface 56 (.agg #[.int .i64 (k : Int), .iface 141 (.pointer (some e))])

set_option maxRecDepth 100000 in
set_option maxHeartbeats 2000000 in
theorem nullFault_any (b off c n : Nat) (N : Nat → Nd) (e : Addr) (w : World) (hb : b < w.heap.size) (hn : n ≤ 2 ^ 20) (hup : ∀ i, i < n → -1 ≤ (N i).up ∧ (N i).up < (i : Int)) (hat : NodesAt w b off n N) (hg : 0 < w.heap.size) (he : w.cell? ⟨0, 0, none⟩ = some (.iface 141 (.pointer (some e)))) :
    Calls Tryd.prog 26 #[.slice (some ⟨b, off, none⟩) n c] w fun r w' => ∃ o, r = .returned (faultV e o) ∧ FirstBad N n o ∧ Below w.heap.size w w' := by
  have HAT : Hid (NodesAt w b off n N) := hat
  have HUP : Hid (∀ i, i < n → -1 ≤ (N i).up ∧ (N i).up < (i : Int)) := hup
  have HE : Hid (w.cell? ⟨0, 0, none⟩ = some (.iface 141 (.pointer (some e)))) := he
  clear hat hup he
  go_enter Tryd.func26, Tryd.ntmps26
  go_wp2_with fail
  go_loopw [7] (fun v wr => ∃ m : Nat, v = .int .i64 (m : Int) ∧ m ≤ n ∧ Hid (∀ i, i < m → ¬ BadN N n i) ∧ Below w.heap.size w wr) (fun v _ => n - (intOf v).toNat)
  case atStart => exact ⟨0, rfl, Nat.zero_le _, fun i h => by omega, Below.refl _ _⟩
  case round =>
    obtain ⟨m, rfl, hm, HN, hnx⟩ := hrel
    have hz := hnx.size
    have HW : Hid (Below w.heap.size w wr) := hnx
    by_cases hlt : m < n
    · obtain ⟨c0, c1, c2, c3, c4⟩ := HAT.out.below hnx hb m hlt
      have j0 : (0 : Int) ≤ (m : Int) := by omega
      have j1 : (m : Int) < (n : Int) := by omega
      have hbw : b < wr.heap.size := by omega
      have ha1 : ∀ o, Below w.heap.size w (wr.alloc o) := fun o => HW.out.trans (((Below.refl _ _).alloc (Nat.le_refl _) o).mono HW.out.size)
      have HSUC : Hid (¬ BadN N n m → ∀ i, i < m + 1 → ¬ BadN N n i) := fun h i hi => by
        by_cases e : i = m
        · subst e; exact h
        · exact HN.out i (by omega)
      clear hnx
      by_cases h1 : (N m).kind = 1
      · by_cases hm0 : m = 0
        · subst hm0
          have HB : Hid (∀ i, i < 0 + 1 → ¬ BadN N n i) := HSUC.out (fun h => by have := h.1; omega)
          rw [h1] at c0
          rw [Nat.zero_mul, Nat.add_zero] at c0 c1 c2 c3 c4
          go_wp2_with fail
          go_roundw
          case rel => exact ⟨0 + 1, by go_num, by omega, HB, ha1 _⟩
          case measure => simp [intOf]; omega
        · have hm1 : (0 : Int) < (m : Int) := by omega
          have HW2 : ∀ o, NodesAt (wr.alloc o) b off n N := fun o => HAT.out.below (ha1 o) hb
          have HQ := HN.out
          rw [h1] at c0
          cases hq : inL N n (N m).up with
          | true =>
            have HB : Hid (∀ i, i < m + 1 → ¬ BadN N n i) := HSUC.out (fun h => by have := h.2.2.2; rw [hq] at this; simp at this)
            go_wp2_with (first | (go_at_call 47; refine (withinList_any b off c n m N _ hlt hn HUP.out (HW2 _)).mono ?_; rw [hq]; rintro r w2 ⟨rfl, rfl⟩))
            go_roundw
            case rel => exact ⟨m + 1, by go_num, by omega, HB, ha1 _⟩
            case measure => simp [intOf]; omega
          | false =>
            have HB : Hid (BadN N n m) := ⟨by omega, hlt, h1, hq⟩
            have he1 : ∀ o, (wr.alloc o).cell? ⟨0, 0, none⟩ = some (.iface 141 (.pointer (some e))) := fun o => ((ha1 o).cell hg).trans HE.out
            go_wp2_with (first | (go_at_call 47; refine (withinList_any b off c n m N _ hlt hn HUP.out (HW2 _)).mono ?_; rw [hq]; rintro r w2 ⟨rfl, rfl⟩))
            go_ret
            exact ⟨some m, rfl, ⟨HB.out, HN.out⟩, ha1 _⟩
      · have HB : Hid (∀ i, i < m + 1 → ¬ BadN N n i) := HSUC.out (fun h => h1 h.2.2.1)
        obtain ⟨kd, hkd⟩ : ∃ v, v = (N m).kind := ⟨_, rfl⟩
        rw [← hkd] at c0 h1
        clear hkd
        go_wp2_with fail
        go_roundw
        case rel => exact ⟨m + 1, by go_num, by omega, HB, ha1 _⟩
        case measure => simp [intOf]; omega
    · obtain rfl : m = n := by omega
      have HF : Hid (FirstBad N m none) := fun i h => HN.out i h.2.1 h
      go_wp2
      go_ret
      exact ⟨none, rfl, HF.out, HW.out⟩

theorem is_faultV (e : Addr) (o : Option Nat) (w : World) : Calls Tryd.prog 39 #[faultV e o, .iface 141 (.pointer (some e))] w fun r w' => r = .returned (.bool o.isSome) ∧ Below w.heap.size w w' := by
  cases o with
  | none => exact (is_nil e w).mono fun r w' ⟨h1, h2⟩ => ⟨h1, by rw [h2]; exact Below.refl _ _⟩
  | some k => exact is_fault k e w

set_option maxRecDepth 100000 in
set_option maxHeartbeats 2000000 in
theorem isClean_any (b off c n : Nat) (N : Nat → Nd) (e : Addr) (w : World) (hb : b < w.heap.size) (hn : n ≤ 2 ^ 20) (hup : ∀ i, i < n → -1 ≤ (N i).up ∧ (N i).up < (i : Int)) (hat : NodesAt w b off n N) (hg : 0 < w.heap.size) (he : w.cell? ⟨0, 0, none⟩ = some (.iface 141 (.pointer (some e)))) :
    Calls Tryd.prog 20 #[.slice (some ⟨b, off, none⟩) n c] w fun r w' => ∃ q, r = .returned (.bool q) ∧ (q = false ↔ ∃ k, BadN N n k) ∧ Below w.heap.size w w' := by
  have HAT : Hid (NodesAt w b off n N) := hat
  have HUP : Hid (∀ i, i < n → -1 ≤ (N i).up ∧ (N i).up < (i : Int)) := hup
  clear hat hup
  have HD : Below w.heap.size w w.drew := Below.drew (Below.refl w.heap.size w)
  have HAD : Hid (NodesAt w.drew b off n N) := HAT.out.below HD hb
  go_enter Tryd.func20, Tryd.ntmps20
  go_wp2_with fail
  go_region_held3 (fun w' => w'.cell? ⟨0, 0, none⟩ = some (.iface 141 (.pointer (some e)))) (first | exact he | exact (hc1 _ _ hg).trans he | exact (hc2 _ _ (Nat.lt_of_lt_of_le hg hz1)).trans ((hc1 _ _ hg).trans he))
    (first | (go_at_call 26; refine (nullFault_any b off c n N e w.drew hb hn HUP.out HAD.out hg he).mono ?_; rintro r w1 ⟨o, rfl, ho, hb1⟩; obtain ⟨hc1, hf1⟩ := bcell hb1; have hz1 := hb1.size) | (go_at_call 39; refine (is_faultV e o _).mono ?_; rintro r w2 ⟨rfl, hb2⟩; obtain ⟨hc2, hf2⟩ := bcell hb2))
  have HF : Hid (FirstBad N n o ∧ Below w.heap.size w w2) := ⟨ho, HD.trans ((hb1.mono HD.size).trans (hb2.mono (Nat.le_trans HD.size hb1.size)))⟩
  clear ho hb1 hb2 hc1 hc2 hf1 hf2
  go_wp2
  go_ret
  refine ⟨_, rfl, ?_, HF.out.2⟩
  cases o with
  | none => simp; exact HF.out.1
  | some k => simp; exact ⟨k, HF.out.1.1⟩

end Go.Proofs.YteeomicblaljnaaDoor
