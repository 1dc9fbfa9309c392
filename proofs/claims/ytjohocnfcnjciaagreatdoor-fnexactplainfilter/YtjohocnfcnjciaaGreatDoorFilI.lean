/- Whether a text is a path, and a value good, wherever it lies. What a good filter is, and the program's small walks that ask for it. Each term but the last is one term's kid: the program's walk. Whether a filter is good: the program. -/
import Derived.Test.YtjohocnfcnjciaaGreatDoorGoodOwn
import Derived.Test.YtjohocnfcnjciaaGreatDoorPathO
import Derived.Test.YtjohocnfcnjciaaGreatDoorFilM
import Derived.Test.YtjohocnfcnjciaaGreatDoorFilTo
import Derived.Deep.DeepFit
namespace Go.Proofs.YtjohocnfcnjciaaGreatDoor
open Go.RowKit
set_option linter.unusedVariables false

/-- The text is a path. -/
def PathIs (s : ByteArray) : Prop := (namesL s.data.toList).isSome = true

set_option maxHeartbeats 400000 in
theorem isPath_any (s : ByteArray) (w : World) (hml : ML w) :
    Calls Tryz.prog 85 #[.string s] w (BoolIs (PathIs s) w) := by
  have HM : Hid (ML w) := hml
  clear hml
  go_enter Tryz.func85, Tryz.ntmps85
  go_wp2_with fail
  refine (implPathOf_any s _ HM.out).mono ?_
  rintro e w1 ⟨v, g, rfl, _, _, hb⟩
  go_wp2
  go_ret
  exact BoolIs.of Iff.rfl hb

theorem implGood_arg (a : Option Addr) (c n : Nat) (N : Nat → Nd) (w : World) (h : ArgIs w a n N) (hsm : SmallN n N) (htab : Tab w.heap.size w) :
    Calls Tryz.prog 36 #[.agg #[.slice a n c]] w (BoolIs (GoodV N n) w) := by
  by_cases h0 : n = 0
  · subst h0; exact implGood_none a c N w
  rcases h with h | ⟨b, off, rfl, hb, hat⟩
  · exact absurd h h0
  · exact implGood_some b off c n N w hb hat hsm htab (by omega)
theorem specGood_arg (a : Option Addr) (c n : Nat) (N : Nat → Nd) (w : World) (h : ArgIs w a n N) (hsm : SmallN n N) :
    Calls Tryz.prog 30 #[.agg #[.slice a n c]] w (BoolIs (GoodV N n) w) := by
  by_cases h0 : n = 0
  · subst h0; exact specGood_none a c N w
  rcases h with h | ⟨b, off, rfl, hb, hat⟩
  · exact absurd h h0
  · exact specGood_some b off c n N w hb hat hsm
theorem empty_iff (p : ByteArray) : p.toList = [] ↔ p.size = 0 := by
  rw [ByteArray.toList_eq]
  show p.data.toList = [] ↔ p.data.size = 0
  rw [Array.toList_eq_nil_iff, Array.size_eq_zero_iff]

theorem good_pos {N : Nat → Nd} {n : Nat} (h : GoodV N n) : 0 < n := by have := h.1.1; omega

end Go.Proofs.YtjohocnfcnjciaaGreatDoor
namespace Go.Proofs.YtjohocnfcnjciaaGreatDoor
open Go.RowKit
set_option linter.unusedVariables false

/-- A term's fields are as its kind asks. -/
def FieldsOK (x : Tm) : Prop :=
  ((x.kind = 1 ∨ x.kind = 2 ∨ x.kind = 3) ∧ PathIs x.path ∧ GoodV x.N x.n ∧ x.m = 0) ∨
  (x.kind = 4 ∧ PathIs x.path ∧ x.n = 0 ∧ x.m = 0) ∨
  (x.kind = 5 ∧ PathIs x.path ∧ (GoodV x.N x.n ∧ (x.N 0).kind = 6) ∧ x.m = 0) ∨
  ((x.kind = 6 ∨ x.kind = 7) ∧ x.path.size = 0 ∧ x.n = 0) ∨
  (x.kind = 8 ∧ x.path.size = 0 ∧ x.n = 0 ∧ x.m = 1)
/-- The kids rise and stand ahead of own. -/
def RisA (K : Nat → Int) (m : Nat) (own : Int) : Prop := ∀ j, j < m → (0 ≤ K j ∧ K j < own) ∧ (0 < j → K (j - 1) < K j)
/-- What stands ahead of kid j. -/
def prevK (K : Nat → Int) : Nat → Int
  | 0 => -1
  | j + 1 => K j
theorem ris_iff (K : Nat → Int) (m : Nat) (own : Int) : (∀ j, j < m → prevK K j < K j ∧ K j < own) ↔ RisA K m own := by
  refine ⟨fun h => ?_, fun h j hj => ?_⟩
  · have pos : ∀ j, j < m → 0 ≤ K j := by
      intro j
      induction j with
      | zero => intro hj; have := (h 0 hj).1; simp only [prevK] at this; omega
      | succ j ih => intro hj; have h1 := (h (j + 1) hj).1; have h2 := ih (by omega); simp only [prevK] at h1; omega
    intro j hj
    refine ⟨⟨pos j hj, (h j hj).2⟩, fun h0 => ?_⟩
    obtain ⟨i, rfl⟩ : ∃ i, j = i + 1 := ⟨j - 1, by omega⟩
    exact (h (i + 1) hj).1
  · refine ⟨?_, (h j hj).1.2⟩
    cases j with
    | zero => have := (h 0 hj).1.1; simp only [prevK]; omega
    | succ i => exact (h (i + 1) hj).2 (by omega)

/-- How often z is a kid among the first j; in the first i terms. -/
def kcnt (K : Nat → Int) : Nat → Int → Int
  | 0, _ => 0
  | j + 1, z => kcnt K j z + if z = K j then 1 else 0
def tcnt (F : Nat → Tm) : Nat → Int → Int
  | 0, _ => 0
  | i + 1, z => tcnt F i z + kcnt (F i).K (F i).m z
theorem kcnt_bound (K : Nat → Int) (z : Int) : ∀ j, 0 ≤ kcnt K j z ∧ kcnt K j z ≤ j := by
  intro j
  induction j with
  | zero => simp [kcnt]
  | succ j ih =>
    simp only [kcnt]
    by_cases e : z = K j
    · rw [if_pos e]; omega
    · rw [if_neg e]; omega
theorem tcnt_bound (F : Nat → Tm) (z : Int) : ∀ i, (∀ j, j < i → (F j).m ≤ 2 ^ 20) → 0 ≤ tcnt F i z ∧ tcnt F i z ≤ i * 2 ^ 20 := by
  intro i
  induction i with
  | zero => intro _; simp [tcnt]
  | succ i ih =>
    intro h
    have h1 := ih (fun j hj => h j (by omega))
    have h2 := kcnt_bound (F i).K z (F i).m
    have h3 := h i (by omega)
    simp only [tcnt]
    omega

/-- A GOOD FILTER. -/
def GoodF (F : Nat → Tm) (t : Nat) : Prop := (1 ≤ t ∧ t ≤ 20) ∧ (∀ i, i < t → FieldsOK (F i) ∧ RisA (F i).K (F i).m i) ∧ ∀ k : Nat, k < t - 1 → tcnt F t k = 1

set_option maxRecDepth 100000 in
set_option maxHeartbeats 2000000 in
theorem risingAhead_any (a : Option Addr) (c m : Nat) (K : Nat → Int) (own : Int) (w : World) (hm : m ≤ 2 ^ 20) (h : ArgI w a m K) :
    Calls Tryz.prog 60 #[.slice a m c, .int .i64 own] w (BoolIs (RisA K m own) w) := by
  have H : Hid (ArgI w a m K) := h
  clear h
  go_enter Tryz.func60, Tryz.ntmps60
  go_wp2_with fail
  go_loopw [5, 10] (fun l i wr => ∃ k : Nat, k ≤ m ∧ i = .int .i64 (k : Int) ∧ l = .int .i64 (prevK K k) ∧ Hid (∀ j, j < k → prevK K j < K j ∧ K j < own) ∧ Below w.heap.size w wr) (fun _ i _ => m - (intOf i).toNat)
  case atStart => exact ⟨0, Nat.zero_le _, rfl, rfl, fun j hj => by omega, Below.refl _ _⟩
  case round =>
    obtain ⟨k, hk, rfl, rfl, HJ, hnx⟩ := hrel
    by_cases hlt : k < m
    · rcases H.out with h0 | ⟨b, off, rfl, hb, hat⟩
      · omega
      have a0 := (hnx.cell hb).trans (hat k hlt)
      have i0 : (0 : Int) ≤ (k : Int) := by omega
      have i1 : (k : Int) < (m : Int) := by omega
      have HB : Hid (Below w.heap.size w wr) := hnx
      have HNO : Hid (¬ (prevK K k < K k ∧ K k < own) → ¬ RisA K m own) := fun hn hr => hn ((ris_iff K m own).2 hr k hlt)
      have HJ' : Hid (prevK K k < K k ∧ K k < own → ∀ j, j < k + 1 → prevK K j < K j ∧ K j < own) := fun h j hj => by
        by_cases e : j = k
        · subst e; exact h
        · exact HJ.out j (by omega)
      obtain ⟨x, hx⟩ : ∃ x, x = K k := ⟨_, rfl⟩
      obtain ⟨y, hy⟩ : ∃ y, y = prevK K k := ⟨_, rfl⟩
      have HX : Hid (x = prevK K (k + 1)) := hx
      rw [← hx, ← hy] at HJ' HNO
      rw [← hx] at a0
      rw [← hy]
      clear hat hnx hx hy
      by_cases c0 : x ≤ y
      · have HN : Hid (¬ RisA K m own) := HNO.out (by omega)
        go_wp2
        go_ret
        exact BoolIs.no HN.out HB.out
      · by_cases c1 : own ≤ x
        · have HN : Hid (¬ RisA K m own) := HNO.out (by omega)
          go_wp2
          go_ret
          exact BoolIs.no HN.out HB.out
        · have HY : Hid (∀ j, j < k + 1 → prevK K j < K j ∧ K j < own) := HJ'.out ⟨by omega, by omega⟩
          go_wp2
          go_roundw
          case rel => exact ⟨k + 1, by omega, by go_num, by rw [HX.out], HY, HB.out⟩
          case measure => simp [intOf]; omega
    · obtain rfl : k = m := by omega
      have HY : Hid (RisA K k own) := (ris_iff K k own).1 HJ.out
      go_wp2
      go_ret
      exact BoolIs.yes HY.out hnx

section
variable (k : Int) (p : ByteArray) (n : Nat) (N : Nat → Nd) (m : Nat) (K : Nat → Int)
theorem fields_cmp (h : k = 1 ∨ k = 2 ∨ k = 3) : FieldsOK ⟨k, p, n, N, m, K⟩ ↔ PathIs p ∧ GoodV N n ∧ m = 0 := by
  rcases h with rfl | rfl | rfl <;> simp [FieldsOK]
theorem fields_has : FieldsOK ⟨4, p, n, N, m, K⟩ ↔ PathIs p ∧ n = 0 ∧ m = 0 := by simp [FieldsOK]
theorem fields_in : FieldsOK ⟨5, p, n, N, m, K⟩ ↔ PathIs p ∧ (GoodV N n ∧ (N 0).kind = 6) ∧ m = 0 := by simp [FieldsOK]
theorem fields_all (h : k = 6 ∨ k = 7) : FieldsOK ⟨k, p, n, N, m, K⟩ ↔ p.size = 0 ∧ n = 0 := by
  rcases h with rfl | rfl <;> simp [FieldsOK]
theorem fields_not : FieldsOK ⟨8, p, n, N, m, K⟩ ↔ p.size = 0 ∧ n = 0 ∧ m = 1 := by simp [FieldsOK]
theorem fields_else (h : k < 1 ∨ 8 < k) : ¬ FieldsOK ⟨k, p, n, N, m, K⟩ := by
  unfold FieldsOK
  dsimp only
  omega
end


set_option maxHeartbeats 1000000 in
theorem isGoodList_any (a : Option Addr) (c n : Nat) (N : Nat → Nd) (w : World) (h : ArgIs w a n N) (hsm : SmallN n N) (htab : Tab w.heap.size w) :
    Calls Tryz.prog 86 #[.agg #[.slice a n c]] w (BoolIs (GoodV N n ∧ (N 0).kind = 6) w) := by
  have H : Hid (ArgIs w a n N) := h
  have HS : Hid (SmallN n N) := hsm
  have HT : Hid (Tab w.heap.size w) := htab
  clear h hsm htab
  have hal : ∀ o, Below w.heap.size w (w.alloc o) := fun o => (Below.refl _ _).alloc (Nat.le_refl _) o
  go_enter Tryz.func86, Tryz.ntmps86
  go_wp2_with fail
  refine (implGood_arg a c n N _ (H.out.below (hal _)) HS.out (HT.out.up (hal _))).mono ?_
  rintro e w1 ⟨q, rfl, hq, hb⟩
  have x1 : w1.cell? ⟨w.heap.size, 0, none⟩ = some (.slice a n c) := by rw [hb.cell (by simp)]; simp [go_sem]
  have HB : Hid (Below w.heap.size w w1) := (hal _).trans (hb.mono (by simp))
  clear hb hal
  cases q with
  | false =>
    have HN : Hid (¬ (GoodV N n ∧ (N 0).kind = 6)) := fun h => by simpa using hq.2 h.1
    clear hq
    go_wp2
    go_ret
    exact BoolIs.no HN.out HB.out
  | true =>
    have hg := hq.1 rfl
    have n0 := good_pos hg
    have HG : Hid (GoodV N n) := hg
    clear hq hg
    have n20 := HS.out.1
    rcases H.out.below HB.out with h0 | ⟨b, off, rfl, hb, hat⟩
    · omega
    have a0 := (hat 0 n0).1
    have i1 : (0 : Int) < (n : Int) := by omega
    simp only [Nat.zero_mul, Nat.add_zero] at a0
    clear hat
    go_wp2
    go_ret
    refine BoolIs.of ?_ HB.out
    have hg := HG.out
    simp [hg]

set_option maxRecDepth 100000 in
set_option maxHeartbeats 4000000 in
theorem goodFields_any (y : Tm) (va ka : Option Addr) (vc kc : Nat) (w : World) (hs : SmallT y) (hv : ArgIs w va y.n y.N) (htab : Tab w.heap.size w) (hml : ML w) :
    Calls Tryz.prog 59 #[.agg #[.int .i64 y.kind, .string y.path, .slice va y.n vc, .slice ka y.m kc]] w (BoolIs (FieldsOK y) w) := by
  obtain ⟨k, p, n, N, m, K⟩ := y
  obtain ⟨s1, s2, s3⟩ := hs
  dsimp only at hv s1 s2 s3 ⊢
  have n20 : n ≤ 2 ^ 20 := s2.1
  have HV : Hid (ArgIs w va n N) := hv
  have HS : Hid (SmallN n N) := s2
  have HT : Hid (Tab w.heap.size w) := htab
  have HM : Hid (ML w) := hml
  clear hv s2 htab hml
  have hal : ∀ o, Below w.heap.size w (w.alloc o) := fun o => (Below.refl _ _).alloc (Nat.le_refl _) o
  by_cases k1 : k = 1
  · subst k1
    have hif := fields_cmp 1 p n N m K (by decide)
    have HIF : Hid (FieldsOK ⟨1, p, n, N, m, K⟩ ↔ _) := hif
    clear hif
    go_enter Tryz.func59, Tryz.ntmps59
    go_wp2_with fail
    refine (isPath_any p _ (HM.out.below (hal _))).mono ?_
    rintro e w1 ⟨q, rfl, hq, hb⟩
    have x2 : w1.cell? ⟨w.heap.size, 2, none⟩ = some (.slice va n vc) := by rw [hb.cell (by simp)]; simp [go_sem]
    have x3 : w1.cell? ⟨w.heap.size, 3, none⟩ = some (.slice ka m kc) := by rw [hb.cell (by simp)]; simp [go_sem]
    have HB : Hid (Below w.heap.size w w1) := (hal _).trans (hb.mono (by simp))
    have z1 : w.heap.size < w1.heap.size := by have := hb.size; simp at this; omega
    clear hb hal
    cases q with
    | false =>
      have HN : Hid (¬ FieldsOK ⟨1, p, n, N, m, K⟩) := fun h => by simpa using hq.2 (HIF.out.1 h).1
      clear hq
      go_wp2
      go_ret
      exact BoolIs.no HN.out HB.out
    | true =>
      have HP : Hid (PathIs p) := hq.1 rfl
      clear hq
      go_wp2_with fail
      refine (implGood_arg va vc n N _ (HV.out.below HB.out) HS.out (HT.out.up HB.out)).mono ?_
      rintro e w2 ⟨q, rfl, hq, hb2⟩
      have y3 : w2.cell? ⟨w.heap.size, 3, none⟩ = some (.slice ka m kc) := (hb2.cell z1).trans x3
      have HB2 : Hid (Below w.heap.size w w2) := HB.out.trans (hb2.mono HB.out.size)
      clear hb2
      cases q with
      | false =>
        have HN : Hid (¬ FieldsOK ⟨1, p, n, N, m, K⟩) := fun h => by simpa using hq.2 (HIF.out.1 h).2.1
        clear hq
        go_wp2
        go_ret
        exact BoolIs.no HN.out HB2.out
      | true =>
        have HG := hq.1 rfl
        have HI2 : Hid (FieldsOK ⟨1, p, n, N, m, K⟩ ↔ m = 0) := HIF.out.trans ⟨fun h => h.2.2, fun h => ⟨HP.out, HG, h⟩⟩
        clear hq HG
        go_wp2
        go_ret
        refine BoolIs.of ?_ HB2.out
        rw [HI2.out]
        simp
  by_cases k2 : k = 2
  · subst k2
    have hif := fields_cmp 2 p n N m K (by decide)
    have HIF : Hid (FieldsOK ⟨2, p, n, N, m, K⟩ ↔ _) := hif
    clear hif
    go_enter Tryz.func59, Tryz.ntmps59
    go_wp2_with fail
    refine (isPath_any p _ (HM.out.below (hal _))).mono ?_
    rintro e w1 ⟨q, rfl, hq, hb⟩
    have x2 : w1.cell? ⟨w.heap.size, 2, none⟩ = some (.slice va n vc) := by rw [hb.cell (by simp)]; simp [go_sem]
    have x3 : w1.cell? ⟨w.heap.size, 3, none⟩ = some (.slice ka m kc) := by rw [hb.cell (by simp)]; simp [go_sem]
    have HB : Hid (Below w.heap.size w w1) := (hal _).trans (hb.mono (by simp))
    have z1 : w.heap.size < w1.heap.size := by have := hb.size; simp at this; omega
    clear hb hal
    cases q with
    | false =>
      have HN : Hid (¬ FieldsOK ⟨2, p, n, N, m, K⟩) := fun h => by simpa using hq.2 (HIF.out.1 h).1
      clear hq
      go_wp2
      go_ret
      exact BoolIs.no HN.out HB.out
    | true =>
      have HP : Hid (PathIs p) := hq.1 rfl
      clear hq
      go_wp2_with fail
      refine (implGood_arg va vc n N _ (HV.out.below HB.out) HS.out (HT.out.up HB.out)).mono ?_
      rintro e w2 ⟨q, rfl, hq, hb2⟩
      have y3 : w2.cell? ⟨w.heap.size, 3, none⟩ = some (.slice ka m kc) := (hb2.cell z1).trans x3
      have HB2 : Hid (Below w.heap.size w w2) := HB.out.trans (hb2.mono HB.out.size)
      clear hb2
      cases q with
      | false =>
        have HN : Hid (¬ FieldsOK ⟨2, p, n, N, m, K⟩) := fun h => by simpa using hq.2 (HIF.out.1 h).2.1
        clear hq
        go_wp2
        go_ret
        exact BoolIs.no HN.out HB2.out
      | true =>
        have HG := hq.1 rfl
        have HI2 : Hid (FieldsOK ⟨2, p, n, N, m, K⟩ ↔ m = 0) := HIF.out.trans ⟨fun h => h.2.2, fun h => ⟨HP.out, HG, h⟩⟩
        clear hq HG
        go_wp2
        go_ret
        refine BoolIs.of ?_ HB2.out
        rw [HI2.out]
        simp
  by_cases k3 : k = 3
  · subst k3
    have hif := fields_cmp 3 p n N m K (by decide)
    have HIF : Hid (FieldsOK ⟨3, p, n, N, m, K⟩ ↔ _) := hif
    clear hif
    go_enter Tryz.func59, Tryz.ntmps59
    go_wp2_with fail
    refine (isPath_any p _ (HM.out.below (hal _))).mono ?_
    rintro e w1 ⟨q, rfl, hq, hb⟩
    have x2 : w1.cell? ⟨w.heap.size, 2, none⟩ = some (.slice va n vc) := by rw [hb.cell (by simp)]; simp [go_sem]
    have x3 : w1.cell? ⟨w.heap.size, 3, none⟩ = some (.slice ka m kc) := by rw [hb.cell (by simp)]; simp [go_sem]
    have HB : Hid (Below w.heap.size w w1) := (hal _).trans (hb.mono (by simp))
    have z1 : w.heap.size < w1.heap.size := by have := hb.size; simp at this; omega
    clear hb hal
    cases q with
    | false =>
      have HN : Hid (¬ FieldsOK ⟨3, p, n, N, m, K⟩) := fun h => by simpa using hq.2 (HIF.out.1 h).1
      clear hq
      go_wp2
      go_ret
      exact BoolIs.no HN.out HB.out
    | true =>
      have HP : Hid (PathIs p) := hq.1 rfl
      clear hq
      go_wp2_with fail
      refine (implGood_arg va vc n N _ (HV.out.below HB.out) HS.out (HT.out.up HB.out)).mono ?_
      rintro e w2 ⟨q, rfl, hq, hb2⟩
      have y3 : w2.cell? ⟨w.heap.size, 3, none⟩ = some (.slice ka m kc) := (hb2.cell z1).trans x3
      have HB2 : Hid (Below w.heap.size w w2) := HB.out.trans (hb2.mono HB.out.size)
      clear hb2
      cases q with
      | false =>
        have HN : Hid (¬ FieldsOK ⟨3, p, n, N, m, K⟩) := fun h => by simpa using hq.2 (HIF.out.1 h).2.1
        clear hq
        go_wp2
        go_ret
        exact BoolIs.no HN.out HB2.out
      | true =>
        have HG := hq.1 rfl
        have HI2 : Hid (FieldsOK ⟨3, p, n, N, m, K⟩ ↔ m = 0) := HIF.out.trans ⟨fun h => h.2.2, fun h => ⟨HP.out, HG, h⟩⟩
        clear hq HG
        go_wp2
        go_ret
        refine BoolIs.of ?_ HB2.out
        rw [HI2.out]
        simp
  by_cases k4 : k = 4
  · subst k4
    have hif := fields_has p n N m K
    have HIF : Hid (FieldsOK ⟨4, p, n, N, m, K⟩ ↔ _) := hif
    clear hif
    go_enter Tryz.func59, Tryz.ntmps59
    go_wp2_with fail
    refine (isPath_any p _ (HM.out.below (hal _))).mono ?_
    rintro e w1 ⟨q, rfl, hq, hb⟩
    have x2 : w1.cell? ⟨w.heap.size, 2, none⟩ = some (.slice va n vc) := by rw [hb.cell (by simp)]; simp [go_sem]
    have x3 : w1.cell? ⟨w.heap.size, 3, none⟩ = some (.slice ka m kc) := by rw [hb.cell (by simp)]; simp [go_sem]
    have HB : Hid (Below w.heap.size w w1) := (hal _).trans (hb.mono (by simp))
    have z1 : w.heap.size < w1.heap.size := by have := hb.size; simp at this; omega
    clear hb hal
    cases q with
    | false =>
      have HN : Hid (¬ FieldsOK ⟨4, p, n, N, m, K⟩) := fun h => by simpa using hq.2 (HIF.out.1 h).1
      clear hq
      go_wp2
      go_ret
      exact BoolIs.no HN.out HB.out
    | true =>
      have HP : Hid (PathIs p) := hq.1 rfl
      clear hq
      by_cases n0 : n = 0
      · subst n0
        have HI2 : Hid (FieldsOK ⟨4, p, 0, N, m, K⟩ ↔ m = 0) := HIF.out.trans ⟨fun h => h.2.2, fun h => ⟨HP.out, rfl, h⟩⟩
        go_wp2
        go_ret
        refine BoolIs.of ?_ HB.out
        rw [HI2.out]
        simp
      · have HN : Hid (¬ FieldsOK ⟨4, p, n, N, m, K⟩) := fun h => n0 (HIF.out.1 h).2.1
        have n1 : ¬ ((n : Int) = 0) := by omega
        go_wp2
        go_ret
        exact BoolIs.no HN.out HB.out
  by_cases k5 : k = 5
  · subst k5
    have hif := fields_in p n N m K
    have HIF : Hid (FieldsOK ⟨5, p, n, N, m, K⟩ ↔ _) := hif
    clear hif
    go_enter Tryz.func59, Tryz.ntmps59
    go_wp2_with fail
    refine (isPath_any p _ (HM.out.below (hal _))).mono ?_
    rintro e w1 ⟨q, rfl, hq, hb⟩
    have x2 : w1.cell? ⟨w.heap.size, 2, none⟩ = some (.slice va n vc) := by rw [hb.cell (by simp)]; simp [go_sem]
    have x3 : w1.cell? ⟨w.heap.size, 3, none⟩ = some (.slice ka m kc) := by rw [hb.cell (by simp)]; simp [go_sem]
    have HB : Hid (Below w.heap.size w w1) := (hal _).trans (hb.mono (by simp))
    have z1 : w.heap.size < w1.heap.size := by have := hb.size; simp at this; omega
    clear hb hal
    cases q with
    | false =>
      have HN : Hid (¬ FieldsOK ⟨5, p, n, N, m, K⟩) := fun h => by simpa using hq.2 (HIF.out.1 h).1
      clear hq
      go_wp2
      go_ret
      exact BoolIs.no HN.out HB.out
    | true =>
      have HP : Hid (PathIs p) := hq.1 rfl
      clear hq
      go_wp2_with fail
      refine (isGoodList_any va vc n N _ (HV.out.below HB.out) HS.out (HT.out.up HB.out)).mono ?_
      rintro e w2 ⟨q, rfl, hq, hb2⟩
      have y3 : w2.cell? ⟨w.heap.size, 3, none⟩ = some (.slice ka m kc) := (hb2.cell z1).trans x3
      have HB2 : Hid (Below w.heap.size w w2) := HB.out.trans (hb2.mono HB.out.size)
      clear hb2
      cases q with
      | false =>
        have HN : Hid (¬ FieldsOK ⟨5, p, n, N, m, K⟩) := fun h => by simpa using hq.2 (HIF.out.1 h).2.1
        clear hq
        go_wp2
        go_ret
        exact BoolIs.no HN.out HB2.out
      | true =>
        have HG := hq.1 rfl
        have HI2 : Hid (FieldsOK ⟨5, p, n, N, m, K⟩ ↔ m = 0) := HIF.out.trans ⟨fun h => h.2.2, fun h => ⟨HP.out, HG, h⟩⟩
        clear hq HG
        go_wp2
        go_ret
        refine BoolIs.of ?_ HB2.out
        rw [HI2.out]
        simp
  by_cases k6 : k = 6
  · subst k6
    have HIF : Hid (FieldsOK ⟨6, p, n, N, m, K⟩ ↔ _) := fields_all 6 p n N m K (by decide)
    by_cases p0 : p.size = 0
    · have pe : p.toList = [] := (empty_iff p).2 p0
      by_cases n0 : n = 0
      · subst n0
        have HIG : Hid (FieldsOK ⟨6, p, 0, N, m, K⟩ ↔ True) := HIF.out.trans ⟨fun _ => trivial, fun _ => ⟨p0, rfl⟩⟩
        clear p0
        go_enter Tryz.func59, Tryz.ntmps59
        go_wp2
        go_ret
        refine BoolIs.of ?_ (hal _)
        rw [HIG.out]
        exact ⟨fun _ => trivial, fun _ => rfl⟩
      · have HN : Hid (¬ FieldsOK ⟨6, p, n, N, m, K⟩) := fun h => n0 (HIF.out.1 h).2
        have n1 : ((n : Int) == 0) = false := by simp; omega
        clear p0
        go_enter Tryz.func59, Tryz.ntmps59
        go_wp2
        go_ret
        first | exact BoolIs.no HN.out (hal _) | (rw [n1]; exact BoolIs.no HN.out (hal _))
    · have HN : Hid (¬ FieldsOK ⟨6, p, n, N, m, K⟩) := fun h => p0 (HIF.out.1 h).1
      have pe : ¬ p.toList = [] := fun h => p0 ((empty_iff p).1 h)
      clear p0
      go_enter Tryz.func59, Tryz.ntmps59
      go_wp2
      go_ret
      exact BoolIs.no HN.out (hal _)
  by_cases k7 : k = 7
  · subst k7
    have HIF : Hid (FieldsOK ⟨7, p, n, N, m, K⟩ ↔ _) := fields_all 7 p n N m K (by decide)
    by_cases p0 : p.size = 0
    · have pe : p.toList = [] := (empty_iff p).2 p0
      by_cases n0 : n = 0
      · subst n0
        have HIG : Hid (FieldsOK ⟨7, p, 0, N, m, K⟩ ↔ True) := HIF.out.trans ⟨fun _ => trivial, fun _ => ⟨p0, rfl⟩⟩
        clear p0
        go_enter Tryz.func59, Tryz.ntmps59
        go_wp2
        go_ret
        refine BoolIs.of ?_ (hal _)
        rw [HIG.out]
        exact ⟨fun _ => trivial, fun _ => rfl⟩
      · have HN : Hid (¬ FieldsOK ⟨7, p, n, N, m, K⟩) := fun h => n0 (HIF.out.1 h).2
        have n1 : ((n : Int) == 0) = false := by simp; omega
        clear p0
        go_enter Tryz.func59, Tryz.ntmps59
        go_wp2
        go_ret
        first | exact BoolIs.no HN.out (hal _) | (rw [n1]; exact BoolIs.no HN.out (hal _))
    · have HN : Hid (¬ FieldsOK ⟨7, p, n, N, m, K⟩) := fun h => p0 (HIF.out.1 h).1
      have pe : ¬ p.toList = [] := fun h => p0 ((empty_iff p).1 h)
      clear p0
      go_enter Tryz.func59, Tryz.ntmps59
      go_wp2
      go_ret
      exact BoolIs.no HN.out (hal _)
  by_cases k8 : k = 8
  · subst k8
    have HIF : Hid (FieldsOK ⟨8, p, n, N, m, K⟩ ↔ _) := fields_not p n N m K
    by_cases p0 : p.size = 0
    · have pe : p.toList = [] := (empty_iff p).2 p0
      by_cases n0 : n = 0
      · subst n0
        have HIG : Hid (FieldsOK ⟨8, p, 0, N, m, K⟩ ↔ m = 1) := HIF.out.trans ⟨fun h => h.2.2, fun h => ⟨p0, rfl, h⟩⟩
        clear p0
        go_enter Tryz.func59, Tryz.ntmps59
        go_wp2
        go_ret
        refine BoolIs.of ?_ (hal _)
        rw [HIG.out]
        simp; omega
      · have HN : Hid (¬ FieldsOK ⟨8, p, n, N, m, K⟩) := fun h => n0 (HIF.out.1 h).2.1
        have n1 : ((n : Int) == 0) = false := by simp; omega
        clear p0
        go_enter Tryz.func59, Tryz.ntmps59
        go_wp2
        go_ret
        first | exact BoolIs.no HN.out (hal _) | (rw [n1]; exact BoolIs.no HN.out (hal _))
    · have HN : Hid (¬ FieldsOK ⟨8, p, n, N, m, K⟩) := fun h => p0 (HIF.out.1 h).1
      have pe : ¬ p.toList = [] := fun h => p0 ((empty_iff p).1 h)
      clear p0
      go_enter Tryz.func59, Tryz.ntmps59
      go_wp2
      go_ret
      exact BoolIs.no HN.out (hal _)
  have HN : Hid (¬ FieldsOK ⟨k, p, n, N, m, K⟩) := fields_else k p n N m K (by omega)
  go_enter Tryz.func59, Tryz.ntmps59
  go_wp2
  go_ret
  exact BoolIs.no HN.out (hal _)

end Go.Proofs.YtjohocnfcnjciaaGreatDoor
namespace Go.Proofs.YtjohocnfcnjciaaGreatDoor
open Go.RowKit
set_option linter.unusedVariables false

/-- Kids among the first i terms and j of the next. -/
def cntAt (F : Nat → Tm) (i j : Nat) (z : Nat) : Int := tcnt F i z + kcnt (F i).K j z
theorem cnt_zero (F : Nat → Tm) (i : Nat) : cntAt F i 0 = fun z : Nat => tcnt F i z := by
  funext z
  simp [cntAt, kcnt]
theorem cnt_whole (F : Nat → Tm) (i : Nat) : cntAt F i (F i).m = fun z : Nat => tcnt F (i + 1) z := by
  funext z
  rfl
theorem cnt_step (F : Nat → Tm) (i j q : Nat) (h : (F i).K j = (q : Int)) : (fun z => if z = q then cntAt F i j q + 1 else cntAt F i j z) = cntAt F i (j + 1) := by
  funext z
  unfold cntAt
  simp only [kcnt, h]
  by_cases e : z = q
  · subst e
    simp
    omega
  · have e' : ¬ ((z : Int) = (q : Int)) := by omega
    simp [e, e']
theorem cnt_bound {F : Nat → Tm} {t i j : Nat} (h : ∀ i, i < t → (F i).m ≤ 2 ^ 20) (hi : i < t) (ht : t ≤ 20) (hj : j ≤ (F i).m) (z : Nat) : 0 ≤ cntAt F i j z ∧ cntAt F i j z ≤ 2 ^ 30 := by
  have h1 := tcnt_bound F z i (fun q hq => h q (by omega))
  have h2 := kcnt_bound (F i).K z j
  have h3 := h i hi
  unfold cntAt
  omega

set_option maxRecDepth 100000 in
set_option maxHeartbeats 4000000 in
theorem eachOneKid_any (a : Option Addr) (c t : Nat) (F : Nat → Tm) (w : World) (ht : 1 ≤ t ∧ t ≤ 20) (hm : ∀ i, i < t → (F i).m ≤ 2 ^ 20) (hk : ∀ i, i < t → ∀ j, j < (F i).m → 0 ≤ (F i).K j ∧ (F i).K j < i) (h : FArg w a t F) :
    Calls Tryz.prog 61 #[.slice a t c] w (BoolIs (∀ k : Nat, k < t - 1 → tcnt F t k = 1) w) := by
  have H : Hid (FArg w a t F) := h
  have HM : Hid (∀ i, i < t → (F i).m ≤ 2 ^ 20) := hm
  have HK : Hid (∀ i, i < t → ∀ j, j < (F i).m → 0 ≤ (F i).K j ∧ (F i).K j < i) := hk
  clear h hm hk
  have hmk := make_ints t (by omega)
  have n1 := ints_made t w 3
  obtain ⟨W, hW⟩ : ∃ W, W = w.alloc (.cells (madeCells #[.int .i64 0] t) 3) := ⟨_, rfl⟩
  have hsz : W.heap.size = w.heap.size + 1 := by rw [hW]; simp
  have hbl : Below w.heap.size w W := by rw [hW]; go_grown
  rw [← hW] at n1
  have hmw := hmk w
  rw [← hW] at hmw
  clear hmk
  have HN : Hid (IntsAt W w.heap.size t (fun z => tcnt F 0 z)) := n1.same fun i hi => rfl
  clear n1 hW
  obtain ⟨t0, t1⟩ := ht
  go_enter Tryz.func61, Tryz.ntmps61
  go_wp2_with fail
  go_loopw [15] (fun i wr => ∃ k : Nat, k ≤ t ∧ i = .int .i64 (k : Int) ∧ w.heap.size < wr.heap.size ∧ Below w.heap.size w wr ∧ Hid (IntsAt wr w.heap.size t (fun z => tcnt F k z))) (fun i _ => t - (intOf i).toNat)
  case atStart => exact ⟨0, Nat.zero_le _, rfl, by omega, hbl, HN⟩
  case round =>
    obtain ⟨k, hk, rfl, hz, hnx, HI⟩ := hrel
    by_cases hlt : k < t
    · obtain ⟨b, off, va, vc, ka, kc, rfl, hb, a0, a1, a2, a3, _, hkk⟩ := H.out.at hlt
      replace a0 := (hnx.cell hb).trans a0
      replace a1 := (hnx.cell hb).trans a1
      replace a2 := (hnx.cell hb).trans a2
      replace a3 := (hnx.cell hb).trans a3
      have i0 : (0 : Int) ≤ (k : Int) := by omega
      have i1 : (k : Int) < (t : Int) := by omega
      have hm0 := HM.out k hlt
      have HKK : Hid (ArgI w ka (F k).m (F k).K) := hkk
      have HKB : Hid (∀ j, j < (F k).m → 0 ≤ (F k).K j ∧ (F k).K j < k) := HK.out k hlt
      have HCB : Hid (∀ j z, j ≤ (F k).m → 0 ≤ cntAt F k j z ∧ cntAt F k j z ≤ 2 ^ 30) := fun j z hj => cnt_bound HM.out hlt t1 hj z
      have HI0 : Hid (IntsAt wr w.heap.size t (cntAt F k 0)) := by rw [cnt_zero]; exact HI
      have HCW : Hid (cntAt F k (F k).m = fun z : Nat => tcnt F (k + 1) z) := cnt_whole F k
      have HCS : Hid (∀ j q : Nat, (F k).K j = (q : Int) → (fun z => if z = q then cntAt F k j q + 1 else cntAt F k j z) = cntAt F k (j + 1)) := cnt_step F k
      obtain ⟨m, hm⟩ : ∃ m, m = (F k).m := ⟨_, rfl⟩
      obtain ⟨K, hK⟩ : ∃ K, K = (F k).K := ⟨_, rfl⟩
      obtain ⟨C, hC⟩ : ∃ C, C = cntAt F k := ⟨_, rfl⟩
      rw [← hm] at a3 hm0 HKK HKB HCB HCW
      rw [← hK] at HKK HKB HCS
      rw [← hC] at HCB HI0 HCW HCS
      clear hkk hm hK hC HI
      go_wp2_with fail
      have HWA : ∀ o, Below wr.heap.size wr (wr.alloc o) := fun o => (Below.refl _ _).alloc (Nat.le_refl _) o
      go_loopw [22] (fun i wr2 => ∃ j : Nat, j ≤ m ∧ i = .int .i64 (j : Int) ∧ w.heap.size < wr2.heap.size ∧ Below w.heap.size w wr2 ∧ Hid (IntsAt wr2 w.heap.size t (C j))) (fun i _ => m - (intOf i).toNat)
      case atStart => exact ⟨0, Nat.zero_le _, rfl, by simp; omega, hnx.trans ((HWA _).mono hnx.size), HI0.out.below (HWA _) hz⟩
      case round =>
        clear HI0 HWA a0 a1 a2 a3 hnx hz
        obtain ⟨j, hj, rfl, hz2, hnx2, HI⟩ := hrel
        by_cases hjm : j < m
        · rcases HKK.out with h0 | ⟨b', off', rfl, hb', hat⟩
          · omega
          have d0 := (hnx2.cell hb').trans (hat j hjm)
          obtain ⟨k0, k1⟩ := HKB.out j hjm
          obtain ⟨q, hq⟩ : ∃ q : Nat, K j = (q : Int) := ⟨(K j).toNat, by omega⟩
          rw [hq] at d0 k0 k1
          have hqt : q < t := by omega
          have e0 := (HI.out q hqt).1
          have e1 := (HI.out q hqt).2
          obtain ⟨cb0, cb1⟩ := HCB.out j q hj
          have HIS : Hid (IntsAt (wr.setCell ⟨w.heap.size, q, none⟩ (.int .i64 (C j q + 1))) w.heap.size t (C (j + 1))) := by
            rw [← HCS.out j q hq]
            exact HI.out.set hqt (C j q + 1)
          have j0 : (0 : Int) ≤ (j : Int) := by omega
          have j1 : (j : Int) < (m : Int) := by omega
          have q0 : (0 : Int) ≤ (q : Int) := by omega
          have q1 : (q : Int) < (t : Int) := by omega
          have HBS : Hid (Below w.heap.size w (wr.setCell ⟨w.heap.size, q, none⟩ (.int .i64 (C j q + 1)))) := hnx2.setCell (p := ⟨w.heap.size, _, none⟩) (Nat.le_refl _) _
          clear hat hq
          obtain ⟨x, hx⟩ : ∃ x, x = C j q := ⟨_, rfl⟩
          rw [← hx] at e0 cb0 cb1 HIS HBS
          clear hx
          go_wp2
          go_roundw
          case rel => exact ⟨j + 1, by omega, by go_num, by simpa [World.setCell] using hz2, HBS.out, HIS⟩
          case measure => simp [intOf]; omega
        · obtain rfl : j = m := by omega
          go_wp2
          go_roundw
          case rel => exact ⟨k + 1, by omega, by go_num, hz2, hnx2, by have := HI.out; rw [HCW.out] at this; exact this⟩
          case measure => simp [intOf]; omega
    · obtain rfl : k = t := by omega
      go_wp2_with fail
      go_loopw [40] (fun i wr2 => ∃ j : Nat, j ≤ k - 1 ∧ i = .int .i64 (j : Int) ∧ wr2 = wr ∧ Hid (∀ z : Nat, z < j → tcnt F k z = 1)) (fun i _ => k - (intOf i).toNat)
      case atStart => exact ⟨0, Nat.zero_le _, rfl, rfl, fun z hz => by omega⟩
      case round =>
        obtain ⟨j, hj, rfl, rfl, HJ⟩ := hrel
        by_cases hjm : j < k - 1
        · have e0 := (HI.out j (by omega)).1
          dsimp only at e0
          have j0 : (0 : Int) ≤ (j : Int) := by omega
          have j1 : (j : Int) < ((k - 1 : Nat) : Int) := by omega
          have HJ' : Hid (tcnt F k j = 1 → ∀ z : Nat, z < j + 1 → tcnt F k z = 1) := fun h z hz => by
            by_cases e : z = j
            · subst e; exact h
            · exact HJ.out z (by omega)
          by_cases h1 : tcnt F k j = 1
          · have HY := HJ'.out h1
            rw [h1] at e0
            have HY' : Hid (∀ z : Nat, z < j + 1 → tcnt F k z = 1) := HY
            clear HY h1
            go_wp2
            go_roundw
            case rel => exact ⟨j + 1, by omega, by go_num, trivial, HY'⟩
            case measure => simp [intOf]; omega
          · have HN : Hid (¬ ∀ z : Nat, z < k - 1 → tcnt F k z = 1) := fun h => h1 (h j hjm)
            obtain ⟨x, hx⟩ : ∃ x, x = tcnt F k j := ⟨_, rfl⟩
            rw [← hx] at e0 h1
            clear hx
            go_wp2
            go_ret
            exact BoolIs.no HN.out hnx
        · obtain rfl : j = k - 1 := by omega
          go_wp2
          go_ret
          exact BoolIs.yes HJ.out hnx

end Go.Proofs.YtjohocnfcnjciaaGreatDoor
namespace Go.Proofs.YtjohocnfcnjciaaGreatDoor
open Go.RowKit
set_option linter.unusedVariables false

set_option maxRecDepth 100000 in
set_option maxHeartbeats 4000000 in
theorem implGoodF_any (a : Option Addr) (c t : Nat) (F : Nat → Tm) (w : World) (h : FArg w a t F) (hs : SmallF t F) (htab : Tab w.heap.size w) (hml : ML w) :
    Calls Tryz.prog 35 #[.agg #[.slice a t c]] w (BoolIs (GoodF F t) w) := by
  have H : Hid (FArg w a t F) := h
  have HS : Hid (SmallF t F) := hs
  have HT : Hid (Tab w.heap.size w) := htab
  have HML : Hid (ML w) := hml
  have t20 := hs.1
  clear h hs htab hml
  have hal : ∀ o, Below w.heap.size w (w.alloc o) := fun o => (Below.refl _ _).alloc (Nat.le_refl _) o
  by_cases t0 : t = 0
  · subst t0
    have HN : Hid (¬ GoodF F 0) := fun h => by have := h.1.1; omega
    go_enter Tryz.func35, Tryz.ntmps35
    go_wp2
    go_ret
    exact BoolIs.no HN.out (hal _)
  by_cases t1 : 20 < t
  · have HN : Hid (¬ GoodF F t) := fun h => by have := h.1.2; omega
    have t2 : ((t : Int) == 0) = false := by simp; omega
    go_enter Tryz.func35, Tryz.ntmps35
    go_wp2
    go_ret
    exact BoolIs.no HN.out (hal _)
  have t2 : ((t : Int) == 0) = false := by simp; omega
  go_enter Tryz.func35, Tryz.ntmps35
  go_wp2_with fail
  go_loopw [18] (fun i wr => ∃ k : Nat, k ≤ t ∧ i = .int .i64 (k : Int) ∧ w.heap.size < wr.heap.size ∧ Below w.heap.size w wr ∧ wr.cell? ⟨w.heap.size, 0, none⟩ = some (.slice a t c) ∧ Hid (∀ j, j < k → FieldsOK (F j) ∧ RisA (F j).K (F j).m j)) (fun i _ => t - (intOf i).toNat)
  case atStart => exact ⟨0, Nat.zero_le _, rfl, by simp, hal _, by simp [go_sem], fun j hj => by omega⟩
  case round =>
    obtain ⟨k, hk, rfl, hz, hnx, hf, HJ⟩ := hrel
    by_cases hlt : k < t
    · obtain ⟨b, off, va, vc, ka, kc, rfl, hb, a0, a1, a2, a3, hv, hkk⟩ := (H.out.below hnx).at hlt
      have i0 : (0 : Int) ≤ (k : Int) := by omega
      have i1 : (k : Int) < (t : Int) := by omega
      have HV : Hid (ArgIs wr va (F k).n (F k).N ∧ ArgI wr ka (F k).m (F k).K) := ⟨hv, hkk⟩
      have HSK : Hid (SmallT (F k)) := HS.out.2 k hlt
      have HNX : Hid (Below w.heap.size w wr) := hnx
      have HWA : ∀ o, Below wr.heap.size wr (wr.alloc o) := fun o => (Below.refl _ _).alloc (Nat.le_refl _) o
      clear hv hkk hnx
      go_wp2_with fail
      refine (goodFields_any (F k) va ka vc kc _ HSK.out (HV.out.1.below (HWA _)) (HT.out.up (HNX.out.trans ((HWA _).mono HNX.out.size))) (HML.out.below (HNX.out.trans ((HWA _).mono HNX.out.size)))).mono ?_
      rintro e w1 ⟨q, rfl, hq, hb1⟩
      have x3 : w1.cell? ⟨wr.heap.size, 3, none⟩ = some (.slice ka (F k).m kc) := by rw [hb1.cell (by simp)]; simp [World.cell?_alloc_new]
      have B1 : Below wr.heap.size wr w1 := (HWA _).trans (hb1.mono (by simp))
      have z1 : wr.heap.size < w1.heap.size := by have := hb1.size; simp at this; omega
      have hf1 : w1.cell? ⟨w.heap.size, 0, none⟩ = some (.slice (some ⟨b, off, none⟩) t c) := (B1.cell hz).trans hf
      have HB1 : Hid (Below w.heap.size w w1) := HNX.out.trans (B1.mono HNX.out.size)
      have HK1 : Hid (ArgI w1 ka (F k).m (F k).K) := HV.out.2.below B1
      clear hb1 B1 HWA
      cases q with
      | false =>
        have HN : Hid (¬ GoodF F t) := fun h => by simpa using hq.2 (h.2.1 k hlt).1
        clear hq
        go_wp2
        go_ret
        exact BoolIs.no HN.out HB1.out
      | true =>
        have HFK : Hid (FieldsOK (F k)) := hq.1 rfl
        clear hq
        go_wp2_with fail
        refine (risingAhead_any ka kc (F k).m (F k).K k _ HSK.out.2.2 HK1.out).mono ?_
        rintro e w2 ⟨q, rfl, hq, hb2⟩
        have hf2 : w2.cell? ⟨w.heap.size, 0, none⟩ = some (.slice (some ⟨b, off, none⟩) t c) := (hb2.cell (by show w.heap.size < _; omega)).trans hf1
        have z2 := hb2.size
        have HB2 : Hid (Below w.heap.size w w2) := HB1.out.trans (hb2.mono HB1.out.size)
        clear hb2
        cases q with
        | false =>
          have HN : Hid (¬ GoodF F t) := fun h => by simpa using hq.2 (h.2.1 k hlt).2
          clear hq
          go_wp2
          go_ret
          exact BoolIs.no HN.out HB2.out
        | true =>
          have HJ' : Hid (∀ j, j < k + 1 → FieldsOK (F j) ∧ RisA (F j).K (F j).m j) := fun j hj => by
            by_cases e : j = k
            · subst e; exact ⟨HFK.out, hq.1 rfl⟩
            · exact HJ.out j (by omega)
          clear hq
          go_wp2
          go_roundw
          case rel => exact ⟨k + 1, by omega, by go_num, by omega, HB2.out, hf2, HJ'⟩
          case measure => simp [intOf]; omega
    · obtain rfl : k = t := by omega
      have HNX : Hid (Below w.heap.size w wr) := hnx
      clear hnx
      go_wp2_with fail
      refine (eachOneKid_any a c k F _ ⟨by omega, by omega⟩ (fun i hi => (HS.out.2 i hi).2.2) (fun i hi j hj => ((HJ.out i hi).2 j hj).1) (H.out.below HNX.out)).mono ?_
      rintro e w1 ⟨q, rfl, hq, hb1⟩
      have HQ : Hid (q = true ↔ GoodF F k) := ⟨fun h => ⟨⟨by omega, by omega⟩, HJ.out, hq.1 h⟩, fun h => hq.2 h.2.2⟩
      have HB1 : Hid (Below w.heap.size w w1) := HNX.out.trans (hb1.mono HNX.out.size)
      clear hb1 hq
      go_wp2
      go_ret
      exact BoolIs.of HQ.out HB1.out

end Go.Proofs.YtjohocnfcnjciaaGreatDoor
