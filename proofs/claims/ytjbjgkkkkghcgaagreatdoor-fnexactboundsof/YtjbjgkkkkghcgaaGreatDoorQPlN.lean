/- Whether a text is a path, and a value good, wherever it lies. What a good filter is, and the program's small walks that ask for it. Rows of terms while they are built. Terms put behind others, kids' numbers so much more: the program's appendTerms. Each term but the last is one term's kid: the program's walk. Whether a filter is good: the program. A term put above others; what a function answers that makes a filter. A plain filter: clauses turned, and told as terms again. A plain filter: good clauses stay good, and are not too many. -/
import Derived.Test.YtjbjgkkkkghcgaaGreatDoorGoodOwn
import Derived.Test.YtjbjgkkkkghcgaaGreatDoorQPathO
import Derived.Test.YtjbjgkkkkghcgaaGreatDoorQClT
import Derived.Test.YtjbjgkkkkghcgaaGreatDoorQFilTo
import Derived.Deep.AppendLies
import Derived.Laws.OwnMore
import Derived.Lib.AppendZeros
import Derived.Test.YtjbjgkkkkghcgaaGreatDoorQuote
import Derived.Deep.DeepFit
namespace Go.Proofs.YtjbjgkkkkghcgaaGreatDoor
open Go.RowKit
set_option linter.unusedVariables false

/-- The text is a path. -/
def PathIs (s : ByteArray) : Prop := (namesL s.data.toList).isSome = true

set_option maxHeartbeats 400000 in
theorem isPath_any (s : ByteArray) (w : World) (hml : ML w) :
    Calls Tryz.prog 15 #[.string s] w (BoolIs (PathIs s) w) := by
  have HM : Hid (ML w) := hml
  clear hml
  go_enter Tryz.func15, Tryz.ntmps15
  go_wp2_with fail
  refine (implPathOf_any s _ HM.out).mono ?_
  rintro e w1 ⟨v, g, rfl, _, _, hb⟩
  go_wp2
  go_ret
  exact BoolIs.of Iff.rfl hb

theorem implGood_arg (a : Option Addr) (c n : Nat) (N : Nat → Nd) (w : World) (h : ArgIs w a n N) (hsm : SmallN n N) (htab : Tab w.heap.size w) :
    Calls Tryz.prog 45 #[.agg #[.slice a n c]] w (BoolIs (GoodV N n) w) := by
  by_cases h0 : n = 0
  · subst h0; exact implGood_none a c N w
  rcases h with h | ⟨b, off, rfl, hb, hat⟩
  · exact absurd h h0
  · exact implGood_some b off c n N w hb hat hsm htab (by omega)
theorem specGood_arg (a : Option Addr) (c n : Nat) (N : Nat → Nd) (w : World) (h : ArgIs w a n N) (hsm : SmallN n N) :
    Calls Tryz.prog 24 #[.agg #[.slice a n c]] w (BoolIs (GoodV N n) w) := by
  by_cases h0 : n = 0
  · subst h0; exact specGood_none a c N w
  rcases h with h | ⟨b, off, rfl, hb, hat⟩
  · exact absurd h h0
  · exact specGood_some b off c n N w hb hat hsm
theorem empty_iff (p : ByteArray) : p.toList = [] ↔ p.size = 0 := by
  rw [ByteArray.toList_eq]
  show p.data.toList = [] ↔ p.data.size = 0
  rw [Array.toList_eq_nil_iff, Array.size_eq_zero_iff]

theorem good_pos {N : Nat → Nd} {n : Nat} (h : GoodV N n) : 0 < n := by have := h.1.1; omega

end Go.Proofs.YtjbjgkkkkghcgaaGreatDoor
namespace Go.Proofs.YtjbjgkkkkghcgaaGreatDoor
open Go.RowKit
set_option linter.unusedVariables false

/-- A term's fields are as its kind asks. -/
def FieldsOK (x : Tm) : Prop :=
  ((x.kind = 1 ∨ x.kind = 2 ∨ x.kind = 3) ∧ PathIs x.path ∧ GoodV x.N x.n ∧ x.m = 0) ∨
  (x.kind = 4 ∧ PathIs x.path ∧ x.n = 0 ∧ x.m = 0) ∨
  (x.kind = 5 ∧ PathIs x.path ∧ (GoodV x.N x.n ∧ (x.N 0).kind = 6) ∧ x.m = 0) ∨
  ((x.kind = 6 ∨ x.kind = 7) ∧ x.path.size = 0 ∧ x.n = 0) ∨
  (x.kind = 8 ∧ x.path.size = 0 ∧ x.n = 0 ∧ x.m = 1)
/-- The kids rise and stand ahead of own. -/
def RisA (K : Nat → Int) (m : Nat) (own : Int) : Prop := ∀ j, j < m → (0 ≤ K j ∧ K j < own) ∧ (0 < j → K (j - 1) < K j)
/-- What stands ahead of kid j. -/
def prevK (K : Nat → Int) : Nat → Int
  | 0 => -1
  | j + 1 => K j
theorem ris_iff (K : Nat → Int) (m : Nat) (own : Int) : (∀ j, j < m → prevK K j < K j ∧ K j < own) ↔ RisA K m own := by
  refine ⟨fun h => ?_, fun h j hj => ?_⟩
  · have pos : ∀ j, j < m → 0 ≤ K j := by
      intro j
      induction j with
      | zero => intro hj; have := (h 0 hj).1; simp only [prevK] at this; omega
      | succ j ih => intro hj; have h1 := (h (j + 1) hj).1; have h2 := ih (by omega); simp only [prevK] at h1; omega
    intro j hj
    refine ⟨⟨pos j hj, (h j hj).2⟩, fun h0 => ?_⟩
    obtain ⟨i, rfl⟩ : ∃ i, j = i + 1 := ⟨j - 1, by omega⟩
    exact (h (i + 1) hj).1
  · refine ⟨?_, (h j hj).1.2⟩
    cases j with
    | zero => have := (h 0 hj).1.1; simp only [prevK]; omega
    | succ i => exact (h (i + 1) hj).2 (by omega)

/-- How often z is a kid among the first j; in the first i terms. -/
def kcnt (K : Nat → Int) : Nat → Int → Int
  | 0, _ => 0
  | j + 1, z => kcnt K j z + if z = K j then 1 else 0
def tcnt (F : Nat → Tm) : Nat → Int → Int
  | 0, _ => 0
  | i + 1, z => tcnt F i z + kcnt (F i).K (F i).m z
theorem kcnt_bound (K : Nat → Int) (z : Int) : ∀ j, 0 ≤ kcnt K j z ∧ kcnt K j z ≤ j := by
  intro j
  induction j with
  | zero => simp [kcnt]
  | succ j ih =>
    simp only [kcnt]
    by_cases e : z = K j
    · rw [if_pos e]; omega
    · rw [if_neg e]; omega
theorem tcnt_bound (F : Nat → Tm) (z : Int) : ∀ i, (∀ j, j < i → (F j).m ≤ 2 ^ 20) → 0 ≤ tcnt F i z ∧ tcnt F i z ≤ i * 2 ^ 20 := by
  intro i
  induction i with
  | zero => intro _; simp [tcnt]
  | succ i ih =>
    intro h
    have h1 := ih (fun j hj => h j (by omega))
    have h2 := kcnt_bound (F i).K z (F i).m
    have h3 := h i (by omega)
    simp only [tcnt]
    omega

/-- A GOOD FILTER. -/
def GoodF (F : Nat → Tm) (t : Nat) : Prop := (1 ≤ t ∧ t ≤ 20) ∧ (∀ i, i < t → FieldsOK (F i) ∧ RisA (F i).K (F i).m i) ∧ ∀ k : Nat, k < t - 1 → tcnt F t k = 1

set_option maxRecDepth 100000 in
set_option maxHeartbeats 2000000 in
theorem risingAhead_any (a : Option Addr) (c m : Nat) (K : Nat → Int) (own : Int) (w : World) (hm : m ≤ 2 ^ 20) (h : ArgI w a m K) :
    Calls Tryz.prog 31 #[.slice a m c, .int .i64 own] w (BoolIs (RisA K m own) w) := by
  have H : Hid (ArgI w a m K) := h
  clear h
  go_enter Tryz.func31, Tryz.ntmps31
  go_wp2_with fail
  go_loopw [5, 10] (fun l i wr => ∃ k : Nat, k ≤ m ∧ i = .int .i64 (k : Int) ∧ l = .int .i64 (prevK K k) ∧ Hid (∀ j, j < k → prevK K j < K j ∧ K j < own) ∧ Below w.heap.size w wr) (fun _ i _ => m - (intOf i).toNat)
  case atStart => exact ⟨0, Nat.zero_le _, rfl, rfl, fun j hj => by omega, Below.refl _ _⟩
  case round =>
    obtain ⟨k, hk, rfl, rfl, HJ, hnx⟩ := hrel
    by_cases hlt : k < m
    · rcases H.out with h0 | ⟨b, off, rfl, hb, hat⟩
      · omega
      have a0 := (hnx.cell hb).trans (hat k hlt)
      have i0 : (0 : Int) ≤ (k : Int) := by omega
      have i1 : (k : Int) < (m : Int) := by omega
      have HB : Hid (Below w.heap.size w wr) := hnx
      have HNO : Hid (¬ (prevK K k < K k ∧ K k < own) → ¬ RisA K m own) := fun hn hr => hn ((ris_iff K m own).2 hr k hlt)
      have HJ' : Hid (prevK K k < K k ∧ K k < own → ∀ j, j < k + 1 → prevK K j < K j ∧ K j < own) := fun h j hj => by
        by_cases e : j = k
        · subst e; exact h
        · exact HJ.out j (by omega)
      obtain ⟨x, hx⟩ : ∃ x, x = K k := ⟨_, rfl⟩
      obtain ⟨y, hy⟩ : ∃ y, y = prevK K k := ⟨_, rfl⟩
      have HX : Hid (x = prevK K (k + 1)) := hx
      rw [← hx, ← hy] at HJ' HNO
      rw [← hx] at a0
      rw [← hy]
      clear hat hnx hx hy
      by_cases c0 : x ≤ y
      · have HN : Hid (¬ RisA K m own) := HNO.out (by omega)
        go_wp2
        go_ret
        exact BoolIs.no HN.out HB.out
      · by_cases c1 : own ≤ x
        · have HN : Hid (¬ RisA K m own) := HNO.out (by omega)
          go_wp2
          go_ret
          exact BoolIs.no HN.out HB.out
        · have HY : Hid (∀ j, j < k + 1 → prevK K j < K j ∧ K j < own) := HJ'.out ⟨by omega, by omega⟩
          go_wp2
          go_roundw
          case rel => exact ⟨k + 1, by omega, by go_num, by rw [HX.out], HY, HB.out⟩
          case measure => simp [intOf]; omega
    · obtain rfl : k = m := by omega
      have HY : Hid (RisA K k own) := (ris_iff K k own).1 HJ.out
      go_wp2
      go_ret
      exact BoolIs.yes HY.out hnx

section
variable (k : Int) (p : ByteArray) (n : Nat) (N : Nat → Nd) (m : Nat) (K : Nat → Int)
theorem fields_cmp (h : k = 1 ∨ k = 2 ∨ k = 3) : FieldsOK ⟨k, p, n, N, m, K⟩ ↔ PathIs p ∧ GoodV N n ∧ m = 0 := by
  rcases h with rfl | rfl | rfl <;> simp [FieldsOK]
theorem fields_has : FieldsOK ⟨4, p, n, N, m, K⟩ ↔ PathIs p ∧ n = 0 ∧ m = 0 := by simp [FieldsOK]
theorem fields_in : FieldsOK ⟨5, p, n, N, m, K⟩ ↔ PathIs p ∧ (GoodV N n ∧ (N 0).kind = 6) ∧ m = 0 := by simp [FieldsOK]
theorem fields_all (h : k = 6 ∨ k = 7) : FieldsOK ⟨k, p, n, N, m, K⟩ ↔ p.size = 0 ∧ n = 0 := by
  rcases h with rfl | rfl <;> simp [FieldsOK]
theorem fields_not : FieldsOK ⟨8, p, n, N, m, K⟩ ↔ p.size = 0 ∧ n = 0 ∧ m = 1 := by simp [FieldsOK]
theorem fields_else (h : k < 1 ∨ 8 < k) : ¬ FieldsOK ⟨k, p, n, N, m, K⟩ := by
  unfold FieldsOK
  dsimp only
  omega
end


set_option maxHeartbeats 1000000 in
theorem isGoodList_any (a : Option Addr) (c n : Nat) (N : Nat → Nd) (w : World) (h : ArgIs w a n N) (hsm : SmallN n N) (htab : Tab w.heap.size w) :
    Calls Tryz.prog 46 #[.agg #[.slice a n c]] w (BoolIs (GoodV N n ∧ (N 0).kind = 6) w) := by
  have H : Hid (ArgIs w a n N) := h
  have HS : Hid (SmallN n N) := hsm
  have HT : Hid (Tab w.heap.size w) := htab
  clear h hsm htab
  have hal : ∀ o, Below w.heap.size w (w.alloc o) := fun o => (Below.refl _ _).alloc (Nat.le_refl _) o
  go_enter Tryz.func46, Tryz.ntmps46
  go_wp2_with fail
  refine (implGood_arg a c n N _ (H.out.below (hal _)) HS.out (HT.out.up (hal _))).mono ?_
  rintro e w1 ⟨q, rfl, hq, hb⟩
  have x1 : w1.cell? ⟨w.heap.size, 0, none⟩ = some (.slice a n c) := by rw [hb.cell (by simp)]; simp [go_sem]
  have HB : Hid (Below w.heap.size w w1) := (hal _).trans (hb.mono (by simp))
  clear hb hal
  cases q with
  | false =>
    have HN : Hid (¬ (GoodV N n ∧ (N 0).kind = 6)) := fun h => by simpa using hq.2 h.1
    clear hq
    go_wp2
    go_ret
    exact BoolIs.no HN.out HB.out
  | true =>
    have hg := hq.1 rfl
    have n0 := good_pos hg
    have HG : Hid (GoodV N n) := hg
    clear hq hg
    have n20 := HS.out.1
    rcases H.out.below HB.out with h0 | ⟨b, off, rfl, hb, hat⟩
    · omega
    have a0 := (hat 0 n0).1
    have i1 : (0 : Int) < (n : Int) := by omega
    simp only [Nat.zero_mul, Nat.add_zero] at a0
    clear hat
    go_wp2
    go_ret
    refine BoolIs.of ?_ HB.out
    have hg := HG.out
    simp [hg]

set_option maxRecDepth 100000 in
set_option maxHeartbeats 4000000 in
theorem goodFields_any (y : Tm) (va ka : Option Addr) (vc kc : Nat) (w : World) (hs : SmallT y) (hv : ArgIs w va y.n y.N) (htab : Tab w.heap.size w) (hml : ML w) :
    Calls Tryz.prog 30 #[.agg #[.int .i64 y.kind, .string y.path, .slice va y.n vc, .slice ka y.m kc]] w (BoolIs (FieldsOK y) w) := by
  obtain ⟨k, p, n, N, m, K⟩ := y
  obtain ⟨s1, s2, s3⟩ := hs
  dsimp only at hv s1 s2 s3 ⊢
  have n20 : n ≤ 2 ^ 20 := s2.1
  have HV : Hid (ArgIs w va n N) := hv
  have HS : Hid (SmallN n N) := s2
  have HT : Hid (Tab w.heap.size w) := htab
  have HM : Hid (ML w) := hml
  clear hv s2 htab hml
  have hal : ∀ o, Below w.heap.size w (w.alloc o) := fun o => (Below.refl _ _).alloc (Nat.le_refl _) o
  by_cases k1 : k = 1
  · subst k1
    have hif := fields_cmp 1 p n N m K (by decide)
    have HIF : Hid (FieldsOK ⟨1, p, n, N, m, K⟩ ↔ _) := hif
    clear hif
    go_enter Tryz.func30, Tryz.ntmps30
    go_wp2_with fail
    refine (isPath_any p _ (HM.out.below (hal _))).mono ?_
    rintro e w1 ⟨q, rfl, hq, hb⟩
    have x2 : w1.cell? ⟨w.heap.size, 2, none⟩ = some (.slice va n vc) := by rw [hb.cell (by simp)]; simp [go_sem]
    have x3 : w1.cell? ⟨w.heap.size, 3, none⟩ = some (.slice ka m kc) := by rw [hb.cell (by simp)]; simp [go_sem]
    have HB : Hid (Below w.heap.size w w1) := (hal _).trans (hb.mono (by simp))
    have z1 : w.heap.size < w1.heap.size := by have := hb.size; simp at this; omega
    clear hb hal
    cases q with
    | false =>
      have HN : Hid (¬ FieldsOK ⟨1, p, n, N, m, K⟩) := fun h => by simpa using hq.2 (HIF.out.1 h).1
      clear hq
      go_wp2
      go_ret
      exact BoolIs.no HN.out HB.out
    | true =>
      have HP : Hid (PathIs p) := hq.1 rfl
      clear hq
      go_wp2_with fail
      refine (implGood_arg va vc n N _ (HV.out.below HB.out) HS.out (HT.out.up HB.out)).mono ?_
      rintro e w2 ⟨q, rfl, hq, hb2⟩
      have y3 : w2.cell? ⟨w.heap.size, 3, none⟩ = some (.slice ka m kc) := (hb2.cell z1).trans x3
      have HB2 : Hid (Below w.heap.size w w2) := HB.out.trans (hb2.mono HB.out.size)
      clear hb2
      cases q with
      | false =>
        have HN : Hid (¬ FieldsOK ⟨1, p, n, N, m, K⟩) := fun h => by simpa using hq.2 (HIF.out.1 h).2.1
        clear hq
        go_wp2
        go_ret
        exact BoolIs.no HN.out HB2.out
      | true =>
        have HG := hq.1 rfl
        have HI2 : Hid (FieldsOK ⟨1, p, n, N, m, K⟩ ↔ m = 0) := HIF.out.trans ⟨fun h => h.2.2, fun h => ⟨HP.out, HG, h⟩⟩
        clear hq HG
        go_wp2
        go_ret
        refine BoolIs.of ?_ HB2.out
        rw [HI2.out]
        simp
  by_cases k2 : k = 2
  · subst k2
    have hif := fields_cmp 2 p n N m K (by decide)
    have HIF : Hid (FieldsOK ⟨2, p, n, N, m, K⟩ ↔ _) := hif
    clear hif
    go_enter Tryz.func30, Tryz.ntmps30
    go_wp2_with fail
    refine (isPath_any p _ (HM.out.below (hal _))).mono ?_
    rintro e w1 ⟨q, rfl, hq, hb⟩
    have x2 : w1.cell? ⟨w.heap.size, 2, none⟩ = some (.slice va n vc) := by rw [hb.cell (by simp)]; simp [go_sem]
    have x3 : w1.cell? ⟨w.heap.size, 3, none⟩ = some (.slice ka m kc) := by rw [hb.cell (by simp)]; simp [go_sem]
    have HB : Hid (Below w.heap.size w w1) := (hal _).trans (hb.mono (by simp))
    have z1 : w.heap.size < w1.heap.size := by have := hb.size; simp at this; omega
    clear hb hal
    cases q with
    | false =>
      have HN : Hid (¬ FieldsOK ⟨2, p, n, N, m, K⟩) := fun h => by simpa using hq.2 (HIF.out.1 h).1
      clear hq
      go_wp2
      go_ret
      exact BoolIs.no HN.out HB.out
    | true =>
      have HP : Hid (PathIs p) := hq.1 rfl
      clear hq
      go_wp2_with fail
      refine (implGood_arg va vc n N _ (HV.out.below HB.out) HS.out (HT.out.up HB.out)).mono ?_
      rintro e w2 ⟨q, rfl, hq, hb2⟩
      have y3 : w2.cell? ⟨w.heap.size, 3, none⟩ = some (.slice ka m kc) := (hb2.cell z1).trans x3
      have HB2 : Hid (Below w.heap.size w w2) := HB.out.trans (hb2.mono HB.out.size)
      clear hb2
      cases q with
      | false =>
        have HN : Hid (¬ FieldsOK ⟨2, p, n, N, m, K⟩) := fun h => by simpa using hq.2 (HIF.out.1 h).2.1
        clear hq
        go_wp2
        go_ret
        exact BoolIs.no HN.out HB2.out
      | true =>
        have HG := hq.1 rfl
        have HI2 : Hid (FieldsOK ⟨2, p, n, N, m, K⟩ ↔ m = 0) := HIF.out.trans ⟨fun h => h.2.2, fun h => ⟨HP.out, HG, h⟩⟩
        clear hq HG
        go_wp2
        go_ret
        refine BoolIs.of ?_ HB2.out
        rw [HI2.out]
        simp
  by_cases k3 : k = 3
  · subst k3
    have hif := fields_cmp 3 p n N m K (by decide)
    have HIF : Hid (FieldsOK ⟨3, p, n, N, m, K⟩ ↔ _) := hif
    clear hif
    go_enter Tryz.func30, Tryz.ntmps30
    go_wp2_with fail
    refine (isPath_any p _ (HM.out.below (hal _))).mono ?_
    rintro e w1 ⟨q, rfl, hq, hb⟩
    have x2 : w1.cell? ⟨w.heap.size, 2, none⟩ = some (.slice va n vc) := by rw [hb.cell (by simp)]; simp [go_sem]
    have x3 : w1.cell? ⟨w.heap.size, 3, none⟩ = some (.slice ka m kc) := by rw [hb.cell (by simp)]; simp [go_sem]
    have HB : Hid (Below w.heap.size w w1) := (hal _).trans (hb.mono (by simp))
    have z1 : w.heap.size < w1.heap.size := by have := hb.size; simp at this; omega
    clear hb hal
    cases q with
    | false =>
      have HN : Hid (¬ FieldsOK ⟨3, p, n, N, m, K⟩) := fun h => by simpa using hq.2 (HIF.out.1 h).1
      clear hq
      go_wp2
      go_ret
      exact BoolIs.no HN.out HB.out
    | true =>
      have HP : Hid (PathIs p) := hq.1 rfl
      clear hq
      go_wp2_with fail
      refine (implGood_arg va vc n N _ (HV.out.below HB.out) HS.out (HT.out.up HB.out)).mono ?_
      rintro e w2 ⟨q, rfl, hq, hb2⟩
      have y3 : w2.cell? ⟨w.heap.size, 3, none⟩ = some (.slice ka m kc) := (hb2.cell z1).trans x3
      have HB2 : Hid (Below w.heap.size w w2) := HB.out.trans (hb2.mono HB.out.size)
      clear hb2
      cases q with
      | false =>
        have HN : Hid (¬ FieldsOK ⟨3, p, n, N, m, K⟩) := fun h => by simpa using hq.2 (HIF.out.1 h).2.1
        clear hq
        go_wp2
        go_ret
        exact BoolIs.no HN.out HB2.out
      | true =>
        have HG := hq.1 rfl
        have HI2 : Hid (FieldsOK ⟨3, p, n, N, m, K⟩ ↔ m = 0) := HIF.out.trans ⟨fun h => h.2.2, fun h => ⟨HP.out, HG, h⟩⟩
        clear hq HG
        go_wp2
        go_ret
        refine BoolIs.of ?_ HB2.out
        rw [HI2.out]
        simp
  by_cases k4 : k = 4
  · subst k4
    have hif := fields_has p n N m K
    have HIF : Hid (FieldsOK ⟨4, p, n, N, m, K⟩ ↔ _) := hif
    clear hif
    go_enter Tryz.func30, Tryz.ntmps30
    go_wp2_with fail
    refine (isPath_any p _ (HM.out.below (hal _))).mono ?_
    rintro e w1 ⟨q, rfl, hq, hb⟩
    have x2 : w1.cell? ⟨w.heap.size, 2, none⟩ = some (.slice va n vc) := by rw [hb.cell (by simp)]; simp [go_sem]
    have x3 : w1.cell? ⟨w.heap.size, 3, none⟩ = some (.slice ka m kc) := by rw [hb.cell (by simp)]; simp [go_sem]
    have HB : Hid (Below w.heap.size w w1) := (hal _).trans (hb.mono (by simp))
    have z1 : w.heap.size < w1.heap.size := by have := hb.size; simp at this; omega
    clear hb hal
    cases q with
    | false =>
      have HN : Hid (¬ FieldsOK ⟨4, p, n, N, m, K⟩) := fun h => by simpa using hq.2 (HIF.out.1 h).1
      clear hq
      go_wp2
      go_ret
      exact BoolIs.no HN.out HB.out
    | true =>
      have HP : Hid (PathIs p) := hq.1 rfl
      clear hq
      by_cases n0 : n = 0
      · subst n0
        have HI2 : Hid (FieldsOK ⟨4, p, 0, N, m, K⟩ ↔ m = 0) := HIF.out.trans ⟨fun h => h.2.2, fun h => ⟨HP.out, rfl, h⟩⟩
        go_wp2
        go_ret
        refine BoolIs.of ?_ HB.out
        rw [HI2.out]
        simp
      · have HN : Hid (¬ FieldsOK ⟨4, p, n, N, m, K⟩) := fun h => n0 (HIF.out.1 h).2.1
        have n1 : ¬ ((n : Int) = 0) := by omega
        go_wp2
        go_ret
        exact BoolIs.no HN.out HB.out
  by_cases k5 : k = 5
  · subst k5
    have hif := fields_in p n N m K
    have HIF : Hid (FieldsOK ⟨5, p, n, N, m, K⟩ ↔ _) := hif
    clear hif
    go_enter Tryz.func30, Tryz.ntmps30
    go_wp2_with fail
    refine (isPath_any p _ (HM.out.below (hal _))).mono ?_
    rintro e w1 ⟨q, rfl, hq, hb⟩
    have x2 : w1.cell? ⟨w.heap.size, 2, none⟩ = some (.slice va n vc) := by rw [hb.cell (by simp)]; simp [go_sem]
    have x3 : w1.cell? ⟨w.heap.size, 3, none⟩ = some (.slice ka m kc) := by rw [hb.cell (by simp)]; simp [go_sem]
    have HB : Hid (Below w.heap.size w w1) := (hal _).trans (hb.mono (by simp))
    have z1 : w.heap.size < w1.heap.size := by have := hb.size; simp at this; omega
    clear hb hal
    cases q with
    | false =>
      have HN : Hid (¬ FieldsOK ⟨5, p, n, N, m, K⟩) := fun h => by simpa using hq.2 (HIF.out.1 h).1
      clear hq
      go_wp2
      go_ret
      exact BoolIs.no HN.out HB.out
    | true =>
      have HP : Hid (PathIs p) := hq.1 rfl
      clear hq
      go_wp2_with fail
      refine (isGoodList_any va vc n N _ (HV.out.below HB.out) HS.out (HT.out.up HB.out)).mono ?_
      rintro e w2 ⟨q, rfl, hq, hb2⟩
      have y3 : w2.cell? ⟨w.heap.size, 3, none⟩ = some (.slice ka m kc) := (hb2.cell z1).trans x3
      have HB2 : Hid (Below w.heap.size w w2) := HB.out.trans (hb2.mono HB.out.size)
      clear hb2
      cases q with
      | false =>
        have HN : Hid (¬ FieldsOK ⟨5, p, n, N, m, K⟩) := fun h => by simpa using hq.2 (HIF.out.1 h).2.1
        clear hq
        go_wp2
        go_ret
        exact BoolIs.no HN.out HB2.out
      | true =>
        have HG := hq.1 rfl
        have HI2 : Hid (FieldsOK ⟨5, p, n, N, m, K⟩ ↔ m = 0) := HIF.out.trans ⟨fun h => h.2.2, fun h => ⟨HP.out, HG, h⟩⟩
        clear hq HG
        go_wp2
        go_ret
        refine BoolIs.of ?_ HB2.out
        rw [HI2.out]
        simp
  by_cases k6 : k = 6
  · subst k6
    have HIF : Hid (FieldsOK ⟨6, p, n, N, m, K⟩ ↔ _) := fields_all 6 p n N m K (by decide)
    by_cases p0 : p.size = 0
    · have pe : p.toList = [] := (empty_iff p).2 p0
      by_cases n0 : n = 0
      · subst n0
        have HIG : Hid (FieldsOK ⟨6, p, 0, N, m, K⟩ ↔ True) := HIF.out.trans ⟨fun _ => trivial, fun _ => ⟨p0, rfl⟩⟩
        clear p0
        go_enter Tryz.func30, Tryz.ntmps30
        go_wp2
        go_ret
        refine BoolIs.of ?_ (hal _)
        rw [HIG.out]
        exact ⟨fun _ => trivial, fun _ => rfl⟩
      · have HN : Hid (¬ FieldsOK ⟨6, p, n, N, m, K⟩) := fun h => n0 (HIF.out.1 h).2
        have n1 : ((n : Int) == 0) = false := by simp; omega
        clear p0
        go_enter Tryz.func30, Tryz.ntmps30
        go_wp2
        go_ret
        first | exact BoolIs.no HN.out (hal _) | (rw [n1]; exact BoolIs.no HN.out (hal _))
    · have HN : Hid (¬ FieldsOK ⟨6, p, n, N, m, K⟩) := fun h => p0 (HIF.out.1 h).1
      have pe : ¬ p.toList = [] := fun h => p0 ((empty_iff p).1 h)
      clear p0
      go_enter Tryz.func30, Tryz.ntmps30
      go_wp2
      go_ret
      exact BoolIs.no HN.out (hal _)
  by_cases k7 : k = 7
  · subst k7
    have HIF : Hid (FieldsOK ⟨7, p, n, N, m, K⟩ ↔ _) := fields_all 7 p n N m K (by decide)
    by_cases p0 : p.size = 0
    · have pe : p.toList = [] := (empty_iff p).2 p0
      by_cases n0 : n = 0
      · subst n0
        have HIG : Hid (FieldsOK ⟨7, p, 0, N, m, K⟩ ↔ True) := HIF.out.trans ⟨fun _ => trivial, fun _ => ⟨p0, rfl⟩⟩
        clear p0
        go_enter Tryz.func30, Tryz.ntmps30
        go_wp2
        go_ret
        refine BoolIs.of ?_ (hal _)
        rw [HIG.out]
        exact ⟨fun _ => trivial, fun _ => rfl⟩
      · have HN : Hid (¬ FieldsOK ⟨7, p, n, N, m, K⟩) := fun h => n0 (HIF.out.1 h).2
        have n1 : ((n : Int) == 0) = false := by simp; omega
        clear p0
        go_enter Tryz.func30, Tryz.ntmps30
        go_wp2
        go_ret
        first | exact BoolIs.no HN.out (hal _) | (rw [n1]; exact BoolIs.no HN.out (hal _))
    · have HN : Hid (¬ FieldsOK ⟨7, p, n, N, m, K⟩) := fun h => p0 (HIF.out.1 h).1
      have pe : ¬ p.toList = [] := fun h => p0 ((empty_iff p).1 h)
      clear p0
      go_enter Tryz.func30, Tryz.ntmps30
      go_wp2
      go_ret
      exact BoolIs.no HN.out (hal _)
  by_cases k8 : k = 8
  · subst k8
    have HIF : Hid (FieldsOK ⟨8, p, n, N, m, K⟩ ↔ _) := fields_not p n N m K
    by_cases p0 : p.size = 0
    · have pe : p.toList = [] := (empty_iff p).2 p0
      by_cases n0 : n = 0
      · subst n0
        have HIG : Hid (FieldsOK ⟨8, p, 0, N, m, K⟩ ↔ m = 1) := HIF.out.trans ⟨fun h => h.2.2, fun h => ⟨p0, rfl, h⟩⟩
        clear p0
        go_enter Tryz.func30, Tryz.ntmps30
        go_wp2
        go_ret
        refine BoolIs.of ?_ (hal _)
        rw [HIG.out]
        simp; omega
      · have HN : Hid (¬ FieldsOK ⟨8, p, n, N, m, K⟩) := fun h => n0 (HIF.out.1 h).2.1
        have n1 : ((n : Int) == 0) = false := by simp; omega
        clear p0
        go_enter Tryz.func30, Tryz.ntmps30
        go_wp2
        go_ret
        first | exact BoolIs.no HN.out (hal _) | (rw [n1]; exact BoolIs.no HN.out (hal _))
    · have HN : Hid (¬ FieldsOK ⟨8, p, n, N, m, K⟩) := fun h => p0 (HIF.out.1 h).1
      have pe : ¬ p.toList = [] := fun h => p0 ((empty_iff p).1 h)
      clear p0
      go_enter Tryz.func30, Tryz.ntmps30
      go_wp2
      go_ret
      exact BoolIs.no HN.out (hal _)
  have HN : Hid (¬ FieldsOK ⟨k, p, n, N, m, K⟩) := fields_else k p n N m K (by omega)
  go_enter Tryz.func30, Tryz.ntmps30
  go_wp2
  go_ret
  exact BoolIs.no HN.out (hal _)

end Go.Proofs.YtjbjgkkkkghcgaaGreatDoor
namespace Go.Proofs.YtjbjgkkkkghcgaaGreatDoor
open Go.RowKit
set_option linter.unusedVariables false

/-- The cells of the first n elements. -/
def rowL (f : Nat → List Value) : Nat → List Value
  | 0 => []
  | n + 1 => rowL f n ++ f n
theorem rowL_len {f : Nat → List Value} {k : Nat} (hf : ∀ i, (f i).length = k) : ∀ n, (rowL f n).length = n * k := by
  intro n
  induction n with
  | zero => simp [rowL]
  | succ n ih => rw [rowL, List.length_append, ih, hf, Nat.succ_mul]
theorem rowL_get {f : Nat → List Value} {k : Nat} (hf : ∀ i, (f i).length = k) : ∀ n i j, i < n → j < k → (rowL f n)[i * k + j]? = (f i)[j]? := by
  intro n
  induction n with
  | zero => intro i j h; omega
  | succ n ih =>
    intro i j hi hj
    rw [rowL]
    have hl := rowL_len hf n
    by_cases e : i = n
    · subst e
      rw [List.getElem?_append_right (by omega), hl]
      congr 1
      omega
    · have hlt : i * k + j < n * k := by
        have : (i + 1) * k ≤ n * k := Nat.mul_le_mul_right k (by omega)
        rw [Nat.succ_mul] at this
        omega
      rw [List.getElem?_append_left (by omega)]
      exact ih i j (by omega) hj
theorem rowL_ones {f : Nat → List Value} (hf : ∀ i, ∀ u ∈ f i, u.oneCell' = true) : ∀ n, ∀ u ∈ rowL f n, u.oneCell' = true := by
  intro n
  induction n with
  | zero => intro u h; simp [rowL] at h
  | succ n ih =>
    intro u h
    rw [rowL, List.mem_append] at h
    rcases h with h | h
    · exact ih u h
    · exact hf n u h
theorem rowL_same {f g : Nat → List Value} : ∀ n, (∀ i, i < n → f i = g i) → rowL f n = rowL g n := by
  intro n
  induction n with
  | zero => intro _; rfl
  | succ n ih => intro h; rw [rowL, rowL, ih (fun i hi => h i (by omega)), h n (by omega)]

def ndC (x : Nd) : List Value := [.int .i64 x.kind, .int .i64 x.num, .string x.text, .string x.name, .int .i64 x.up]
def tcC (x : Tc) : List Value := [.int .i64 x.kind, .string x.path, .slice x.va x.vn x.vc, .slice x.ka x.km x.kc]
def nodeL (N : Nat → Nd) (n : Nat) : List Value := rowL (fun i => ndC (N i)) n
def kidL (K : Nat → Int) (n : Nat) : List Value := rowL (fun i => [.int .i64 (K i)]) n
def termL (R : Nat → Tc) (n : Nat) : List Value := rowL (fun i => tcC (R i)) n

theorem row_open {w : World} {B : Nat} {e : TypeId} {z : Nat} {v : Value} {n : Nat} {xs : List Value} (h : w.ownsRow B e z v n xs) : (v = .slice none 0 0 ∧ n = 0) ∨ ∃ g cap, v = .slice (some ⟨g, 0, none⟩) n cap ∧ B ≤ g ∧ g < w.heap.size ∧ n ≤ cap ∧ (∀ j, j < n * z → w.cell? ⟨g, j, none⟩ = xs[j]?) ∧ ∀ j, w.frozen? ⟨g, j, none⟩ = false := by
  have h0 := h
  rcases h.2 with h1 | ⟨g, cap, cur, rfl, hb, hg, hc, _, _, _⟩
  · exact .inl h1
  · exact .inr ⟨g, cap, rfl, hb, (Array.getElem?_eq_some_iff.1 hg).1, hc, fun j hj => h0.cellAt j hj, fun j => by simp [World.frozen?, hg]⟩

theorem own_nodeL {w : World} {B : Nat} {v : Value} {n : Nat} {N : Nat → Nd} (h : w.ownsRow B 66 5 v n (nodeL N n)) (hn : n ≤ 2 ^ 30) : ∃ a c g, v = .slice a n c ∧ n ≤ c ∧ (n ≠ 0 → B ≤ g ∧ g < w.heap.size) ∧ OwnAt w g v n N := by
  rcases row_open h with ⟨rfl, rfl⟩ | ⟨g, cap, rfl, h1, h2, h3, h4, h5⟩
  · exact ⟨none, 0, 0, rfl, Nat.le_refl _, fun h => absurd rfl h, none, 0, 0, rfl, hn, .inl rfl⟩
  · refine ⟨_, cap, g, rfl, h3, fun _ => ⟨h1, h2⟩, _, cap, 0, rfl, hn, .inr ⟨rfl, h2, fun i hi => ?_, fun o _ => by rw [Nat.zero_add]; exact h5 o⟩⟩
    have q : ∀ j, j < 5 → w.cell? ⟨g, 0 + i * 5 + j, none⟩ = (ndC (N i))[j]? := fun j hj => by
      rw [Nat.zero_add, h4 (i * 5 + j) (by omega)]
      exact rowL_get (k := 5) (fun _ => rfl) n i j hi hj
    exact ⟨q 0 (by omega), q 1 (by omega), q 2 (by omega), q 3 (by omega), q 4 (by omega)⟩
theorem own_kidL {w : World} {B : Nat} {v : Value} {n : Nat} {K : Nat → Int} (h : w.ownsRow B 3 1 v n (kidL K n)) (hn : n ≤ 2 ^ 30) : ∃ a c g, v = .slice a n c ∧ n ≤ c ∧ (n ≠ 0 → B ≤ g ∧ g < w.heap.size) ∧ OwnK w g v n K := by
  rcases row_open h with ⟨rfl, rfl⟩ | ⟨g, cap, rfl, h1, h2, h3, h4, h5⟩
  · exact ⟨none, 0, 0, rfl, Nat.le_refl _, fun h => absurd rfl h, none, 0, rfl, hn, .inl rfl⟩
  · refine ⟨_, cap, g, rfl, h3, fun _ => ⟨h1, h2⟩, _, cap, rfl, hn, .inr ⟨rfl, h2, fun i hi => ⟨?_, h5 i⟩⟩⟩
    have := h4 i (by omega)
    rw [this]
    have q := rowL_get (f := fun i => [Value.int .i64 (K i)]) (k := 1) (fun _ => rfl) n i 0 hi (by omega)
    simpa [kidL] using q

/-- A row of k terms F, of its own from B on, while it is built. -/
def TBld (w : World) (B : Nat) (v : Value) (k : Nat) (F : Nat → Tm) : Prop := ∃ (R : Nat → Tc) (P Q : Nat → Nat), w.ownsRow B 62 4 v k (termL R k) ∧ (∀ i, i < k → TermOwn w (P i) (Q i) (R i) (F i)) ∧
  (∀ i, i < k → B ≤ P i ∧ Q i ≤ w.heap.size ∧ ∀ g, v.ownBlock = some g → g < P i ∨ Q i ≤ g) ∧ ∀ i j, i < j → j < k → Q i ≤ P j ∨ Q j ≤ P i
/-- Its cells told. -/
def TBldR (w : World) (B : Nat) (v : Value) (k : Nat) (F : Nat → Tm) (R : Nat → Tc) : Prop := ∃ (P Q : Nat → Nat), w.ownsRow B 62 4 v k (termL R k) ∧ (∀ i, i < k → TermOwn w (P i) (Q i) (R i) (F i)) ∧
  (∀ i, i < k → B ≤ P i ∧ Q i ≤ w.heap.size ∧ ∀ g, v.ownBlock = some g → g < P i ∨ Q i ≤ g) ∧ ∀ i j, i < j → j < k → Q i ≤ P j ∨ Q j ≤ P i
theorem TBld.rows {w : World} {B : Nat} {v : Value} {k : Nat} {F : Nat → Tm} (h : TBld w B v k F) : ∃ R, TBldR w B v k F R := h
theorem TBldR.row {w : World} {B : Nat} {v : Value} {k : Nat} {F : Nat → Tm} {R : Nat → Tc} (h : TBldR w B v k F R) : w.ownsRow B 62 4 v k (termL R k) := by
  obtain ⟨P, Q, h1, _⟩ := h
  exact h1
theorem tc_ones (x : Tc) : ∀ u ∈ tcC x, u.oneCell' = true := by
  intro u hu
  simp [tcC] at hu
  rcases hu with rfl | rfl | rfl | rfl <;> rfl
theorem tc_news (W : World) (x : Tc) (T : TypeId) : ∀ (j : Nat) (u : Value), (tcC x)[j]? = some u → (W.alloc (.cells #[.int .i64 x.kind, .string x.path, .slice x.va x.vn x.vc, .slice x.ka x.km x.kc] T)).cell? ((⟨W.heap.size, 0, none⟩ : Addr).add j) = some u := by
  intro j u hj
  rw [show ((⟨W.heap.size, 0, none⟩ : Addr).add j) = ⟨W.heap.size, j, none⟩ by unfold Addr.add; split <;> simp_all, World.cell?_alloc_new]
  simpa [tcC] using hj
theorem TBld.nil (w : World) (B : Nat) (F : Nat → Tm) : TBld w B (.slice none 0 0) 0 F := ⟨fun _ => zeroTc, fun _ => 0, fun _ => 0, World.ownsRow_nil _ _ _ _, fun i h => by omega, fun i h => by omega, fun i j _ h => by omega⟩
theorem TBld.form {w : World} {B : Nat} {v : Value} {k : Nat} {F : Nat → Tm} (h : TBld w B v k F) : ∃ a c, v = .slice a k c := by
  obtain ⟨R, P, Q, h1, _⟩ := h
  rcases row_open h1 with ⟨rfl, rfl⟩ | ⟨g, cap, rfl, _⟩
  · exact ⟨_, _, rfl⟩
  · exact ⟨_, _, rfl⟩
theorem TBld.own {w : World} {B : Nat} {v : Value} {k : Nat} {F : Nat → Tm} (h : TBld w B v k F) (hk : k ≤ 2 ^ 30) : ∃ a c b P Q, v = .slice a k c ∧ k ≤ c ∧ (k ≠ 0 → B ≤ b ∧ b < w.heap.size) ∧ (∀ i, i < k → B ≤ P i) ∧ FOwn w b a k F P Q := by
  obtain ⟨R, P, Q, h1, h2, h3, h4⟩ := h
  rcases row_open h1 with ⟨rfl, rfl⟩ | ⟨g, cap, rfl, g1, g2, g3, g4, g5⟩
  · exact ⟨none, 0, 0, P, Q, rfl, Nat.le_refl _, fun h => absurd rfl h, fun i hi => by omega, hk, .inl rfl, fun i hi => by omega, fun i j _ hj => by omega⟩
  · refine ⟨_, cap, g, P, Q, rfl, g3, fun _ => ⟨g1, g2⟩, fun i hi => (h3 i hi).1, hk, .inr ⟨rfl, g2, R, fun i hi => ?_, fun o _ => by rw [Nat.zero_add]; exact g5 o, h2⟩, fun i hi => ⟨(h3 i hi).2.2 g rfl, (h3 i hi).2.1⟩, h4⟩
    have q : ∀ j, j < 4 → w.cell? ⟨g, 0 + i * 4 + j, none⟩ = (tcC (R i))[j]? := fun j hj => by
      rw [Nat.zero_add, g4 (i * 4 + j) (by omega)]
      exact rowL_get (k := 4) (fun _ => rfl) k i j hi hj
    exact ⟨q 0 (by omega), q 1 (by omega), q 2 (by omega), q 3 (by omega)⟩

theorem row_keep {w w' : World} {B : Nat} {e : TypeId} {z : Nat} {v : Value} {n : Nat} {xs : List Value} (h : w.ownsRow B e z v n xs) (hb : Below w.heap.size w w') : w'.ownsRow B e z v n xs := by
  refine ⟨h.1, ?_⟩
  rcases h.2 with hn | ⟨g, cap, cur, rfl, hB, hgg, rest⟩
  · exact .inl hn
  · exact .inr ⟨g, cap, cur, rfl, hB, (hb.block g (Array.getElem?_eq_some_iff.1 hgg).1).trans hgg, rest⟩
theorem TBld.below {w w' : World} {B : Nat} {v : Value} {k : Nat} {F : Nat → Tm} (h : TBld w B v k F) (hb : Below w.heap.size w w') : TBld w' B v k F := by
  obtain ⟨R, P, Q, h1, h2, h3, h4⟩ := h
  exact ⟨R, P, Q, row_keep h1 hb, fun i hi => (h2 i hi).below hb, fun i hi => ⟨(h3 i hi).1, Nat.le_trans (h3 i hi).2.1 hb.size, (h3 i hi).2.2⟩, h4⟩
theorem TBld.same {w : World} {B : Nat} {v : Value} {k : Nat} {F G : Nat → Tm} (h : TBld w B v k F) (e : ∀ i, i < k → F i = G i) : TBld w B v k G := by
  obtain ⟨R, P, Q, h1, h2, h3, h4⟩ := h
  exact ⟨R, P, Q, h1, fun i hi => by rw [← e i hi]; exact h2 i hi, h3, h4⟩

theorem grown_own {w w' : World} {g : Nat} {row : Option Nat} {v : Value} {n : Nat} {N : Nat → Nd} (h : OwnAt w g v n N) (hg : w.grownBy w' row) (hne : n ≠ 0 → some g ≠ row) : OwnAt w' g v n N := by
  obtain ⟨a, c, off, rfl, hb, h0⟩ := h
  by_cases e : n = 0
  · exact ⟨a, c, off, rfl, hb, .inl e⟩
  rcases h0 with h0 | ⟨rfl, hlt, hat, hf⟩
  · exact absurd h0 e
  · refine ⟨_, c, off, rfl, hb, .inr ⟨rfl, Nat.lt_of_lt_of_le hlt hg.size, fun i hi => ?_, fun o ho => (hg.frozen_far _ hlt (hne e)).trans (hf o ho)⟩⟩
    obtain ⟨h0, h1, h2, h3, h4⟩ := hat i hi
    exact ⟨(hg.cell_far _ hlt (hne e)).trans h0, (hg.cell_far _ hlt (hne e)).trans h1, (hg.cell_far _ hlt (hne e)).trans h2, (hg.cell_far _ hlt (hne e)).trans h3, (hg.cell_far _ hlt (hne e)).trans h4⟩
theorem grown_kids {w w' : World} {g : Nat} {row : Option Nat} {v : Value} {n : Nat} {K : Nat → Int} (h : OwnK w g v n K) (hg : w.grownBy w' row) (hne : n ≠ 0 → some g ≠ row) : OwnK w' g v n K := by
  obtain ⟨a, c, rfl, hb, h0⟩ := h
  by_cases e : n = 0
  · exact ⟨a, c, rfl, hb, .inl e⟩
  rcases h0 with h0 | ⟨rfl, hlt, hat⟩
  · exact absurd h0 e
  · exact ⟨_, c, rfl, hb, .inr ⟨rfl, Nat.lt_of_lt_of_le hlt hg.size, fun i hi => ⟨(hg.cell_far _ hlt (hne e)).trans (hat i hi).1, (hg.frozen_far _ hlt (hne e)).trans (hat i hi).2⟩⟩⟩
theorem grown_term {w w' : World} {lo hi : Nat} {row : Option Nat} {x : Tc} {y : Tm} (h : TermOwn w lo hi x y) (hg : w.grownBy w' row) (hne : ∀ g, row = some g → g < lo ∨ hi ≤ g) : TermOwn w' lo hi x y := by
  obtain ⟨h0, h1, h2, h3, gv, gk, h4, h5, h6, h7, h8⟩ := h
  exact ⟨h0, h1, h2, h3, gv, gk, h4, h5, h6, grown_own h7 hg (fun h e => by have := h4 h; have := hne gv e.symm; omega), grown_kids h8 hg (fun h e => by have := h5 h; have := hne gk e.symm; omega)⟩

/-- A term of its own is put to the row. -/
theorem TBld.next {w w1 w3 : World} {B : Nat} {v : Value} {k g cap : Nat} {F : Nat → Tm} {R : Nat → Tc} {x : Tc} {y : Tm} {u : Value} (h : TBldR w B v k F R) (hB : B ≤ w.heap.size) (hb : Below w.heap.size w w1) (hy : TermOwn w1 w.heap.size w1.heap.size x y)
    (hg : w1.grownBy w3 v.ownBlock) (hat : v.ownBlock = some g ∨ w1.heap.size ≤ g) (hu : u = .slice (some ⟨g, 0, none⟩) (k + 1) cap)
    (hown : w3.ownsRow B 62 4 u (k + 1) (termL R k ++ tcC x)) :
    TBld w3 B u (k + 1) (fun i => if i = k then y else F i) := by
  obtain ⟨P, Q, h1, h2, h3, h4⟩ := h
  have z1 := hb.size
  have z2 := hg.size
  have hold : ∀ q, v.ownBlock = some q → q < w.heap.size := fun q hq => by
    rcases row_open h1 with ⟨rfl, rfl⟩ | ⟨g', cap', rfl, _, g2, _⟩
    · simp [Value.ownBlock] at hq
    · simp [Value.ownBlock] at hq; omega
  refine ⟨fun i => if i = k then x else R i, fun i => if i = k then w.heap.size else P i, fun i => if i = k then w1.heap.size else Q i, ?_, fun i hi => ?_, fun i hi => ?_, fun i j hij hj => ?_⟩
  · have e : termL (fun i => if i = k then x else R i) (k + 1) = termL R k ++ tcC x := by
      unfold termL
      rw [rowL]
      simp only [if_true]
      rw [rowL_same k (g := fun i => tcC (R i)) (fun i hi => by simp only [if_neg (show ¬ i = k by omega)])]
    rw [e]
    exact hown
  · by_cases e : i = k
    · subst e
      simp only [if_true]
      exact grown_term hy hg (fun q hq => .inl (hold q hq))
    · simp only [if_neg e]
      exact grown_term ((h2 i (by omega)).below hb) hg (h3 i (by omega)).2.2
  · subst hu
    by_cases e : i = k
    · subst e
      simp only [if_true]
      refine ⟨hB, z2, fun q hq => ?_⟩
      simp [Value.ownBlock] at hq
      subst hq
      rcases hat with h | h
      · exact .inl (hold _ h)
      · exact .inr h
    · simp only [if_neg e]
      obtain ⟨p1, p2, p3⟩ := h3 i (by omega)
      refine ⟨p1, by omega, fun q hq => ?_⟩
      simp [Value.ownBlock] at hq
      subst hq
      rcases hat with h | h
      · exact p3 _ h
      · omega
  · have e : i ≠ k := by omega
    simp only [if_neg e]
    by_cases e2 : j = k
    · simp only [if_pos e2]
      exact .inl (h3 i (by omega)).2.1
    · simp only [if_neg e2]
      exact h4 i j hij (by omega)

theorem run_append_zero {w : World} (base : Nat) (t ty e : TypeId) (i : TypeInfo) (size : Nat) (ht : Tryz.prog.underlying t = some (.slice e)) (hi : Tryz.prog.info? e = some i)
    (v : Value) (n : Nat) (xs : List Value) (hown : w.ownsRow base e size v n xs) (a : Option Addr) (c : Nat) :
    (Builtin.append_ #[t, t] ty #[v, .slice a 0 c]).run Tryz.prog w = .ok v w := by
  cases a with
  | none =>
    rcases hown.2 with ⟨rfl, rfl⟩ | ⟨g, cap, cur, rfl, _, _, hnc, _⟩
    · simp [Builtin.append_, run_underlying ht, sizeOf, typeInfo, hi, Builtin.lenOf, Builtin.firstCells]
    · simp [Builtin.append_, run_underlying ht, sizeOf, typeInfo, hi, Builtin.lenOf, Builtin.firstCells, hnc, storeCells]
  | some ad =>
    rcases hown.2 with ⟨rfl, rfl⟩ | ⟨g, cap, cur, rfl, _, _, hnc, _⟩
    · simp [Builtin.append_, run_underlying ht, sizeOf, typeInfo, hi, Builtin.lenOf, Builtin.firstCells, loadCells, loadCellsFrom]
    · simp [Builtin.append_, run_underlying ht, sizeOf, typeInfo, hi, Builtin.lenOf, Builtin.firstCells, hnc, storeCells, loadCells, loadCellsFrom]

end Go.Proofs.YtjbjgkkkkghcgaaGreatDoor
namespace Go.Proofs.YtjbjgkkkkghcgaaGreatDoor
open Go.RowKit
set_option linter.unusedVariables false

def shiftT (by' : Int) (x : Tm) : Tm := { x with K := fun j => x.K j + by' }
/-- Terms F, k of them, and G behind them. -/
def catF (F : Nat → Tm) (k : Nat) (G : Nat → Tm) (i : Nat) : Tm := if i < k then F i else shiftT k (G (i - k))
theorem catF_step (F : Nat → Tm) (k : Nat) (G : Nat → Tm) (i q : Nat) (hq : q < k + i + 1) : (if q = k + i then shiftT k (G i) else catF F k G q) = catF F k G q := by
  by_cases e : q = k + i
  · subst e
    have h : ¬ k + i < k := by omega
    simp [catF, h]
  · simp [e]

/-- Nodes that came in are put to none. -/
theorem wpList_append_nodes {w : World} {ops : Array Oper} {rest : List Oper} {o : Oper} {a : Act} {Q : Exit → Act → World → Prop} (hgd : o.guard = none) (s x : Operand)
    (ho : o.op = .call { callee := .builtin .append, args := #[s, x], argTypes := #[58, 58] })
    (base : Nat) (v : Value) (hs : a.eval s = v) (hown : w.ownsRow base 66 5 v 0 [])
    (ax : Option Addr) (n c : Nat) (N : Nat → Nd) (hx : a.eval x = .slice ax n c) (hp : ArgIs w ax n N)
    (hlen : n ≤ 2 ^ 30) (hbase : base ≤ w.heap.size)
    (h : ∀ v' w', w'.ownsRow base 66 5 v' n (nodeL N n) → w.grownBy w' v.ownBlock → wpList Tryz.prog ops Q rest (a.put o.dst v') w') : wpList Tryz.prog ops Q (o :: rest) a w := by
  obtain ⟨i0, hi, hz0, hz1, hz2⟩ := info_parts infoNode
  by_cases n0 : n = 0
  · subst n0
    have hr := run_append_zero (w := w) base 58 o.type 66 i0 5 Tryz.underlying58 hi v 0 [] hown ax c
    exact Lib.wpList_append_run w hgd s x _ _ ho _ _ hs hx v w hr (h v w (by simpa [nodeL, rowL] using hown) ⟨rfl, rfl, rfl, Nat.le_refl _, fun _ _ _ => rfl⟩)
  · rcases hp with h0 | ⟨b, off, rfl, hb, hat⟩
    · exact absurd h0 n0
    · have hl : (nodeL N n).length = n * 5 := rowL_len (k := 5) (fun _ => rfl) n
      refine wpList_append_own w hgd s x 58 ho base 66 i0 _ 5 56 Tryz.underlying58 hi hz0 hz1 hz2 rfl (by decide) v 0 [] hs hown ⟨b, off, none⟩ n c (nodeL N n) hx hl
        (fun j u hu => ?_) (rowL_ones (fun i u hu => by simp [ndC] at hu; rcases hu with rfl | rfl | rfl | rfl | rfl <;> rfl) n) (by unfold maxLen; omega) (by omega) hbase (fun v' w' h2 h3 _ => h v' w' (by simpa using h2) h3)
      rw [show ((⟨b, off, none⟩ : Addr).add j) = ⟨b, off + j, none⟩ by unfold Addr.add; split <;> simp_all]
      have hj : j < n * 5 := by rw [← hl]; exact (List.getElem?_eq_some_iff.1 hu).1
      obtain ⟨q, r, hr, rfl⟩ : ∃ q r, r < 5 ∧ j = q * 5 + r := ⟨j / 5, j % 5, by omega, by omega⟩
      have hqn : q < n := by omega
      unfold nodeL at hu
      rw [rowL_get (f := fun i => ndC (N i)) (k := 5) (fun _ => rfl) n q r hqn hr] at hu
      obtain ⟨c0, c1, c2, c3, c4⟩ := hat q hqn
      have hm : r = 0 ∨ r = 1 ∨ r = 2 ∨ r = 3 ∨ r = 4 := by omega
      rcases hm with rfl | rfl | rfl | rfl | rfl <;> simp [ndC] at hu <;> subst hu
      · exact c0
      · exact c1
      · exact c2
      · exact c3
      · exact c4

end Go.Proofs.YtjbjgkkkkghcgaaGreatDoor
namespace Go.Proofs.YtjbjgkkkkghcgaaGreatDoor
open Go.RowKit
set_option linter.unusedVariables false

/-- Kids among the first i terms and j of the next. -/
def cntAt (F : Nat → Tm) (i j : Nat) (z : Nat) : Int := tcnt F i z + kcnt (F i).K j z
theorem cnt_zero (F : Nat → Tm) (i : Nat) : cntAt F i 0 = fun z : Nat => tcnt F i z := by
  funext z
  simp [cntAt, kcnt]
theorem cnt_whole (F : Nat → Tm) (i : Nat) : cntAt F i (F i).m = fun z : Nat => tcnt F (i + 1) z := by
  funext z
  rfl
theorem cnt_step (F : Nat → Tm) (i j q : Nat) (h : (F i).K j = (q : Int)) : (fun z => if z = q then cntAt F i j q + 1 else cntAt F i j z) = cntAt F i (j + 1) := by
  funext z
  unfold cntAt
  simp only [kcnt, h]
  by_cases e : z = q
  · subst e
    simp
    omega
  · have e' : ¬ ((z : Int) = (q : Int)) := by omega
    simp [e, e']
theorem cnt_bound {F : Nat → Tm} {t i j : Nat} (h : ∀ i, i < t → (F i).m ≤ 2 ^ 20) (hi : i < t) (ht : t ≤ 20) (hj : j ≤ (F i).m) (z : Nat) : 0 ≤ cntAt F i j z ∧ cntAt F i j z ≤ 2 ^ 30 := by
  have h1 := tcnt_bound F z i (fun q hq => h q (by omega))
  have h2 := kcnt_bound (F i).K z j
  have h3 := h i hi
  unfold cntAt
  omega

set_option maxRecDepth 100000 in
set_option maxHeartbeats 4000000 in
theorem eachOneKid_any (a : Option Addr) (c t : Nat) (F : Nat → Tm) (w : World) (ht : 1 ≤ t ∧ t ≤ 20) (hm : ∀ i, i < t → (F i).m ≤ 2 ^ 20) (hk : ∀ i, i < t → ∀ j, j < (F i).m → 0 ≤ (F i).K j ∧ (F i).K j < i) (h : FArg w a t F) :
    Calls Tryz.prog 32 #[.slice a t c] w (BoolIs (∀ k : Nat, k < t - 1 → tcnt F t k = 1) w) := by
  have H : Hid (FArg w a t F) := h
  have HM : Hid (∀ i, i < t → (F i).m ≤ 2 ^ 20) := hm
  have HK : Hid (∀ i, i < t → ∀ j, j < (F i).m → 0 ≤ (F i).K j ∧ (F i).K j < i) := hk
  clear h hm hk
  have hmk := make_ints t (by omega)
  have n1 := ints_made t w 3
  obtain ⟨W, hW⟩ : ∃ W, W = w.alloc (.cells (madeCells #[.int .i64 0] t) 3) := ⟨_, rfl⟩
  have hsz : W.heap.size = w.heap.size + 1 := by rw [hW]; simp
  have hbl : Below w.heap.size w W := by rw [hW]; go_grown
  rw [← hW] at n1
  have hmw := hmk w
  rw [← hW] at hmw
  clear hmk
  have HN : Hid (IntsAt W w.heap.size t (fun z => tcnt F 0 z)) := n1.same fun i hi => rfl
  clear n1 hW
  obtain ⟨t0, t1⟩ := ht
  go_enter Tryz.func32, Tryz.ntmps32
  go_wp2_with fail
  go_loopw [15] (fun i wr => ∃ k : Nat, k ≤ t ∧ i = .int .i64 (k : Int) ∧ w.heap.size < wr.heap.size ∧ Below w.heap.size w wr ∧ Hid (IntsAt wr w.heap.size t (fun z => tcnt F k z))) (fun i _ => t - (intOf i).toNat)
  case atStart => exact ⟨0, Nat.zero_le _, rfl, by omega, hbl, HN⟩
  case round =>
    obtain ⟨k, hk, rfl, hz, hnx, HI⟩ := hrel
    by_cases hlt : k < t
    · obtain ⟨b, off, va, vc, ka, kc, rfl, hb, a0, a1, a2, a3, _, hkk⟩ := H.out.at hlt
      replace a0 := (hnx.cell hb).trans a0
      replace a1 := (hnx.cell hb).trans a1
      replace a2 := (hnx.cell hb).trans a2
      replace a3 := (hnx.cell hb).trans a3
      have i0 : (0 : Int) ≤ (k : Int) := by omega
      have i1 : (k : Int) < (t : Int) := by omega
      have hm0 := HM.out k hlt
      have HKK : Hid (ArgI w ka (F k).m (F k).K) := hkk
      have HKB : Hid (∀ j, j < (F k).m → 0 ≤ (F k).K j ∧ (F k).K j < k) := HK.out k hlt
      have HCB : Hid (∀ j z, j ≤ (F k).m → 0 ≤ cntAt F k j z ∧ cntAt F k j z ≤ 2 ^ 30) := fun j z hj => cnt_bound HM.out hlt t1 hj z
      have HI0 : Hid (IntsAt wr w.heap.size t (cntAt F k 0)) := by rw [cnt_zero]; exact HI
      have HCW : Hid (cntAt F k (F k).m = fun z : Nat => tcnt F (k + 1) z) := cnt_whole F k
      have HCS : Hid (∀ j q : Nat, (F k).K j = (q : Int) → (fun z => if z = q then cntAt F k j q + 1 else cntAt F k j z) = cntAt F k (j + 1)) := cnt_step F k
      obtain ⟨m, hm⟩ : ∃ m, m = (F k).m := ⟨_, rfl⟩
      obtain ⟨K, hK⟩ : ∃ K, K = (F k).K := ⟨_, rfl⟩
      obtain ⟨C, hC⟩ : ∃ C, C = cntAt F k := ⟨_, rfl⟩
      rw [← hm] at a3 hm0 HKK HKB HCB HCW
      rw [← hK] at HKK HKB HCS
      rw [← hC] at HCB HI0 HCW HCS
      clear hkk hm hK hC HI
      go_wp2_with fail
      have HWA : ∀ o, Below wr.heap.size wr (wr.alloc o) := fun o => (Below.refl _ _).alloc (Nat.le_refl _) o
      go_loopw [22] (fun i wr2 => ∃ j : Nat, j ≤ m ∧ i = .int .i64 (j : Int) ∧ w.heap.size < wr2.heap.size ∧ Below w.heap.size w wr2 ∧ Hid (IntsAt wr2 w.heap.size t (C j))) (fun i _ => m - (intOf i).toNat)
      case atStart => exact ⟨0, Nat.zero_le _, rfl, by simp; omega, hnx.trans ((HWA _).mono hnx.size), HI0.out.below (HWA _) hz⟩
      case round =>
        clear HI0 HWA a0 a1 a2 a3 hnx hz
        obtain ⟨j, hj, rfl, hz2, hnx2, HI⟩ := hrel
        by_cases hjm : j < m
        · rcases HKK.out with h0 | ⟨b', off', rfl, hb', hat⟩
          · omega
          have d0 := (hnx2.cell hb').trans (hat j hjm)
          obtain ⟨k0, k1⟩ := HKB.out j hjm
          obtain ⟨q, hq⟩ : ∃ q : Nat, K j = (q : Int) := ⟨(K j).toNat, by omega⟩
          rw [hq] at d0 k0 k1
          have hqt : q < t := by omega
          have e0 := (HI.out q hqt).1
          have e1 := (HI.out q hqt).2
          obtain ⟨cb0, cb1⟩ := HCB.out j q hj
          have HIS : Hid (IntsAt (wr.setCell ⟨w.heap.size, q, none⟩ (.int .i64 (C j q + 1))) w.heap.size t (C (j + 1))) := by
            rw [← HCS.out j q hq]
            exact HI.out.set hqt (C j q + 1)
          have j0 : (0 : Int) ≤ (j : Int) := by omega
          have j1 : (j : Int) < (m : Int) := by omega
          have q0 : (0 : Int) ≤ (q : Int) := by omega
          have q1 : (q : Int) < (t : Int) := by omega
          have HBS : Hid (Below w.heap.size w (wr.setCell ⟨w.heap.size, q, none⟩ (.int .i64 (C j q + 1)))) := hnx2.setCell (p := ⟨w.heap.size, _, none⟩) (Nat.le_refl _) _
          clear hat hq
          obtain ⟨x, hx⟩ : ∃ x, x = C j q := ⟨_, rfl⟩
          rw [← hx] at e0 cb0 cb1 HIS HBS
          clear hx
          go_wp2
          go_roundw
          case rel => exact ⟨j + 1, by omega, by go_num, by simpa [World.setCell] using hz2, HBS.out, HIS⟩
          case measure => simp [intOf]; omega
        · obtain rfl : j = m := by omega
          go_wp2
          go_roundw
          case rel => exact ⟨k + 1, by omega, by go_num, hz2, hnx2, by have := HI.out; rw [HCW.out] at this; exact this⟩
          case measure => simp [intOf]; omega
    · obtain rfl : k = t := by omega
      go_wp2_with fail
      go_loopw [40] (fun i wr2 => ∃ j : Nat, j ≤ k - 1 ∧ i = .int .i64 (j : Int) ∧ wr2 = wr ∧ Hid (∀ z : Nat, z < j → tcnt F k z = 1)) (fun i _ => k - (intOf i).toNat)
      case atStart => exact ⟨0, Nat.zero_le _, rfl, rfl, fun z hz => by omega⟩
      case round =>
        obtain ⟨j, hj, rfl, rfl, HJ⟩ := hrel
        by_cases hjm : j < k - 1
        · have e0 := (HI.out j (by omega)).1
          dsimp only at e0
          have j0 : (0 : Int) ≤ (j : Int) := by omega
          have j1 : (j : Int) < ((k - 1 : Nat) : Int) := by omega
          have HJ' : Hid (tcnt F k j = 1 → ∀ z : Nat, z < j + 1 → tcnt F k z = 1) := fun h z hz => by
            by_cases e : z = j
            · subst e; exact h
            · exact HJ.out z (by omega)
          by_cases h1 : tcnt F k j = 1
          · have HY := HJ'.out h1
            rw [h1] at e0
            have HY' : Hid (∀ z : Nat, z < j + 1 → tcnt F k z = 1) := HY
            clear HY h1
            go_wp2
            go_roundw
            case rel => exact ⟨j + 1, by omega, by go_num, trivial, HY'⟩
            case measure => simp [intOf]; omega
          · have HN : Hid (¬ ∀ z : Nat, z < k - 1 → tcnt F k z = 1) := fun h => h1 (h j hjm)
            obtain ⟨x, hx⟩ : ∃ x, x = tcnt F k j := ⟨_, rfl⟩
            rw [← hx] at e0 h1
            clear hx
            go_wp2
            go_ret
            exact BoolIs.no HN.out hnx
        · obtain rfl : j = k - 1 := by omega
          go_wp2
          go_ret
          exact BoolIs.yes HJ.out hnx

end Go.Proofs.YtjbjgkkkkghcgaaGreatDoor
namespace Go.Proofs.YtjbjgkkkkghcgaaGreatDoor
open Go.RowKit
set_option linter.unusedVariables false

set_option maxRecDepth 100000 in
set_option maxHeartbeats 4000000 in
theorem implGoodF_any (a : Option Addr) (c t : Nat) (F : Nat → Tm) (w : World) (h : FArg w a t F) (hs : SmallF t F) (htab : Tab w.heap.size w) (hml : ML w) :
    Calls Tryz.prog 14 #[.agg #[.slice a t c]] w (BoolIs (GoodF F t) w) := by
  have H : Hid (FArg w a t F) := h
  have HS : Hid (SmallF t F) := hs
  have HT : Hid (Tab w.heap.size w) := htab
  have HML : Hid (ML w) := hml
  have t20 := hs.1
  clear h hs htab hml
  have hal : ∀ o, Below w.heap.size w (w.alloc o) := fun o => (Below.refl _ _).alloc (Nat.le_refl _) o
  by_cases t0 : t = 0
  · subst t0
    have HN : Hid (¬ GoodF F 0) := fun h => by have := h.1.1; omega
    go_enter Tryz.func14, Tryz.ntmps14
    go_wp2
    go_ret
    exact BoolIs.no HN.out (hal _)
  by_cases t1 : 20 < t
  · have HN : Hid (¬ GoodF F t) := fun h => by have := h.1.2; omega
    have t2 : ((t : Int) == 0) = false := by simp; omega
    go_enter Tryz.func14, Tryz.ntmps14
    go_wp2
    go_ret
    exact BoolIs.no HN.out (hal _)
  have t2 : ((t : Int) == 0) = false := by simp; omega
  go_enter Tryz.func14, Tryz.ntmps14
  go_wp2_with fail
  go_loopw [18] (fun i wr => ∃ k : Nat, k ≤ t ∧ i = .int .i64 (k : Int) ∧ w.heap.size < wr.heap.size ∧ Below w.heap.size w wr ∧ wr.cell? ⟨w.heap.size, 0, none⟩ = some (.slice a t c) ∧ Hid (∀ j, j < k → FieldsOK (F j) ∧ RisA (F j).K (F j).m j)) (fun i _ => t - (intOf i).toNat)
  case atStart => exact ⟨0, Nat.zero_le _, rfl, by simp, hal _, by simp [go_sem], fun j hj => by omega⟩
  case round =>
    obtain ⟨k, hk, rfl, hz, hnx, hf, HJ⟩ := hrel
    by_cases hlt : k < t
    · obtain ⟨b, off, va, vc, ka, kc, rfl, hb, a0, a1, a2, a3, hv, hkk⟩ := (H.out.below hnx).at hlt
      have i0 : (0 : Int) ≤ (k : Int) := by omega
      have i1 : (k : Int) < (t : Int) := by omega
      have HV : Hid (ArgIs wr va (F k).n (F k).N ∧ ArgI wr ka (F k).m (F k).K) := ⟨hv, hkk⟩
      have HSK : Hid (SmallT (F k)) := HS.out.2 k hlt
      have HNX : Hid (Below w.heap.size w wr) := hnx
      have HWA : ∀ o, Below wr.heap.size wr (wr.alloc o) := fun o => (Below.refl _ _).alloc (Nat.le_refl _) o
      clear hv hkk hnx
      go_wp2_with fail
      refine (goodFields_any (F k) va ka vc kc _ HSK.out (HV.out.1.below (HWA _)) (HT.out.up (HNX.out.trans ((HWA _).mono HNX.out.size))) (HML.out.below (HNX.out.trans ((HWA _).mono HNX.out.size)))).mono ?_
      rintro e w1 ⟨q, rfl, hq, hb1⟩
      have x3 : w1.cell? ⟨wr.heap.size, 3, none⟩ = some (.slice ka (F k).m kc) := by rw [hb1.cell (by simp)]; simp [World.cell?_alloc_new]
      have B1 : Below wr.heap.size wr w1 := (HWA _).trans (hb1.mono (by simp))
      have z1 : wr.heap.size < w1.heap.size := by have := hb1.size; simp at this; omega
      have hf1 : w1.cell? ⟨w.heap.size, 0, none⟩ = some (.slice (some ⟨b, off, none⟩) t c) := (B1.cell hz).trans hf
      have HB1 : Hid (Below w.heap.size w w1) := HNX.out.trans (B1.mono HNX.out.size)
      have HK1 : Hid (ArgI w1 ka (F k).m (F k).K) := HV.out.2.below B1
      clear hb1 B1 HWA
      cases q with
      | false =>
        have HN : Hid (¬ GoodF F t) := fun h => by simpa using hq.2 (h.2.1 k hlt).1
        clear hq
        go_wp2
        go_ret
        exact BoolIs.no HN.out HB1.out
      | true =>
        have HFK : Hid (FieldsOK (F k)) := hq.1 rfl
        clear hq
        go_wp2_with fail
        refine (risingAhead_any ka kc (F k).m (F k).K k _ HSK.out.2.2 HK1.out).mono ?_
        rintro e w2 ⟨q, rfl, hq, hb2⟩
        have hf2 : w2.cell? ⟨w.heap.size, 0, none⟩ = some (.slice (some ⟨b, off, none⟩) t c) := (hb2.cell (by show w.heap.size < _; omega)).trans hf1
        have z2 := hb2.size
        have HB2 : Hid (Below w.heap.size w w2) := HB1.out.trans (hb2.mono HB1.out.size)
        clear hb2
        cases q with
        | false =>
          have HN : Hid (¬ GoodF F t) := fun h => by simpa using hq.2 (h.2.1 k hlt).2
          clear hq
          go_wp2
          go_ret
          exact BoolIs.no HN.out HB2.out
        | true =>
          have HJ' : Hid (∀ j, j < k + 1 → FieldsOK (F j) ∧ RisA (F j).K (F j).m j) := fun j hj => by
            by_cases e : j = k
            · subst e; exact ⟨HFK.out, hq.1 rfl⟩
            · exact HJ.out j (by omega)
          clear hq
          go_wp2
          go_roundw
          case rel => exact ⟨k + 1, by omega, by go_num, by omega, HB2.out, hf2, HJ'⟩
          case measure => simp [intOf]; omega
    · obtain rfl : k = t := by omega
      have HNX : Hid (Below w.heap.size w wr) := hnx
      clear hnx
      go_wp2_with fail
      refine (eachOneKid_any a c k F _ ⟨by omega, by omega⟩ (fun i hi => (HS.out.2 i hi).2.2) (fun i hi j hj => ((HJ.out i hi).2 j hj).1) (H.out.below HNX.out)).mono ?_
      rintro e w1 ⟨q, rfl, hq, hb1⟩
      have HQ : Hid (q = true ↔ GoodF F k) := ⟨fun h => ⟨⟨by omega, by omega⟩, HJ.out, hq.1 h⟩, fun h => hq.2 h.2.2⟩
      have HB1 : Hid (Below w.heap.size w w1) := HNX.out.trans (hb1.mono HNX.out.size)
      clear hb1 hq
      go_wp2
      go_ret
      exact BoolIs.of HQ.out HB1.out

end Go.Proofs.YtjbjgkkkkghcgaaGreatDoor
namespace Go.Proofs.YtjbjgkkkkghcgaaGreatDoor
open Go.RowKit
set_option linter.unusedVariables false

/-- A term above others. -/
def aboveT (kind : Int) (m : Nat) (K : Nat → Int) : Tm := ⟨kind, ⟨#[]⟩, 0, fun _ => zeroNd, m, K⟩
theorem shiftT_zero (x : Tm) : shiftT 0 x = x := by
  obtain ⟨a, b, c, d, e, f⟩ := x
  simp [shiftT]
theorem catF_nil (F G : Nat → Tm) : catF F 0 G = G := by
  funext i
  have h := shiftT_zero (G i)
  simpa [catF] using h

/-- WHAT A FUNCTION ANSWERS THAT MAKES A FILTER. -/
def FlIs (G : Nat → Tm) (u : Nat) (q : Bool) (w : World) (e : Ending) (w' : World) : Prop := ∃ a c b P Q, e = .returned (.tuple #[.agg #[.slice a u c], .bool q]) ∧ (u ≠ 0 → w.heap.size ≤ b ∧ b < w'.heap.size) ∧ (∀ i, i < u → w.heap.size ≤ P i) ∧ FOwn w' b a u G P Q ∧ Below w.heap.size w w'
theorem FlIs.no (G : Nat → Tm) {w w' : World} (h : Below w.heap.size w w') : FlIs G 0 false w (.returned (.tuple #[.agg #[.slice none 0 0], .bool false])) w' :=
  ⟨none, 0, 0, fun _ => 0, fun _ => 0, rfl, fun h => absurd rfl h, fun i hi => by omega, ⟨by decide, .inl rfl, fun i hi => by omega, fun i j _ hj => by omega⟩, h⟩

theorem own_one (w : World) (x : Int) (T : TypeId) : OwnK (w.alloc (.cells #[.int .i64 x] T)) w.heap.size (.slice (some ⟨w.heap.size, 0, none⟩) 1 1) 1 (fun _ => x) := by
  refine ⟨_, 1, rfl, by decide, .inr ⟨rfl, by simp, fun i hi => ⟨?_, World.frozen?_alloc_new _ _ _ _⟩⟩⟩
  obtain rfl : i = 0 := by omega
  simp [World.cell?_alloc_new]

theorem kids_small {F : Nat → Tm} {t : Nat} (h : GoodF F t) : ∀ i, i < t → ∀ j, j < (F i).m → 0 ≤ (F i).K j ∧ (F i).K j ≤ 2 ^ 20 := fun i hi j hj => by
  have h1 := ((h.2.1 i hi).2 j hj).1
  have := h.1.2
  omega

end Go.Proofs.YtjbjgkkkkghcgaaGreatDoor
namespace Go.Proofs.YtjbjgkkkkghcgaaGreatDoor
open Go.RowKit
set_option linter.unusedVariables false

/-- A term that stands alone, without kids. -/
def leafT (x : Tm) : Tm := { x with m := 0, K := fun _ => 0 }
/-- A term above those of the numbers l. -/
def overT (kind : Int) (l : List Nat) : Tm := aboveT kind l.length (fun i => ((l.getD i 0 : Nat) : Int))

/-- The numbers of kids that stand behind n terms. -/
def Cl.nums : List Cl → Nat → List Nat
  | [], _ => []
  | c :: l, n => (n + c.size - 1) :: Cl.nums l (n + c.size)

mutual
/-- Its terms, behind n others. -/
def Cl.emit : Cl → Nat → List Tm
  | .leaf x, _ => [leafT x]
  | .all l, n => Cl.emits l n ++ [overT 6 (Cl.nums l n)]
  | .any l, n => Cl.emits l n ++ [overT 7 (Cl.nums l n)]
  | .neg c, n => c.emit n ++ [overT 8 [n + c.size - 1]]
def Cl.emits : List Cl → Nat → List Tm
  | [], _ => []
  | c :: l, n => c.emit n ++ Cl.emits l (n + c.size)
end

mutual
theorem Cl.size_pos : ∀ c : Cl, 0 < c.size
  | .leaf _ => by simp [Cl.size]
  | .all l => by simp [Cl.size]
  | .any l => by simp [Cl.size]
  | .neg c => by simp [Cl.size]
theorem Cl.emit_len : ∀ (c : Cl) (n : Nat), (c.emit n).length = c.size
  | .leaf _, n => by simp [Cl.emit, Cl.size]
  | .all l, n => by simp [Cl.emit, Cl.size, Cl.emits_len l n]
  | .any l, n => by simp [Cl.emit, Cl.size, Cl.emits_len l n]
  | .neg c, n => by simp [Cl.emit, Cl.size, Cl.emit_len c n]
theorem Cl.emits_len : ∀ (l : List Cl) (n : Nat), (Cl.emits l n).length = Cl.sizes l
  | [], n => by simp [Cl.emits, Cl.sizes]
  | c :: l, n => by simp [Cl.emits, Cl.sizes, Cl.emit_len c n, Cl.emits_len l (n + c.size)]
end
theorem Cl.nums_len : ∀ (l : List Cl) (n : Nat), (Cl.nums l n).length = l.length
  | [], n => rfl
  | c :: l, n => by simp [Cl.nums, Cl.nums_len l (n + c.size)]
/-- Kids' numbers lie behind n, within what the kids are told by, and rise. -/
theorem Cl.nums_in : ∀ (l : List Cl) (n x : Nat), x ∈ Cl.nums l n → n ≤ x ∧ x < n + Cl.sizes l
  | [], n, x, h => by simp [Cl.nums] at h
  | c :: l, n, x, h => by
    have hp := Cl.size_pos c
    simp only [Cl.nums, List.mem_cons] at h
    rcases h with rfl | h
    · simp only [Cl.sizes]; omega
    · have := Cl.nums_in l (n + c.size) x h
      simp only [Cl.sizes]
      omega
theorem Cl.nums_rise : ∀ (l : List Cl) (n : Nat), (Cl.nums l n).Pairwise (· < ·)
  | [], n => by simp [Cl.nums]
  | c :: l, n => by
    have hp := Cl.size_pos c
    simp only [Cl.nums, List.pairwise_cons]
    refine ⟨fun x hx => ?_, Cl.nums_rise l (n + c.size)⟩
    have := Cl.nums_in l (n + c.size) x hx
    omega

/-- How often z is a kid in the list. -/
def cntL (L : List Tm) (z : Int) : Int := (L.map fun x => kcnt x.K x.m z).sum
theorem cntL_append (L M : List Tm) (z : Int) : cntL (L ++ M) z = cntL L z + cntL M z := by simp [cntL]
theorem cntL_one (x : Tm) (z : Int) : cntL [x] z = kcnt x.K x.m z := by simp [cntL]

theorem kcnt_none {K : Nat → Int} {z : Int} : ∀ m, (∀ j, j < m → K j ≠ z) → kcnt K m z = 0 := by
  intro m
  induction m with
  | zero => intro _; rfl
  | succ m ih =>
    intro h
    simp only [kcnt]
    rw [ih (fun j hj => h j (by omega)), if_neg (fun e => h m (by omega) e.symm)]
    rfl
theorem kcnt_once {K : Nat → Int} {z : Int} {i : Nat} : ∀ m, i < m → K i = z → (∀ j, j < m → j ≠ i → K j ≠ z) → kcnt K m z = 1 := by
  intro m
  induction m with
  | zero => intro h; omega
  | succ m ih =>
    intro hi he hn
    simp only [kcnt]
    by_cases e : i = m
    · subst e
      rw [kcnt_none i (fun j hj => hn j (by omega) (by omega)), if_pos he.symm]
      rfl
    · rw [ih (by omega) he (fun j hj hji => hn j (by omega) hji), if_neg (fun h => hn m (by omega) (fun h2 => e h2.symm) h.symm)]
      rfl
theorem kcnt_over (kind : Int) (l : List Nat) (h : l.Pairwise (· < ·)) (z : Nat) : kcnt (overT kind l).K (overT kind l).m z = if z ∈ l then 1 else 0 := by
  show kcnt (fun i => ((l.getD i 0 : Nat) : Int)) l.length z = _
  have hget : ∀ j (hj : j < l.length), l.getD j 0 = l[j] := fun j hj => by rw [List.getD_eq_getElem?_getD, List.getElem?_eq_getElem hj]; rfl
  by_cases hz : z ∈ l
  · rw [if_pos hz]
    obtain ⟨i, hi, he⟩ := List.getElem_of_mem hz
    refine kcnt_once (i := i) _ hi (by rw [hget i hi, he]) (fun j hj hji e => ?_)
    rw [hget j hj] at e
    have e' : l[j] = l[i] := by omega
    rcases Nat.lt_or_gt_of_ne hji with hlt | hgt
    · have := List.pairwise_iff_getElem.1 h j i hj hi hlt; omega
    · have := List.pairwise_iff_getElem.1 h i j hi hj hgt; omega
  · rw [if_neg hz]
    refine kcnt_none _ (fun j hj e => hz ?_)
    rw [hget j hj] at e
    have : l[j] = z := by omega
    rw [← this]
    exact List.getElem_mem hj

mutual
/-- Each of a clause's terms but the last is a kid once. -/
theorem Cl.emit_cnt : ∀ (c : Cl) (n z : Nat), cntL (c.emit n) z = if n ≤ z ∧ z + 1 < n + c.size then 1 else 0
  | .leaf x, n, z => by
    have h : ¬ (n ≤ z ∧ z + 1 < n + (Cl.leaf x).size) := fun h => by
      have h2 : z + 1 < n + 1 := h.2
      omega
    rw [if_neg h]
    rfl
  | .all l, n, z => by
    rw [Cl.emit, cntL_append, cntL_one, Cl.emits_cnt l n z, kcnt_over _ _ (Cl.nums_rise l n), Cl.size]
    by_cases hz : z ∈ Cl.nums l n
    · have := Cl.nums_in l n z hz
      rw [if_neg (fun h => h.2 hz), if_pos hz, if_pos (by omega)]
      rfl
    · rw [if_neg hz]
      by_cases hr : n ≤ z ∧ z < n + Cl.sizes l
      · rw [if_pos ⟨hr, hz⟩, if_pos (by omega)]
        rfl
      · rw [if_neg (fun h => hr h.1), if_neg (by omega)]
        rfl
  | .any l, n, z => by
    rw [Cl.emit, cntL_append, cntL_one, Cl.emits_cnt l n z, kcnt_over _ _ (Cl.nums_rise l n), Cl.size]
    by_cases hz : z ∈ Cl.nums l n
    · have := Cl.nums_in l n z hz
      rw [if_neg (fun h => h.2 hz), if_pos hz, if_pos (by omega)]
      rfl
    · rw [if_neg hz]
      by_cases hr : n ≤ z ∧ z < n + Cl.sizes l
      · rw [if_pos ⟨hr, hz⟩, if_pos (by omega)]
        rfl
      · rw [if_neg (fun h => hr h.1), if_neg (by omega)]
        rfl
  | .neg c, n, z => by
    have hp := Cl.size_pos c
    rw [Cl.emit, cntL_append, cntL_one, Cl.emit_cnt c n z, kcnt_over _ _ (by simp), Cl.size]
    by_cases hz : z = n + c.size - 1
    · rw [if_neg (by omega), if_pos (by simp [hz]), if_pos (by omega)]
      rfl
    · rw [if_neg (show ¬ z ∈ [n + c.size - 1] by simpa using hz)]
      by_cases hr : n ≤ z ∧ z + 1 < n + c.size
      · rw [if_pos hr, if_pos (by omega)]
        rfl
      · rw [if_neg hr, if_neg (by omega)]
        rfl
theorem Cl.emits_cnt : ∀ (l : List Cl) (n z : Nat), cntL (Cl.emits l n) z = if (n ≤ z ∧ z < n + Cl.sizes l) ∧ ¬ z ∈ Cl.nums l n then 1 else 0
  | [], n, z => by
    have h : ¬ ((n ≤ z ∧ z < n + Cl.sizes []) ∧ ¬ z ∈ Cl.nums [] n) := fun h => by
      have h2 : z < n + 0 := h.1.2
      omega
    rw [if_neg h]
    rfl
  | c :: l, n, z => by
    have hp := Cl.size_pos c
    rw [Cl.emits, cntL_append, Cl.emit_cnt c n z, Cl.emits_cnt l (n + c.size) z]
    simp only [Cl.sizes, Cl.nums, List.mem_cons]
    have hin := Cl.nums_in l (n + c.size) z
    by_cases h1 : n ≤ z ∧ z + 1 < n + c.size
    · rw [if_pos h1, if_neg (by omega), if_pos ⟨by omega, fun h => by rcases h with h | h; omega; have := hin h; omega⟩]
      rfl
    · rw [if_neg h1]
      by_cases h2 : (n + c.size ≤ z ∧ z < n + c.size + Cl.sizes l) ∧ ¬ z ∈ Cl.nums l (n + c.size)
      · rw [if_pos h2, if_pos ⟨by omega, fun h => by rcases h with h | h; omega; exact h2.2 h⟩]
        rfl
      · rw [if_neg h2, if_neg (fun h => h2 ⟨by have := h.1; have : ¬ z = n + c.size - 1 := fun e => h.2 (.inl e); omega, fun h3 => h.2 (.inr h3)⟩)]
        rfl
end

/-- What stands alone is good: kinds 1 to 5. -/
def LeafOK (x : Tm) : Prop := FieldsOK x ∧ (1 ≤ x.kind ∧ x.kind ≤ 5)
mutual
/-- All that stands alone within is good. -/
def Cl.ok : Cl → Prop
  | .leaf x => LeafOK x
  | .all l => Cl.oks l
  | .any l => Cl.oks l
  | .neg c => c.ok
def Cl.oks : List Cl → Prop
  | [] => True
  | c :: l => c.ok ∧ Cl.oks l
end
theorem leaf_fields {x : Tm} (h : LeafOK x) : FieldsOK (leafT x) := by
  obtain ⟨h1, h2, h3⟩ := h
  unfold FieldsOK at h1 ⊢
  simp only [leafT]
  rcases h1 with ⟨a, b, c, _⟩ | ⟨a, b, c, _⟩ | ⟨a, b, c, _⟩ | ⟨a, _, _⟩ | ⟨a, _, _, _⟩
  · exact .inl ⟨a, b, c, trivial⟩
  · exact .inr (.inl ⟨a, b, c, trivial⟩)
  · exact .inr (.inr (.inl ⟨a, b, c, trivial⟩))
  · omega
  · omega

/-- Terms that stand from n on are as their kinds ask, their kids ahead of them. -/
def SegOK (L : List Tm) (n : Nat) : Prop := ∀ i x, L[i]? = some x → FieldsOK x ∧ RisA x.K x.m ((n + i : Nat) : Int)
theorem SegOK.append {L M : List Tm} {n : Nat} (h : SegOK L n) (k : SegOK M (n + L.length)) : SegOK (L ++ M) n := fun i x hx => by
  by_cases e : i < L.length
  · rw [List.getElem?_append_left e] at hx
    exact h i x hx
  · rw [List.getElem?_append_right (by omega)] at hx
    have := k _ x hx
    rwa [show n + L.length + (i - L.length) = n + i by omega] at this
theorem over_ok (kind : Int) (l : List Nat) (own : Nat) (hk : kind = 6 ∨ kind = 7 ∨ (kind = 8 ∧ l.length = 1)) (hr : l.Pairwise (· < ·)) (hb : ∀ x ∈ l, x < own) : FieldsOK (overT kind l) ∧ RisA (overT kind l).K (overT kind l).m own := by
  refine ⟨?_, fun j hj => ?_⟩
  · unfold FieldsOK
    simp only [overT, aboveT]
    rcases hk with h | h | ⟨h, h2⟩
    · exact .inr (.inr (.inr (.inl ⟨.inl h, rfl, trivial⟩)))
    · exact .inr (.inr (.inr (.inl ⟨.inr h, rfl, trivial⟩)))
    · exact .inr (.inr (.inr (.inr ⟨h, rfl, trivial, h2⟩)))
  · have hj' : j < l.length := hj
    have hget : ∀ j (hj : j < l.length), l.getD j 0 = l[j] := fun j hj => by rw [List.getD_eq_getElem?_getD, List.getElem?_eq_getElem hj]; rfl
    show (0 ≤ ((l.getD j 0 : Nat) : Int) ∧ ((l.getD j 0 : Nat) : Int) < own) ∧ (0 < j → ((l.getD (j - 1) 0 : Nat) : Int) < ((l.getD j 0 : Nat) : Int))
    rw [hget j hj']
    have h1 := hb _ (List.getElem_mem hj')
    refine ⟨by omega, fun h0 => ?_⟩
    rw [hget (j - 1) (by omega)]
    have := List.pairwise_iff_getElem.1 hr (j - 1) j (by omega) hj' (by omega)
    omega
theorem SegOK.one {x : Tm} {n : Nat} (h : FieldsOK x ∧ RisA x.K x.m n) : SegOK [x] n := fun i y hy => by
  cases i with
  | zero => simp at hy; subst hy; exact h
  | succ i => simp at hy

mutual
theorem Cl.emit_ok : ∀ (c : Cl) (n : Nat), c.ok → SegOK (c.emit n) n
  | .leaf x, n, h => by
    rw [Cl.ok] at h
    rw [Cl.emit]
    exact SegOK.one ⟨leaf_fields h, fun j hj => absurd hj (Nat.not_lt_zero _)⟩
  | .all l, n, h => by
    rw [Cl.ok] at h
    rw [Cl.emit]
    refine SegOK.append (Cl.emits_ok l n h) (SegOK.one ?_)
    rw [Cl.emits_len]
    exact over_ok 6 _ _ (.inl rfl) (Cl.nums_rise l n) (fun x hx => (Cl.nums_in l n x hx).2)
  | .any l, n, h => by
    rw [Cl.ok] at h
    rw [Cl.emit]
    refine SegOK.append (Cl.emits_ok l n h) (SegOK.one ?_)
    rw [Cl.emits_len]
    exact over_ok 7 _ _ (.inr (.inl rfl)) (Cl.nums_rise l n) (fun x hx => (Cl.nums_in l n x hx).2)
  | .neg c, n, h => by
    have hp := Cl.size_pos c
    rw [Cl.ok] at h
    rw [Cl.emit]
    refine SegOK.append (Cl.emit_ok c n h) (SegOK.one ?_)
    rw [Cl.emit_len]
    exact over_ok 8 _ _ (.inr (.inr ⟨rfl, rfl⟩)) (by simp) (fun x hx => by simp at hx; omega)
theorem Cl.emits_ok : ∀ (l : List Cl) (n : Nat), Cl.oks l → SegOK (Cl.emits l n) n
  | [], n, _ => by
    rw [Cl.emits]
    exact fun i x hx => by simp at hx
  | c :: l, n, h => by
    rw [Cl.oks] at h
    rw [Cl.emits]
    refine SegOK.append (Cl.emit_ok c n h.1) ?_
    rw [Cl.emit_len]
    exact Cl.emits_ok l (n + c.size) h.2
end

/-- The terms of a list, by their numbers. -/
def atL (L : List Tm) (i : Nat) : Tm := L.getD i (aboveT 0 0 (fun _ => 0))
theorem tcnt_take (L : List Tm) (z : Int) : ∀ t, t ≤ L.length → tcnt (atL L) t z = cntL (L.take t) z := by
  intro t
  induction t with
  | zero => intro _; simp [tcnt, cntL]
  | succ t ih =>
    intro ht
    have hg : L[t]? = some (atL L t) := by
      unfold atL
      rw [List.getD_eq_getElem?_getD, List.getElem?_eq_getElem (by omega)]
      rfl
    rw [tcnt, ih (by omega), List.take_add_one, cntL_append, hg]
    simp [cntL]
/-- A CLAUSE'S TERMS ARE A GOOD FILTER, where there are no more than twenty. -/
theorem Cl.emit_good (c : Cl) (h : c.ok) : GoodF (atL (c.emit 0)) c.size ↔ c.size ≤ 20 := by
  have hp := Cl.size_pos c
  refine ⟨fun g => g.1.2, fun h20 => ⟨⟨by omega, h20⟩, fun i hi => ?_, fun k hk => ?_⟩⟩
  · have hlt : i < (c.emit 0).length := by rw [Cl.emit_len]; exact hi
    have hg : (c.emit 0)[i]? = some (atL (c.emit 0) i) := by
      unfold atL
      rw [List.getD_eq_getElem?_getD, List.getElem?_eq_getElem hlt]
      rfl
    have := Cl.emit_ok c 0 h i _ hg
    rwa [Nat.zero_add] at this
  · rw [tcnt_take _ _ _ (by rw [Cl.emit_len]; exact Nat.le_refl _), List.take_of_length_le (by rw [Cl.emit_len]; exact Nat.le_refl _), Cl.emit_cnt, if_pos (by omega)]

end Go.Proofs.YtjbjgkkkkghcgaaGreatDoor
namespace Go.Proofs.YtjbjgkkkkghcgaaGreatDoor
open Go.RowKit
set_option linter.unusedVariables false

mutual
theorem Cl.plain_ok : ∀ c : Cl, c.ok → c.plain.ok ∧ c.turn.ok
  | .leaf x, h => by
    rw [Cl.ok] at h
    refine ⟨?_, ?_⟩
    · rw [Cl.plain, Cl.ok]; exact h
    · rw [Cl.turn, Cl.ok, Cl.ok]; exact h
  | .all l, h => by
    rw [Cl.ok] at h
    have := Cl.plains_ok l h
    refine ⟨?_, ?_⟩
    · rw [Cl.plain, Cl.ok]; exact this.1
    · rw [Cl.turn, Cl.ok]; exact this.2
  | .any l, h => by
    rw [Cl.ok] at h
    have := Cl.plains_ok l h
    refine ⟨?_, ?_⟩
    · rw [Cl.plain, Cl.ok]; exact this.1
    · rw [Cl.turn, Cl.ok]; exact this.2
  | .neg c, h => by
    rw [Cl.ok] at h
    have := Cl.plain_ok c h
    refine ⟨?_, ?_⟩
    · rw [Cl.plain]; exact this.2
    · rw [Cl.turn]; exact this.1
theorem Cl.plains_ok : ∀ l : List Cl, Cl.oks l → Cl.oks (Cl.plains l) ∧ Cl.oks (Cl.turns l)
  | [], _ => ⟨by rw [Cl.plains, Cl.oks]; trivial, by rw [Cl.turns, Cl.oks]; trivial⟩
  | c :: l, h => by
    rw [Cl.oks] at h
    have h1 := Cl.plain_ok c h.1
    have h2 := Cl.plains_ok l h.2
    exact ⟨by rw [Cl.plains, Cl.oks]; exact ⟨h1.1, h2.1⟩, by rw [Cl.turns, Cl.oks]; exact ⟨h1.2, h2.2⟩⟩
end
mutual
theorem Cl.plain_size : ∀ c : Cl, c.plain.size ≤ 2 * c.size ∧ c.turn.size ≤ 2 * c.size
  | .leaf x => by simp [Cl.plain, Cl.turn, Cl.size]
  | .all l => by
    have := Cl.plains_size l
    simp only [Cl.plain, Cl.turn, Cl.size]
    omega
  | .any l => by
    have := Cl.plains_size l
    simp only [Cl.plain, Cl.turn, Cl.size]
    omega
  | .neg c => by
    have := Cl.plain_size c
    simp only [Cl.plain, Cl.turn, Cl.size]
    omega
theorem Cl.plains_size : ∀ l : List Cl, Cl.sizes (Cl.plains l) ≤ 2 * Cl.sizes l ∧ Cl.sizes (Cl.turns l) ≤ 2 * Cl.sizes l
  | [] => by simp [Cl.plains, Cl.turns, Cl.sizes]
  | c :: l => by
    have h1 := Cl.plain_size c
    have h2 := Cl.plains_size l
    simp only [Cl.plains, Cl.turns, Cl.sizes]
    omega
end

theorem Cl.oks_iff : ∀ l : List Cl, Cl.oks l ↔ ∀ c ∈ l, c.ok
  | [] => by simp [Cl.oks]
  | c :: l => by rw [Cl.oks, Cl.oks_iff l]; simp
theorem Cl.sizes_append : ∀ l l' : List Cl, Cl.sizes (l ++ l') = Cl.sizes l + Cl.sizes l'
  | [], l' => by simp [Cl.sizes]
  | c :: l, l' => by simp [Cl.sizes, Cl.sizes_append l l']; omega

/-- A term that is not above others stands alone, and is good. -/
theorem leaf_of {F : Nat → Tm} {t k : Nat} (h : GoodF F t) (hk : k < t) (k6 : (F k).kind ≠ 6) (k7 : (F k).kind ≠ 7) (k8 : (F k).kind ≠ 8) : LeafOK (F k) := by
  have hf := (h.2.1 k hk).1
  refine ⟨hf, ?_⟩
  unfold FieldsOK at hf
  rcases hf with ⟨a, _⟩ | ⟨a, _⟩ | ⟨a, _⟩ | ⟨a, _⟩ | ⟨a, _⟩ <;> omega
theorem not_one {F : Nat → Tm} {t k : Nat} (h : GoodF F t) (hk : k < t) (k8 : (F k).kind = 8) : (F k).m = 1 := by
  have hf := (h.2.1 k hk).1
  unfold FieldsOK at hf
  rcases hf with ⟨a, _⟩ | ⟨a, _⟩ | ⟨a, _⟩ | ⟨a, _⟩ | ⟨a, _, _, b⟩
  · omega
  · omega
  · omega
  · omega
  · exact b
theorem kids_ahead {F : Nat → Tm} {t : Nat} (h : GoodF F t) : ∀ i, i < t → ∀ j, j < (F i).m → 0 ≤ (F i).K j ∧ (F i).K j < i := fun i hi j hj => ((h.2.1 i hi).2 j hj).1

theorem clF_ok {F : Nat → Tm} {t : Nat} (h : GoodF F t) : ∀ f k, k < f → k < t → (clF F f k).ok := by
  intro f
  induction f with
  | zero => intro k hk; omega
  | succ f ih =>
    intro k hk hkt
    have hkid : ∀ j, j < (F k).m → (clF F f ((F k).K j).toNat).ok := fun j hj => by
      have := kids_ahead h k hkt j hj
      exact ih _ (by omega) (by omega)
    rw [clF]
    by_cases k6 : (F k).kind = 6
    · rw [if_pos k6, Cl.ok, Cl.oks_iff]
      intro c hc
      obtain ⟨j, hj, rfl⟩ := List.mem_map.1 hc
      exact hkid j (by simpa using hj)
    · rw [if_neg k6]
      by_cases k7 : (F k).kind = 7
      · rw [if_pos k7, Cl.ok, Cl.oks_iff]
        intro c hc
        obtain ⟨j, hj, rfl⟩ := List.mem_map.1 hc
        exact hkid j (by simpa using hj)
      · rw [if_neg k7]
        by_cases k8 : (F k).kind = 8
        · rw [if_pos k8, Cl.ok]
          exact hkid 0 (by rw [not_one h hkt k8]; omega)
        · rw [if_neg k8, Cl.ok]
          exact leaf_of h hkt k6 k7 k8

/-- Kids that rise are told by no more than all that stands ahead. -/
theorem kids_size {F : Nat → Tm} {t f k : Nat} (h : GoodF F t) (hkt : k < t) (ih : ∀ q, q < k → (clF F f q).size ≤ 2 ^ q) : ∀ m, m ≤ (F k).m → m = 0 ∨ Cl.sizes ((List.range m).map fun j => clF F f ((F k).K j).toNat) + 1 ≤ 2 ^ (((F k).K (m - 1)).toNat + 1) := by
  intro m
  induction m with
  | zero => intro _; exact .inl rfl
  | succ m ihm =>
    intro hm
    refine .inr ?_
    have hb := kids_ahead h k hkt m (by omega)
    have hs := ih ((F k).K m).toNat (by omega)
    rw [List.range_succ, List.map_append, Cl.sizes_append]
    simp only [List.map_cons, List.map_nil, Cl.sizes, Nat.add_sub_cancel, Nat.add_zero]
    rw [Nat.pow_succ]
    rcases ihm (by omega) with h0 | h1
    · subst h0
      simp only [List.range_zero, List.map_nil, Cl.sizes]
      have : 0 < 2 ^ ((F k).K 0).toNat := Nat.pow_pos (by omega)
      omega
    · by_cases m0 : m = 0
      · subst m0
        simp only [List.range_zero, List.map_nil, Cl.sizes]
        have : 0 < 2 ^ ((F k).K 0).toNat := Nat.pow_pos (by omega)
        omega
      · have hr := ((h.2.1 k hkt).2 m (by omega)).2 (by omega)
        have hb' := kids_ahead h k hkt (m - 1) (by omega)
        have hp : 2 ^ (((F k).K (m - 1)).toNat + 1) ≤ 2 ^ ((F k).K m).toNat := Nat.pow_le_pow_right (by omega) (by omega)
        omega
theorem clF_size {F : Nat → Tm} {t : Nat} (h : GoodF F t) : ∀ f k, k < f → k < t → (clF F f k).size ≤ 2 ^ k := by
  intro f
  induction f with
  | zero => intro k hk; omega
  | succ f ih =>
    intro k hk hkt
    have h1 : 0 < 2 ^ k := Nat.pow_pos (by omega)
    have hkids : Cl.sizes ((List.range (F k).m).map fun j => clF F f ((F k).K j).toNat) + 1 ≤ 2 ^ k := by
      rcases kids_size (f := f) h hkt (fun q hq => ih q (by omega) (by omega)) (F k).m (Nat.le_refl _) with h0 | h2
      · rw [h0]; simp only [List.range_zero, List.map_nil, Cl.sizes]; omega
      · by_cases m0 : (F k).m = 0
        · rw [m0]; simp only [List.range_zero, List.map_nil, Cl.sizes]; omega
        · have hb := kids_ahead h k hkt ((F k).m - 1) (by omega)
          exact Nat.le_trans h2 (Nat.pow_le_pow_right (by omega) (by omega))
    rw [clF]
    by_cases k6 : (F k).kind = 6
    · rw [if_pos k6, Cl.size]; exact hkids
    · rw [if_neg k6]
      by_cases k7 : (F k).kind = 7
      · rw [if_pos k7, Cl.size]; exact hkids
      · rw [if_neg k7]
        by_cases k8 : (F k).kind = 8
        · rw [if_pos k8, Cl.size]
          rw [not_one h hkt k8] at hkids
          simpa [Cl.sizes] using hkids
        · rw [if_neg k8, Cl.size]; omega

end Go.Proofs.YtjbjgkkkkghcgaaGreatDoor
