/- What two texts have in common at their beginnings: the specification's and the program's. No condition but that texts fit in memory. -/
import Derived.Test.YtkboblfjchkedaaSxJ
import Derived.ScopeJumps
import Derived.WalkMore
namespace Go.Proofs.Ytkboblfjchkedaa
open Go.RowKit Go.Sort
set_option linter.unusedVariables false

/-- How many bytes two texts have in common. -/
def com : List UInt8 → List UInt8 → Nat
  | x :: a, y :: b => if x = y then com a b + 1 else 0
  | _, _ => 0
theorem com_le1 : ∀ a b : List UInt8, com a b ≤ a.length
  | [], b => by simp [com]
  | x :: a, [] => by simp [com]
  | x :: a, y :: b => by
    unfold com
    have := com_le1 a b
    split <;> simp only [List.length_cons] <;> omega
theorem com_le2 : ∀ a b : List UInt8, com a b ≤ b.length
  | [], b => by simp [com]
  | x :: a, [] => by simp [com]
  | x :: a, y :: b => by
    unfold com
    have := com_le2 a b
    split <;> simp only [List.length_cons] <;> omega
theorem com_next {a b : List UInt8} {k : Nat} {x y : UInt8} (ha : a[k]? = some x) (hb : b[k]? = some y) : com (a.drop k) (b.drop k) = if x = y then com (a.drop (k + 1)) (b.drop (k + 1)) + 1 else 0 := by
  obtain ⟨h1, rfl⟩ := List.getElem?_eq_some_iff.1 ha
  obtain ⟨h2, rfl⟩ := List.getElem?_eq_some_iff.1 hb
  rw [List.drop_eq_getElem_cons h1, List.drop_eq_getElem_cons h2, com]
theorem com_end1 {a b : List UInt8} {k : Nat} (h : a.length ≤ k) : com (a.drop k) (b.drop k) = 0 := by rw [List.drop_eq_nil_of_le h]; simp [com]
theorem com_end2 {a b : List UInt8} {k : Nat} (h : b.length ≤ k) : com (a.drop k) (b.drop k) = 0 := by
  rw [List.drop_eq_nil_of_le h]
  cases a.drop k <;> simp [com]
theorem tx_at (s : ByteArray) (k : Nat) (h : k < s.size) : (tx s)[k]? = some s[k] := by
  unfold tx
  rw [List.getElem?_eq_getElem (by rw [tx_len]; exact h)]
  rfl
set_option maxRecDepth 100000 in
set_option maxHeartbeats 2000000 in
theorem l12Common_k (a b : ByteArray) (w : World) (ha : a.size ≤ 2 ^ 20) (hb : b.size ≤ 2 ^ 20) :
    Calls Try.prog 35 #[.string a, .string b] w fun e w' => e = .returned (.int .i64 (com (tx a) (tx b))) ∧ Below w.heap.size w w' := by
  go_enter Try.func35, Try.ntmps35
  go_wp2_with fail
  go_loopw [5] (fun kv wr => ∃ k : Nat, k ≤ a.size ∧ k ≤ b.size ∧ kv = .int .i64 k ∧ Hid (com (tx a) (tx b) = k + com ((tx a).drop k) ((tx b).drop k)) ∧ Below w.heap.size w wr) (fun kv _ => a.size - (intOf kv).toNat)
  case atStart => exact ⟨0, Nat.zero_le _, Nat.zero_le _, rfl, by show _ = _; simp, Below.refl _ _⟩
  case round =>
    obtain ⟨k, hk1, hk2, rfl, HI, hnx⟩ := hrel
    have zw := hnx.size
    have hne := belowOf_ne wr
    by_cases h1 : k < a.size
    · have e1 : decide ((k : Int) < (a.size : Int)) = true := decide_eq_true (by omega)
      have f1 : decide (k < a.size) = true := decide_eq_true h1
      by_cases h2 : k < b.size
      · have e2 : decide ((k : Int) < (b.size : Int)) = true := decide_eq_true (by omega)
        have f2 : decide (k < b.size) = true := decide_eq_true h2
        have k0 : (0 : Int) ≤ (k : Int) := by omega
        have k1 : (k : Int) < (a.size : Int) := by omega
        have k2 : (k : Int) < (b.size : Int) := by omega
        have hx := com_next (tx_at a k h1) (tx_at b k h2)
        by_cases he : a[k] = b[k]
        · have g1 : (((a[k]).toNat : Int) == ((b[k]).toNat : Int)) = true := by rw [he]; simp
          have HI2 : Hid (com (tx a) (tx b) = k + 1 + com ((tx a).drop (k + 1)) ((tx b).drop (k + 1))) := by
            show _ = _
            have h := HI.out
            rw [hx, if_pos he] at h
            omega
          clear hx he HI
          go_wp2_with fail
          refine region_below (by kernel_rfl) (by kernel_rfl) ?_
          repeat (go_big_quiet_step (first | fail))
          refine wpQuiet_nil (belowOf_all ?_)
          intro w2 hb2
          go_wp2
          go_roundw
          case rel => exact ⟨k + 1, by omega, by omega, by go_num, HI2, hnx.trans (hb2.mono zw)⟩
          case measure => simp [intOf]; omega
        · have g1 : (((a[k]).toNat : Int) == ((b[k]).toNat : Int)) = false := by
            cases q : (((a[k]).toNat : Int) == ((b[k]).toNat : Int)) with
            | false => rfl
            | true =>
              have q' : ((a[k]).toNat : Int) = ((b[k]).toNat : Int) := by simpa using q
              exact absurd (UInt8.toNat.inj (by omega)) he
          have HE : Hid (com (tx a) (tx b) = k) := by
            show _ = _
            have h := HI.out
            rw [hx, if_neg he] at h
            omega
          clear hx he HI
          go_wp2_with fail
          refine region_below (by kernel_rfl) (by kernel_rfl) ?_
          repeat (go_big_quiet_step (first | fail))
          refine wpQuiet_nil (belowOf_all ?_)
          intro w2 hb2
          go_wp2
          go_ret
          exact ⟨by rw [HE.out]; rfl, hnx.trans (hb2.mono zw)⟩
      · have e2 : decide ((k : Int) < (b.size : Int)) = false := decide_eq_false (by omega)
        have f2 : decide (k < b.size) = false := decide_eq_false h2
        have HE : Hid (com (tx a) (tx b) = k) := by
          show _ = _
          have h := HI.out
          rw [com_end2 (by rw [tx_len]; omega)] at h
          omega
        clear HI
        go_wp2_with fail
        refine region_below (by kernel_rfl) (by kernel_rfl) ?_
        repeat (go_big_quiet_step (first | fail))
        refine wpQuiet_nil (belowOf_all ?_)
        intro w2 hb2
        go_wp2
        go_ret
        exact ⟨by rw [HE.out]; rfl, hnx.trans (hb2.mono zw)⟩
    · have e1 : decide ((k : Int) < (a.size : Int)) = false := decide_eq_false (by omega)
      have f1 : decide (k < a.size) = false := decide_eq_false h1
      have HE : Hid (com (tx a) (tx b) = k) := by
        show _ = _
        have h := HI.out
        rw [com_end1 (by rw [tx_len]; omega)] at h
        omega
      clear HI
      go_wp2_with fail
      refine region_below (by kernel_rfl) (by kernel_rfl) ?_
      repeat (go_big_quiet_step (first | fail))
      refine wpQuiet_nil (belowOf_all ?_)
      intro w2 hb2
      go_wp2
      go_ret
      exact ⟨by rw [HE.out]; rfl, hnx.trans (hb2.mono zw)⟩
set_option maxRecDepth 100000 in
set_option maxHeartbeats 2000000 in
theorem commonBytes_k (a b : ByteArray) (w : World) (ha : a.size ≤ 2 ^ 20) (hb : b.size ≤ 2 ^ 20) :
    Calls Try.prog 51 #[.string a, .string b] w fun e w' => e = .returned (.int .i64 (com (tx a) (tx b))) ∧ Below w.heap.size w w' := by
  go_enter Try.func51, Try.ntmps51
  go_wp2_with fail
  refine wp_scope_jumps 0 (fun a' w' => ∃ (k : Nat) (u6 u7 u8 u9 u10 u11 u12 u13 u14 u15 u16 u17 u18 u19 u20 u21 u22 u23 u24 u25 u26 : Value), a' = { tmps := #[.string a, .string b, undef, undef, .int .i64 0, .int .i64 k, u6, u7, u8, u9, u10, u11, u12, u13, u14, u15, u16, u17, u18, u19, u20, u21, u22, u23, u24, u25, u26, undef], defers := [] } ∧ k ≤ a.size ∧ k ≤ b.size ∧ Hid (com (tx a) (tx b) = k + com ((tx a).drop k) ((tx b).drop k)) ∧ Below w.heap.size w w') (fun a' _ => a.size - (intOf (a'.tmps.getD 5 undef)).toNat) rfl ?_ ?_
  · go_wp2_with fail
    go_step3
    have hnx : Below w.heap.size w w := Below.refl _ _
    have HI : Hid (com (tx a) (tx b) = 0 + com ((tx a).drop 0) ((tx b).drop 0)) := by show _ = _; simp
    have zw := hnx.size
    have hne := belowOf_ne w
    by_cases h1 : 0 < a.size
    · have e1 : decide ((0 : Int) < (a.size : Int)) = true := decide_eq_true (by omega)
      have f1 : decide (0 < a.size) = true := decide_eq_true h1
      by_cases h2 : 0 < b.size
      · have e2 : decide ((0 : Int) < (b.size : Int)) = true := decide_eq_true (by omega)
        have f2 : decide (0 < b.size) = true := decide_eq_true h2
        have k0 : (0 : Int) ≤ (0 : Int) := by omega
        have k1 : (0 : Int) < (a.size : Int) := by omega
        have k2 : (0 : Int) < (b.size : Int) := by omega
        have hx := com_next (tx_at a 0 h1) (tx_at b 0 h2)
        by_cases he : a[0] = b[0]
        · have g1 : (((a[0]).toNat : Int) == ((b[0]).toNat : Int)) = true := by rw [he]; simp
          have HI2 : Hid (com (tx a) (tx b) = 0 + 1 + com ((tx a).drop (0 + 1)) ((tx b).drop (0 + 1))) := by
            show _ = _
            have h := HI.out
            rw [hx, if_pos he] at h
            omega
          clear hx he HI
          go_wp2_with fail
          refine region_below (by kernel_rfl) (by kernel_rfl) ?_
          repeat (go_big_quiet_step (first | fail))
          refine wpQuiet_nil (belowOf_all ?_)
          intro w2 hb2
          go_wp2_with fail
          go_step3
          refine ⟨rfl, 1, _, _, _, _, _, _, _, _, _, _, _, _, _, _, _, _, _, _, _, _, _, rfl, by omega, by omega, HI2, hnx.trans (hb2.mono zw)⟩
        · have g1 : (((a[0]).toNat : Int) == ((b[0]).toNat : Int)) = false := by
            cases q : (((a[0]).toNat : Int) == ((b[0]).toNat : Int)) with
            | false => rfl
            | true =>
              have q' : ((a[0]).toNat : Int) = ((b[0]).toNat : Int) := by simpa using q
              exact absurd (UInt8.toNat.inj (by omega)) he
          have HE : Hid (com (tx a) (tx b) = 0) := by
            show _ = _
            have h := HI.out
            rw [hx, if_neg he] at h
            omega
          clear hx he HI
          go_wp2_with fail
          refine region_below (by kernel_rfl) (by kernel_rfl) ?_
          repeat (go_big_quiet_step (first | fail))
          refine wpQuiet_nil (belowOf_all ?_)
          intro w2 hb2
          go_wp2_with fail
          simp only [Exit.jump]
          go_ret
          exact ⟨by rw [HE.out]; rfl, hnx.trans (hb2.mono zw)⟩
      · have e2 : decide ((0 : Int) < (b.size : Int)) = false := decide_eq_false (by omega)
        have f2 : decide (0 < b.size) = false := decide_eq_false h2
        have HE : Hid (com (tx a) (tx b) = 0) := by
          show _ = _
          have h := HI.out
          rw [com_end2 (by rw [tx_len]; omega)] at h
          omega
        clear HI
        go_wp2_with fail
        refine region_below (by kernel_rfl) (by kernel_rfl) ?_
        repeat (go_big_quiet_step (first | fail))
        refine wpQuiet_nil (belowOf_all ?_)
        intro w2 hb2
        go_wp2_with fail
        simp only [Exit.jump]
        go_ret
        exact ⟨by rw [HE.out]; rfl, hnx.trans (hb2.mono zw)⟩
    · have e1 : decide ((0 : Int) < (a.size : Int)) = false := decide_eq_false (by omega)
      have f1 : decide (0 < a.size) = false := decide_eq_false h1
      have HE : Hid (com (tx a) (tx b) = 0) := by
        show _ = _
        have h := HI.out
        rw [com_end1 (by rw [tx_len]; omega)] at h
        omega
      clear HI
      go_wp2_with fail
      refine region_below (by kernel_rfl) (by kernel_rfl) ?_
      repeat (go_big_quiet_step (first | fail))
      refine wpQuiet_nil (belowOf_all ?_)
      intro w2 hb2
      go_wp2_with fail
      simp only [Exit.jump]
      go_ret
      exact ⟨by rw [HE.out]; rfl, hnx.trans (hb2.mono zw)⟩
  · rintro a' wr ⟨k, u6, u7, u8, u9, u10, u11, u12, u13, u14, u15, u16, u17, u18, u19, u20, u21, u22, u23, u24, u25, u26, rfl, hk1, hk2, HI, hnx⟩
    have zw := hnx.size
    have hne := belowOf_ne wr
    by_cases h1 : k < a.size
    · have e1 : decide ((k : Int) < (a.size : Int)) = true := decide_eq_true (by omega)
      have f1 : decide (k < a.size) = true := decide_eq_true h1
      by_cases h2 : k < b.size
      · have e2 : decide ((k : Int) < (b.size : Int)) = true := decide_eq_true (by omega)
        have f2 : decide (k < b.size) = true := decide_eq_true h2
        have k0 : (0 : Int) ≤ (k : Int) := by omega
        have k1 : (k : Int) < (a.size : Int) := by omega
        have k2 : (k : Int) < (b.size : Int) := by omega
        have hx := com_next (tx_at a k h1) (tx_at b k h2)
        by_cases he : a[k] = b[k]
        · have g1 : (((a[k]).toNat : Int) == ((b[k]).toNat : Int)) = true := by rw [he]; simp
          have HI2 : Hid (com (tx a) (tx b) = k + 1 + com ((tx a).drop (k + 1)) ((tx b).drop (k + 1))) := by
            show _ = _
            have h := HI.out
            rw [hx, if_pos he] at h
            omega
          clear hx he HI
          go_wp2_with fail
          refine region_below (by kernel_rfl) (by kernel_rfl) ?_
          repeat (go_big_quiet_step (first | fail))
          refine wpQuiet_nil (belowOf_all ?_)
          intro w2 hb2
          go_wp2_with fail
          go_step3
          refine ⟨rfl, ⟨k + 1, _, _, _, _, _, _, _, _, _, _, _, _, _, _, _, _, _, _, _, _, _, rfl, by omega, by omega, HI2, hnx.trans (hb2.mono zw)⟩, ?_⟩
          simp [intOf]
          omega
        · have g1 : (((a[k]).toNat : Int) == ((b[k]).toNat : Int)) = false := by
            cases q : (((a[k]).toNat : Int) == ((b[k]).toNat : Int)) with
            | false => rfl
            | true =>
              have q' : ((a[k]).toNat : Int) = ((b[k]).toNat : Int) := by simpa using q
              exact absurd (UInt8.toNat.inj (by omega)) he
          have HE : Hid (com (tx a) (tx b) = k) := by
            show _ = _
            have h := HI.out
            rw [hx, if_neg he] at h
            omega
          clear hx he HI
          go_wp2_with fail
          refine region_below (by kernel_rfl) (by kernel_rfl) ?_
          repeat (go_big_quiet_step (first | fail))
          refine wpQuiet_nil (belowOf_all ?_)
          intro w2 hb2
          go_wp2_with fail
          simp only [Exit.jump]
          go_ret
          exact ⟨by rw [HE.out]; rfl, hnx.trans (hb2.mono zw)⟩
      · have e2 : decide ((k : Int) < (b.size : Int)) = false := decide_eq_false (by omega)
        have f2 : decide (k < b.size) = false := decide_eq_false h2
        have HE : Hid (com (tx a) (tx b) = k) := by
          show _ = _
          have h := HI.out
          rw [com_end2 (by rw [tx_len]; omega)] at h
          omega
        clear HI
        go_wp2_with fail
        refine region_below (by kernel_rfl) (by kernel_rfl) ?_
        repeat (go_big_quiet_step (first | fail))
        refine wpQuiet_nil (belowOf_all ?_)
        intro w2 hb2
        go_wp2_with fail
        simp only [Exit.jump]
        go_ret
        exact ⟨by rw [HE.out]; rfl, hnx.trans (hb2.mono zw)⟩
    · have e1 : decide ((k : Int) < (a.size : Int)) = false := decide_eq_false (by omega)
      have f1 : decide (k < a.size) = false := decide_eq_false h1
      have HE : Hid (com (tx a) (tx b) = k) := by
        show _ = _
        have h := HI.out
        rw [com_end1 (by rw [tx_len]; omega)] at h
        omega
      clear HI
      go_wp2_with fail
      refine region_below (by kernel_rfl) (by kernel_rfl) ?_
      repeat (go_big_quiet_step (first | fail))
      refine wpQuiet_nil (belowOf_all ?_)
      intro w2 hb2
      go_wp2_with fail
      simp only [Exit.jump]
      go_ret
      exact ⟨by rw [HE.out]; rfl, hnx.trans (hb2.mono zw)⟩
end Go.Proofs.Ytkboblfjchkedaa
