/- Halving: how a first place is found, and how often is asked; the program's search. No condition. -/
import Derived.Test.YtkboblfjchkedaaSxZ
namespace Go.Proofs.Ytkboblfjchkedaa
open Go.RowKit Go.Sort
set_option linter.unusedVariables false

/-- The first place from lo on, below hi, that is not ahead, by halving; and how often is asked. -/
def hal (P : Nat → Bool) (lo hi : Nat) : Nat × Nat :=
  if h : lo < hi then
    if P ((lo + hi) / 2) = true then ((hal P ((lo + hi) / 2 + 1) hi).1, (hal P ((lo + hi) / 2 + 1) hi).2 + 1)
    else ((hal P lo ((lo + hi) / 2)).1, (hal P lo ((lo + hi) / 2)).2 + 1)
  else (lo, 0)
termination_by hi - lo
decreasing_by all_goals omega
theorem hal_done (P : Nat → Bool) {lo hi : Nat} (h : ¬ lo < hi) : hal P lo hi = (lo, 0) := by rw [hal, dif_neg h]
theorem hal_up (P : Nat → Bool) {lo hi m : Nat} (h : lo < hi) (hm : m = (lo + hi) / 2) (hp : P m = true) : hal P lo hi = ((hal P (m + 1) hi).1, (hal P (m + 1) hi).2 + 1) := by subst hm; rw [hal, dif_pos h, if_pos hp]
theorem hal_down (P : Nat → Bool) {lo hi m : Nat} (h : lo < hi) (hm : m = (lo + hi) / 2) (hp : P m = false) : hal P lo hi = ((hal P lo m).1, (hal P lo m).2 + 1) := by subst hm; rw [hal, dif_pos h, if_neg (by rw [hp]; decide)]
theorem hal_bd (P : Nat → Bool) : ∀ (n lo hi : Nat), hi - lo ≤ n → lo ≤ hi → lo ≤ (hal P lo hi).1 ∧ (hal P lo hi).1 ≤ hi ∧ (hal P lo hi).2 ≤ hi - lo
  | 0, lo, hi, hn, hl => by rw [hal_done P (by omega)]; exact ⟨Nat.le_refl _, hl, Nat.zero_le _⟩
  | n + 1, lo, hi, hn, hl => by
    by_cases h : lo < hi
    · obtain ⟨m, hm⟩ : ∃ m, m = (lo + hi) / 2 := ⟨_, rfl⟩
      cases hp : P m with
      | true =>
        have := hal_bd P n (m + 1) hi (by omega) (by omega)
        rw [hal_up P h hm hp]
        simp only
        omega
      | false =>
        have := hal_bd P n lo m (by omega) (by omega)
        rw [hal_down P h hm hp]
        simp only
        omega
    · rw [hal_done P h]; exact ⟨Nat.le_refl _, hl, Nat.zero_le _⟩

set_option maxRecDepth 100000 in
set_option maxHeartbeats 1000000 in
theorem firstNot1_k (P : Nat → Bool) (lo hi : Nat) (g1 g2 g3 : Nat) (w : World) (hlh : lo ≤ hi) (hn : hi ≤ 2 ^ 20) (hf : ∀ k W, k < hi → Below w.heap.size w W → Calls Try.prog 40 #[.int .i64 k, .pointer (some ⟨g1, 0, none⟩), .pointer (some ⟨g2, 0, none⟩), .pointer (some ⟨g3, 0, none⟩)] W fun e w' => e = .returned (.bool (P k)) ∧ Below W.heap.size W w') :
    Calls Try.prog 39 #[.int .i64 lo, .int .i64 hi, .func (.func 40) #[] #[.pointer (some ⟨g1, 0, none⟩), .pointer (some ⟨g2, 0, none⟩), .pointer (some ⟨g3, 0, none⟩)]] w fun e w' => e = .returned (.tuple #[.int .i64 (hal P lo hi).1, .int .i64 (hal P lo hi).2]) ∧ Below w.heap.size w w' := by
  have HF : Hid (∀ k W, k < hi → Below w.heap.size w W → Calls Try.prog 40 #[.int .i64 k, .pointer (some ⟨g1, 0, none⟩), .pointer (some ⟨g2, 0, none⟩), .pointer (some ⟨g3, 0, none⟩)] W fun e w' => e = .returned (.bool (P k)) ∧ Below W.heap.size W w') := hf
  have HBD : Hid ((hal P lo hi).2 ≤ hi - lo) := (hal_bd P _ lo hi (Nat.le_refl _) hlh).2.2
  obtain ⟨A, hA⟩ : ∃ A, A = hal P lo hi := ⟨_, rfl⟩
  have HA : Hid (A = hal P lo hi) := hA
  rw [← hA] at HBD ⊢
  obtain ⟨top, htop⟩ : ∃ top, top = hi := ⟨_, rfl⟩
  have HT : Hid (top = hi) := htop
  clear hf hA htop
  go_enter Try.func39, Try.ntmps39
  go_wp2_with fail
  go_loopw [0, 1, 8] (fun lv hv av wr => ∃ l h s : Nat, lv = .int .i64 l ∧ hv = .int .i64 h ∧ av = .int .i64 s ∧ l ≤ h ∧ h ≤ top ∧ Hid (A = ((hal P l h).1, (hal P l h).2 + s)) ∧ Below w.heap.size w wr) (fun lv hv _ _ => (intOf hv).toNat - (intOf lv).toNat)
  case atStart => exact ⟨lo, hi, 0, rfl, rfl, rfl, hlh, by rw [HT.out]; exact Nat.le_refl _, by show _ = _; rw [HA.out]; rfl, Below.refl _ _⟩
  case round =>
    obtain ⟨l, h, s, rfl, rfl, rfl, hl, hh, HI, hnx⟩ := hrel
    have zw := hnx.size
    have hsb : s ≤ 2 ^ 20 := by have h1 := HBD.out; rw [HI.out] at h1; have h2 := HT.out; simp only at h1; omega
    by_cases hlt : l < h
    · obtain ⟨m, hm⟩ : ∃ m, m = (l + h) / 2 := ⟨_, rfl⟩
      have em : ((l : Int) + (h : Int)) / 2 = (m : Int) := by omega
      have hc := HF.out m wr (by have := HT.out; omega) hnx
      have k1 : (l : Int) < (h : Int) := by omega
      have hml : l ≤ m := by omega
      have hmh : m < h := by omega
      have ht30 : top ≤ 2 ^ 20 := by rw [HT.out]; exact hn
      have HM : Hid (m = (l + h) / 2) := hm
      clear hm
      go_wp2_with fail
      refine hc.mono ?_
      rintro e w2 ⟨rfl, hb2⟩
      have HB2 : Hid (Below w.heap.size w w2) := hnx.trans (hb2.mono zw)
      clear hb2 hc
      cases hp : P m with
      | true =>
        have HI2 : Hid (A = ((hal P (m + 1) h).1, (hal P (m + 1) h).2 + (s + 1))) := by show _ = _; rw [HI.out, hal_up P hlt HM.out hp]; simp only [Prod.mk.injEq, true_and]; omega
        clear hp
        go_wp2
        go_roundw
        case rel => exact ⟨m + 1, h, s + 1, by go_num, rfl, by go_num, by omega, hh, HI2, HB2.out⟩
        case measure => simp only [intOf]; omega
      | false =>
        have HI2 : Hid (A = ((hal P l m).1, (hal P l m).2 + (s + 1))) := by show _ = _; rw [HI.out, hal_down P hlt HM.out hp]; simp only [Prod.mk.injEq, true_and]; omega
        clear hp
        go_wp2
        go_roundw
        case rel => exact ⟨l, m, s + 1, rfl, rfl, by go_num, by omega, by omega, HI2, HB2.out⟩
        case measure => simp only [intOf]; omega
    · have k1 : ¬ (l : Int) < (h : Int) := by omega
      have HE : Hid (A = (l, s)) := by show _ = _; rw [HI.out, hal_done P hlt]; simp
      go_wp2
      refine bodyPost_ret (v := .tuple #[.int .i64 l, .int .i64 s]) (by simp [results, Try.results39, go_sem]) rfl ?_
      rw [HE.out]
      exact ⟨rfl, hnx⟩

set_option maxRecDepth 100000 in
set_option maxHeartbeats 1000000 in
theorem firstNot2_k (P : Nat → Bool) (lo hi : Nat) (g1 g2 g3 : Nat) (w : World) (hlh : lo ≤ hi) (hn : hi ≤ 2 ^ 20) (hf : ∀ k W, k < hi → Below w.heap.size w W → Calls Try.prog 41 #[.int .i64 k, .pointer (some ⟨g1, 0, none⟩), .pointer (some ⟨g2, 0, none⟩), .pointer (some ⟨g3, 0, none⟩)] W fun e w' => e = .returned (.bool (P k)) ∧ Below W.heap.size W w') :
    Calls Try.prog 39 #[.int .i64 lo, .int .i64 hi, .func (.func 41) #[] #[.pointer (some ⟨g1, 0, none⟩), .pointer (some ⟨g2, 0, none⟩), .pointer (some ⟨g3, 0, none⟩)]] w fun e w' => e = .returned (.tuple #[.int .i64 (hal P lo hi).1, .int .i64 (hal P lo hi).2]) ∧ Below w.heap.size w w' := by
  have HF : Hid (∀ k W, k < hi → Below w.heap.size w W → Calls Try.prog 41 #[.int .i64 k, .pointer (some ⟨g1, 0, none⟩), .pointer (some ⟨g2, 0, none⟩), .pointer (some ⟨g3, 0, none⟩)] W fun e w' => e = .returned (.bool (P k)) ∧ Below W.heap.size W w') := hf
  have HBD : Hid ((hal P lo hi).2 ≤ hi - lo) := (hal_bd P _ lo hi (Nat.le_refl _) hlh).2.2
  obtain ⟨A, hA⟩ : ∃ A, A = hal P lo hi := ⟨_, rfl⟩
  have HA : Hid (A = hal P lo hi) := hA
  rw [← hA] at HBD ⊢
  obtain ⟨top, htop⟩ : ∃ top, top = hi := ⟨_, rfl⟩
  have HT : Hid (top = hi) := htop
  clear hf hA htop
  go_enter Try.func39, Try.ntmps39
  go_wp2_with fail
  go_loopw [0, 1, 8] (fun lv hv av wr => ∃ l h s : Nat, lv = .int .i64 l ∧ hv = .int .i64 h ∧ av = .int .i64 s ∧ l ≤ h ∧ h ≤ top ∧ Hid (A = ((hal P l h).1, (hal P l h).2 + s)) ∧ Below w.heap.size w wr) (fun lv hv _ _ => (intOf hv).toNat - (intOf lv).toNat)
  case atStart => exact ⟨lo, hi, 0, rfl, rfl, rfl, hlh, by rw [HT.out]; exact Nat.le_refl _, by show _ = _; rw [HA.out]; rfl, Below.refl _ _⟩
  case round =>
    obtain ⟨l, h, s, rfl, rfl, rfl, hl, hh, HI, hnx⟩ := hrel
    have zw := hnx.size
    have hsb : s ≤ 2 ^ 20 := by have h1 := HBD.out; rw [HI.out] at h1; have h2 := HT.out; simp only at h1; omega
    by_cases hlt : l < h
    · obtain ⟨m, hm⟩ : ∃ m, m = (l + h) / 2 := ⟨_, rfl⟩
      have em : ((l : Int) + (h : Int)) / 2 = (m : Int) := by omega
      have hc := HF.out m wr (by have := HT.out; omega) hnx
      have k1 : (l : Int) < (h : Int) := by omega
      have hml : l ≤ m := by omega
      have hmh : m < h := by omega
      have ht30 : top ≤ 2 ^ 20 := by rw [HT.out]; exact hn
      have HM : Hid (m = (l + h) / 2) := hm
      clear hm
      go_wp2_with fail
      refine hc.mono ?_
      rintro e w2 ⟨rfl, hb2⟩
      have HB2 : Hid (Below w.heap.size w w2) := hnx.trans (hb2.mono zw)
      clear hb2 hc
      cases hp : P m with
      | true =>
        have HI2 : Hid (A = ((hal P (m + 1) h).1, (hal P (m + 1) h).2 + (s + 1))) := by show _ = _; rw [HI.out, hal_up P hlt HM.out hp]; simp only [Prod.mk.injEq, true_and]; omega
        clear hp
        go_wp2
        go_roundw
        case rel => exact ⟨m + 1, h, s + 1, by go_num, rfl, by go_num, by omega, hh, HI2, HB2.out⟩
        case measure => simp only [intOf]; omega
      | false =>
        have HI2 : Hid (A = ((hal P l m).1, (hal P l m).2 + (s + 1))) := by show _ = _; rw [HI.out, hal_down P hlt HM.out hp]; simp only [Prod.mk.injEq, true_and]; omega
        clear hp
        go_wp2
        go_roundw
        case rel => exact ⟨l, m, s + 1, rfl, rfl, by go_num, by omega, by omega, HI2, HB2.out⟩
        case measure => simp only [intOf]; omega
    · have k1 : ¬ (l : Int) < (h : Int) := by omega
      have HE : Hid (A = (l, s)) := by show _ = _; rw [HI.out, hal_done P hlt]; simp
      go_wp2
      refine bodyPost_ret (v := .tuple #[.int .i64 l, .int .i64 s]) (by simp [results, Try.results39, go_sem]) rfl ?_
      rw [HE.out]
      exact ⟨rfl, hnx⟩

theorem le_is (a b : List UInt8) : (Op.bytesLess a b || a == b) = !bl b a := by
  show (bl a b || a == b) = _
  cases h : bl a b with
  | true => rw [bl_asymm h]; rfl
  | false =>
    cases k : bl b a with
    | true =>
      have : (a == b) = false := by
        cases q : a == b with
        | false => rfl
        | true => have e : a = b := by simpa using q
                  subst e
                  rw [k] at h; cases h
      rw [this]; rfl
    | false => rw [bl_total h k]; simp
set_option maxRecDepth 100000 in
theorem ahead1_k (s p : ByteArray) (l : List Nat) (a : Option Addr) (n c : Nat) (S : Nat → Prop) (g1 g2 g3 k : Nat) (w : World) (h : (kRow kInt).is false w S [.slice a n c] (nts l)) (C1 : w.cell? ⟨g1, 0, none⟩ = some (.string s)) (C2 : w.cell? ⟨g2, 0, none⟩ = some (.slice a n c)) (C3 : w.cell? ⟨g3, 0, none⟩ = some (.string p)) (hk : k < n) (hl : ∀ x ∈ l, x ≤ s.size) (hn : n ≤ 2 ^ 20) :
    Calls Try.prog 40 #[.int .i64 k, .pointer (some ⟨g1, 0, none⟩), .pointer (some ⟨g2, 0, none⟩), .pointer (some ⟨g3, 0, none⟩)] w fun e w' => e = .returned (.bool (bl ((tx s).drop (l.getD k 0)) (tx p))) ∧ Below w.heap.size w w' := by
  have hnl : n = l.length := by have := row_len h; rw [nts_len] at this; exact this
  obtain ⟨y, hy⟩ : ∃ y, l[k]? = some y := ⟨_, List.getElem?_eq_getElem (by omega)⟩
  obtain ⟨b, o, rfl, hb, _, A2⟩ := rowI_at h (nts_at hy)
  have hys : y ≤ s.size := hl y (List.mem_of_getElem? hy)
  have HD : Hid (l.getD k 0 = y) := by show _ = _; rw [List.getD_eq_getElem?_getD, hy]; rfl
  rw [HD.out]
  have k0 : (0 : Int) ≤ (k : Int) := by omega
  have k1 : (k : Int) < (n : Int) := by omega
  have k2 : (y : Int) ≤ (s.size : Int) := by omega
  have HL : Hid (Op.bytesLess (s.extract y s.size).toList p.toList = bl ((tx s).drop y) (tx p)) := by show _ = _; rw [tx_is, tx_is, tx_end]
  have U0 := fun q => BelowOf.cell C1 q
  have U1 := fun q => BelowOf.cell C2 q
  have U2 := fun q => BelowOf.cell C3 q
  have U3 := fun q => BelowOf.cell A2 q
  have hne := belowOf_ne w
  clear h hy hl hnl
  go_enter Try.func40, Try.ntmps40
  go_wp2_with fail
  refine region_below (by kernel_rfl) (by kernel_rfl) ?_
  repeat (go_big_quiet_step (first | fail))
  refine wpQuiet_nil (belowOf_all ?_)
  intro w2 hb2
  go_wp2
  go_ret
  exact ⟨by rw [← HL.out]; rfl, hb2⟩
set_option maxRecDepth 100000 in
theorem ahead2_k (s p : ByteArray) (l : List Nat) (a : Option Addr) (n c : Nat) (S : Nat → Prop) (g1 g2 g3 k : Nat) (w : World) (h : (kRow kInt).is false w S [.slice a n c] (nts l)) (C1 : w.cell? ⟨g1, 0, none⟩ = some (.string s)) (C2 : w.cell? ⟨g2, 0, none⟩ = some (.slice a n c)) (C3 : w.cell? ⟨g3, 0, none⟩ = some (.string p)) (hk : k < n) (hl : ∀ x ∈ l, x ≤ s.size) (hn : n ≤ 2 ^ 20) (hp : p.size ≤ 2 ^ 20) (hs : s.size ≤ 2 ^ 20) :
    Calls Try.prog 41 #[.int .i64 k, .pointer (some ⟨g1, 0, none⟩), .pointer (some ⟨g2, 0, none⟩), .pointer (some ⟨g3, 0, none⟩)] w fun e w' => e = .returned (.bool (!bl (tx p) (stL (tx s) p.size (l.getD k 0)))) ∧ Below w.heap.size w w' := by
  have hnl : n = l.length := by have := row_len h; rw [nts_len] at this; exact this
  obtain ⟨y, hy⟩ : ∃ y, l[k]? = some y := ⟨_, List.getElem?_eq_getElem (by omega)⟩
  obtain ⟨b, o, rfl, hb, _, A2⟩ := rowI_at h (nts_at hy)
  have hys : y ≤ s.size := hl y (List.mem_of_getElem? hy)
  have HD : Hid (l.getD k 0 = y) := by show _ = _; rw [List.getD_eq_getElem?_getD, hy]; rfl
  rw [HD.out]
  have k0 : (0 : Int) ≤ (k : Int) := by omega
  have k1 : (k : Int) < (n : Int) := by omega
  have hcl : Hid (∀ W, Calls Try.prog 33 #[.string s, .int .i64 y, .int .i64 p.size] W fun e w' => e = .returned (.string (strL (stL (tx s) p.size y))) ∧ Below W.heap.size W w') := fun W => (stretchAt_k s y p.size W hys hp hs).mono fun e w' ⟨he, hw⟩ => ⟨he, hw ▸ Below.refl _ _⟩
  have U0 := fun q => BelowOf.cell C1 q
  have U1 := fun q => BelowOf.cell C2 q
  have U2 := fun q => BelowOf.cell C3 q
  have U3 := fun q => BelowOf.cell A2 q
  have hne := belowOf_ne w
  clear h hy hl hnl
  obtain ⟨X, hX⟩ : ∃ X, X = strL (stL (tx s) p.size y) := ⟨_, rfl⟩
  have HX : Hid (X.toList = stL (tx s) p.size y) := by show _ = _; rw [hX, ByteArray.toList_eq]; simp [strL]
  rw [← hX] at hcl
  rw [← HX.out]
  clear hX
  go_enter Try.func41, Try.ntmps41
  go_wp2_with fail
  refine region_below (by kernel_rfl) (by kernel_rfl) ?_
  repeat (go_big_quiet_step (first | (go_at_call 33; exact BelowOf.calls (hcl.out _))))
  refine wpQuiet_nil (belowOf_all ?_)
  intro w2 hb2
  go_wp2
  go_ret
  exact ⟨by rw [tx_is p, le_is]; rfl, hb2⟩
end Go.Proofs.Ytkboblfjchkedaa
