/- A key put: the specification's l7Put. -/
import Derived.Test.YtmiofccmimhabaaTpU
namespace Go.Proofs.Ytmiofccmimhabaa
open Go.RowKit
set_option linter.unusedVariables false

theorem mem_takeG {l : List Pr} {k : Nat} {p : Pr} (h : p ∈ l.take k) : ∃ j, j < k ∧ l[j]? = some p := by
  obtain ⟨i, hi⟩ := List.mem_iff_getElem?.1 h
  rw [List.getElem?_take] at hi
  split at hi
  · exact ⟨i, by assumption, hi⟩
  · cases hi
theorem mem_dropG {l : List Pr} {k : Nat} {p : Pr} (h : p ∈ l.drop k) : ∃ j, k ≤ j ∧ l[j]? = some p := by
  obtain ⟨i, hi⟩ := List.mem_iff_getElem?.1 h
  rw [List.getElem?_drop] at hi
  exact ⟨k + i, by omega, hi⟩
theorem at_put {l : List Pr} {key val : ByteArray} {k : Nat} {h : Bool} (hs : Srt l) (H : AtIs l key k h) : insP l (key, val) = l.take k ++ (key, val) :: l.drop (if h then k + 1 else k) := by
  obtain ⟨h1, h2, h3, h4⟩ := H
  have hup : ∀ j p q, k < j → l[k]? = some q → l[j]? = some p → kLt q.1 p.1 := fun j p q hj hq hp => by
    obtain ⟨a1, rfl⟩ := List.getElem?_eq_some_iff.1 hq
    obtain ⟨a2, rfl⟩ := List.getElem?_eq_some_iff.1 hp
    exact List.pairwise_iff_getElem.1 hs k j a1 a2 hj
  have hk : ∀ j p, k ≤ j → l[j]? = some p → ∃ q, l[k]? = some q := fun j p hj hp => by
    have := (List.getElem?_eq_some_iff.1 hp).1
    exact ⟨l[k]'(by omega), List.getElem?_eq_getElem _⟩
  have hD : ∀ p ∈ l.drop k, ¬ kLt p.1 key := fun p hp => by
    obtain ⟨j, hj, hp⟩ := mem_dropG hp
    by_cases e : j = k
    · rw [e] at hp; exact h3 p hp
    · obtain ⟨q, hq⟩ := hk j p hj hp
      exact fun hl => h3 q hq ((hup j p q (by omega) hq hp).trans hl)
  have e1 : l.filter (fun q => decide (kLt q.1 key)) = l.take k := by
    conv => lhs; rw [← List.take_append_drop k l]
    rw [List.filter_append, List.filter_eq_self.2 (fun p hp => by
      obtain ⟨j, hj, hp⟩ := mem_takeG hp
      exact decide_eq_true (h2 j p hj hp)), List.filter_eq_nil_iff.2 (fun p hp => by
      have := hD p hp
      simpa using this), List.append_nil]
  have e2 : ∀ d, d = (if h then k + 1 else k) → l.filter (fun q => decide (kLt key q.1)) = l.drop d := fun d hd => by
    conv => lhs; rw [← List.take_append_drop d l]
    rw [List.filter_append, List.filter_eq_nil_iff.2 (fun p hp => by
      obtain ⟨j, hj, hp⟩ := mem_takeG hp
      have : ¬ kLt key p.1 := by
        by_cases e : j < k
        · exact (h2 j p e hp).asym
        · cases h with
          | false => simp at hd; omega
          | true =>
            simp at hd
            obtain rfl : j = k := by omega
            obtain ⟨q, hq, rfl⟩ := h4.1 rfl
            rw [hp] at hq
            cases hq
            exact kLt.irr _
      simpa using this), List.filter_eq_self.2 (fun p hp => by
      obtain ⟨j, hj, hp⟩ := mem_dropG hp
      refine decide_eq_true ?_
      cases h with
      | true =>
        simp at hd
        obtain ⟨q, hq, rfl⟩ := h4.1 rfl
        exact hup j p q (by omega) hq hp
      | false =>
        simp at hd
        obtain ⟨q, hq⟩ := hk j p (by omega) hp
        have hq1 : kLt key q.1 := by
          rcases kLt_tri key q.1 with h | h | h
          · exact h
          · have := h4.2 ⟨q, hq, h.symm⟩; cases this
          · exact absurd h (h3 q hq)
        by_cases e : j = k
        · rw [e, hq] at hp; cases hp; exact hq1
        · exact hq1.trans (hup j p q (by omega) hq hp)), List.nil_append]
  unfold insP
  rw [e1, e2 _ rfl]

theorem PAt.drop {w : World} {b off : Nat} {l : List Pr} (h : PAt w b off l) (d : Nat) : PAt w b (off + d * 2) (l.drop d) := fun i p hp => by
  rw [List.getElem?_drop] at hp
  have := h (d + i) p hp
  rw [show off + d * 2 + i * 2 = off + (d + i) * 2 by omega]
  exact this
theorem PAt.take {w : World} {b off : Nat} {l : List Pr} (h : PAt w b off l) (d : Nat) : PAt w b off (l.take d) := fun i p hp => by
  rw [List.getElem?_take] at hp
  split at hp
  · exact h i p hp
  · cases hp
theorem PSrc.below {w w' : World} {v : Value} {l : List Pr} {X : Nat → Prop} (h : PSrc w v l X) (hb : Below w.heap.size w w') : PSrc w' v l X := by
  obtain ⟨a, c, e, hc, h⟩ := h
  exact ⟨a, c, e, hc, h.imp id fun ⟨b, off, e, hl, hX, hat⟩ => ⟨b, off, e, Nat.lt_of_lt_of_le hl hb.size, hX, hat.below hb hl⟩⟩

set_option maxRecDepth 100000 in
set_option maxHeartbeats 4000000 in
theorem l7Put_any (l : List Pr) (key val : ByteArray) (v : Value) (B : Nat) (w : World) (h : OwnsP w B v l) (hs : Srt l) (hl : l.length ≤ 60) :
    Calls Try.prog 41 #[v, .agg #[.string key, .string val]] w fun e w' => ∃ v', e = .returned v' ∧ OwnsP w' w.heap.size v' (insP l (key, val)) ∧ Below w.heap.size w w' := by
  obtain ⟨a, c, rfl⟩ := h.form
  have HSR : Hid (PSrc w (.slice a l.length c) l (fun _ => True)) := h.src.any
  have HSO : Hid (Srt l) := hs
  obtain ⟨n, hn⟩ : ∃ n, n = l.length := ⟨_, rfl⟩
  have HN : Hid (n = l.length) := hn
  rw [← hn] at hl HSR ⊢
  have HOP : Hid ((l = [] ∧ a = none ∧ c = 0) ∨ ∃ b, a = some ⟨b, 0, none⟩ ∧ b < w.heap.size ∧ PAt w b 0 l ∧ n ≤ c) := by
    rcases h.2 with ⟨e, e0⟩ | ⟨g, cap, cur, e, hb, hh, hc, _⟩
    · simp only [Value.slice.injEq] at e
      exact .inl ⟨List.eq_nil_of_length_eq_zero e0, e.1, e.2.2⟩
    · simp only [Value.slice.injEq] at e
      obtain ⟨rfl, _, rfl⟩ := e
      obtain ⟨a', c', e', hc', h0 | ⟨b', off, e2, hb', _, hat⟩⟩ := HSR.out
      · exact .inr ⟨g, rfl, (Array.getElem?_eq_some_iff.1 hh).1, fun i p hp => by rw [h0] at hp; simp at hp, by rw [hn]; exact hc⟩
      · simp only [Value.slice.injEq] at e'
        rw [e2] at e'
        have e3 := e'.1
        simp only [Option.some.injEq, Addr.mk.injEq] at e3
        obtain ⟨rfl, rfl, _⟩ := e3
        exact .inr ⟨g, rfl, (Array.getElem?_eq_some_iff.1 hh).1, hat, by rw [hn]; exact hc⟩
  clear h hs hn
  go_enter Try.func41, Try.ntmps41
  go_wp2_with fail
  obtain ⟨W0, hW0⟩ : ∃ W0, W0 = w.alloc (.cells #[.string key, .string val] 64) := ⟨_, rfl⟩
  have b0 : Below w.heap.size w W0 := by rw [hW0]; exact (Below.refl _ _).alloc (Nat.le_refl _) _
  have z0 : W0.heap.size = w.heap.size + 1 := by rw [hW0]; simp
  have y0 : W0.cell? ⟨w.heap.size, 0, none⟩ = some (.string key) := by rw [hW0]; simp [go_sem]
  have y1 : W0.cell? ⟨w.heap.size, 1, none⟩ = some (.string val) := by rw [hW0]; simp [go_sem]
  rw [← hW0]
  have HB0 : Hid (Below w.heap.size w W0) := b0
  have HSR0 : Hid (PSrc W0 (.slice a n c) l (fun _ => True)) := HSR.out.below b0
  clear hW0 b0 HSR
  refine (l7At_any l key _ _ HSR0.out (by rw [← HN.out]; exact hl)).mono ?_
  rintro e w1 ⟨k, q, rfl, hat, hb1⟩
  have HB1 : Hid (Below w.heap.size w w1) := HB0.out.trans (hb1.mono (by omega))
  have z1 := hb1.size
  have x0 : w1.cell? ⟨w.heap.size, 0, none⟩ = some (.string key) := (hb1.cell (by show w.heap.size < _; omega)).trans y0
  have x1 : w1.cell? ⟨w.heap.size, 1, none⟩ = some (.string val) := (hb1.cell (by show w.heap.size < _; omega)).trans y1
  have HAT : Hid (AtIs l key k q) := hat
  have hkn : k ≤ n := by rw [HN.out]; exact hat.1
  have HINS := at_put (val := val) HSO.out hat
  clear hat hb1 y0 y1 HSR0
  rcases HOP.out with ⟨hl0, rfl, rfl⟩ | ⟨b, rfl, hb, hPA, hnc⟩
  · have hn0 : n = 0 := by rw [HN.out, hl0]; rfl
    subst hn0
    obtain rfl : k = 0 := by omega
    obtain rfl : q = false := by
      cases q with
      | false => rfl
      | true =>
        obtain ⟨p, hp, _⟩ := HAT.out.2.2.2.1 rfl
        rw [hl0] at hp
        simp at hp
    obtain ⟨A, hA⟩ : ∃ A : List Pr, A = [] := ⟨_, rfl⟩
    obtain ⟨C, hC⟩ : ∃ C : List Pr, C = [] := ⟨_, rfl⟩
    have HAL : Hid (A.length = 0) := by show _ = _; rw [hA]; rfl
    have HCL : Hid (C.length = 0) := by show _ = _; rw [hC]; rfl
    have HIN : Hid (insP l (key, val) = A ++ (key, val) :: C) := by show _ = _; rw [HINS, hA, hC, hl0]; rfl
    have HP : Hid (∀ w', Below w1.heap.size w1 w' → PartT w' none 0 0 2 (prCells A) ∧ PartT w' none 0 0 2 (prCells C)) := fun w' _ => by
      rw [hA, hC]
      exact ⟨⟨rfl, pr_one _, .inl ⟨rfl, rfl, rfl⟩⟩, ⟨rfl, pr_one _, .inl ⟨rfl, rfl, rfl⟩⟩⟩
    clear HINS hA hC hl0 HAT HN HSO HOP
    obtain ⟨iN, hi, hz0, hz1, hz2⟩ := info_parts infoPr
    have HI : Hid (Try.prog.info? 64 = some iN ∧ iN.zero = some (.agg #[.string ⟨#[]⟩, .string ⟨#[]⟩]) ∧ iN.size = 2 ∧ iN.bytes = 32) := ⟨hi, hz0, hz1, hz2⟩
    clear hi hz0 hz1 hz2
    have HS1 : Hid (PartT w1 none 0 0 2 (prCells A)) := (HP.out _ (Below.refl _ _)).1
    go_wp2_with (at_builtin; refine wpList_append_partT rfl _ _ 53 rfl w1.heap.size 64 iN _ 2 32 Try.underlying53 HI.out.1 HI.out.2.1 HI.out.2.2.1 HI.out.2.2.2 rfl (by decide) _ 0 [] rfl (World.ownsRow_nil _ _ _ _) none 0 0 (prCells A) rfl HS1.out (by unfold maxLen; omega) (by omega) (Nat.le_refl _) ?_)
    intro v3 w3 ho3 hg3
    have HO3 : Hid (OwnsP w3 w1.heap.size v3 A) := by
      show OwnsP _ _ _ _
      unfold OwnsP
      rw [HAL.out]
      simpa using ho3
    have HB3 : Hid (Below w1.heap.size w1 w3) := grown_belowT (Below.refl _ _) (Nat.le_refl _) (World.ownsRow_nil w1 w1.heap.size 64 2) hg3
    have z3 := HB3.out.size
    obtain ⟨a3, c3, rfl⟩ := HO3.out.form
    have e0' : w3.cell? ⟨w.heap.size, 0, none⟩ = some (.string key) := (HB3.out.cell (by show w.heap.size < _; omega)).trans x0
    have e1' : w3.cell? ⟨w.heap.size, 1, none⟩ = some (.string val) := (HB3.out.cell (by show w.heap.size < _; omega)).trans x1
    have HA3 : Hid (∀ o, (w3.alloc o).ownsRow w1.heap.size 64 2 (.slice a3 A.length c3) A.length (prCells A)) := fun o => World.ownsRow.alloc HO3.out o
    have HN3 : Hid (∀ T, PartT (w3.alloc (.cells #[.string key, .string val] T)) (some ⟨w3.heap.size, 0, none⟩) 1 1 2 (prCells [(key, val)])) := fun T => part_one w3 key val T _ rfl
    have HL3 : Hid (A.length = 0) := HAL.out
    have hA60 : A.length ≤ 60 := by have := HAL.out; omega
    clear ho3 hg3 x0 x1
    go_wp2_with (at_builtin; refine wpList_append_partT rfl _ _ 53 rfl w1.heap.size 64 iN _ 2 32 Try.underlying53 HI.out.1 HI.out.2.1 HI.out.2.2.1 HI.out.2.2.2 rfl (by decide) _ A.length (prCells A) rfl (HA3.out _) (some ⟨w3.heap.size, 0, none⟩) 1 1 (prCells [(key, val)]) rfl (HN3.out _) (by unfold maxLen; omega) (by omega) (by simp; omega) ?_)
    intro v4 w4 ho4 hg4
    have HO4 : Hid (OwnsP w4 w1.heap.size v4 (A ++ [(key, val)])) := by
      show OwnsP _ _ _ _
      unfold OwnsP
      rw [pr_app, List.length_append]
      exact ho4
    have HB4 : Hid (Below w1.heap.size w1 w4) := grown_belowT (HB3.out.trans ((Below.refl _ _).alloc (by omega) _)) (by simp; omega) (HA3.out _) hg4
    have z4 := HB4.out.size
    obtain ⟨a4, c4, rfl⟩ := HO4.out.form
    have HS4 : Hid (PartT w4 none 0 0 2 (prCells C)) := (HP.out _ HB4.out).2
    have hl4 : (A ++ [(key, val)]).length = A.length + 1 := by simp
    clear ho4 hg4 HA3 HN3 e0' e1'
    go_wp2_with (at_builtin; refine wpList_append_partT rfl _ _ 53 rfl w1.heap.size 64 iN _ 2 32 Try.underlying53 HI.out.1 HI.out.2.1 HI.out.2.2.1 HI.out.2.2.2 rfl (by decide) _ (A ++ [(key, val)]).length (prCells (A ++ [(key, val)])) rfl HO4.out none 0 0 (prCells C) rfl HS4.out (by unfold maxLen; omega) (by omega) (by omega) ?_)
    all_goals
      intro v5 w5 ho5 hg5
      have HO5 : Hid (OwnsP w5 w.heap.size v5 (insP l (key, val))) := by
        show OwnsP _ _ _ _
        unfold OwnsP
        have e1 : insP l (key, val) = (A ++ [(key, val)]) ++ C := by rw [HIN.out]; simp
        rw [e1, pr_app, List.length_append, hl4, HCL.out]
        exact World.ownsRow.mono ho5 (by omega)
      have HB5 : Hid (Below w.heap.size w w5) := by
        have hg5' : w4.grownBy w5 (Value.slice a4 (A ++ [(key, val)]).length c4).ownBlock := by rw [hl4]; exact hg5
        exact HB1.out.trans ((grown_belowT HB4.out (by omega) HO4.out hg5').mono (by omega))
      obtain ⟨a5, c5, rfl⟩ := HO5.out.form
      clear ho5 hg5
      go_wp2_with fail
      exact bodyPost_ret (v := .slice a5 (insP l (key, val)).length c5) (by simp [results, go_sem]) rfl ⟨_, rfl, HO5.out, HB5.out⟩
  have j0 : (0 : Int) ≤ (k : Int) := by omega
  have j1 : (k : Int) ≤ (n : Int) := by omega
  have j2 : (k : Int) ≤ (c : Int) := by omega
  have j3 : (n : Int) ≤ (c : Int) := by omega
  have j5 : k ≤ c := by omega
  obtain ⟨A, hA⟩ : ∃ A, A = l.take k := ⟨_, rfl⟩
  have HAL : Hid (A.length = k) := by show _ = _; rw [hA, List.length_take, ← HN.out]; omega
  have HQ : Hid (∀ w', Below w1.heap.size w1 w' → ∀ (d : Nat), d ≤ n → PartT w' (some ⟨b, 0, none⟩) k c 2 (prCells A) ∧ PartT w' (if c = d then some (⟨b, 0, none⟩ : Addr) else some ⟨b, d * 2, none⟩) (n - d) (c - d) 2 (prCells (l.drop d))) := fun w' hbb d hd => by
    have hp : PAt w' b 0 l := (hPA.below HB1.out hb).below hbb (by omega)
    have h1 := (hp.take k).part (c := c)
    rw [← hA, HAL.out] at h1
    have h2 := (hp.drop d).part (c := c - d)
    rw [List.length_drop, ← HN.out, Nat.zero_add] at h2
    refine ⟨h1, ?_⟩
    by_cases e : c = d
    · rw [if_pos e]
      refine ⟨h2.1, h2.2.1, .inr ⟨_, rfl, fun j u hu => ?_⟩⟩
      rw [List.drop_of_length_le (by rw [← HN.out]; omega)] at hu
      simp [prCells] at hu
    · rw [if_neg e]
      exact h2
  have HLN : Hid (n = l.length ∧ k < n ∨ q = false) := by
    show _ ∨ _
    cases q with
    | false => exact .inr rfl
    | true =>
      obtain ⟨p, hp, _⟩ := HAT.out.2.2.2.1 rfl
      exact .inl ⟨HN.out, by rw [HN.out]; exact (List.getElem?_eq_some_iff.1 hp).1⟩
  cases q with
  | false =>
    obtain ⟨C, hC⟩ : ∃ C, C = l.drop k := ⟨_, rfl⟩
    have HCL : Hid (C.length = n - k) := by show _ = _; rw [hC, List.length_drop, ← HN.out]
    have HIN : Hid (insP l (key, val) = A ++ (key, val) :: C) := by show _ = _; rw [HINS, hA, hC]; rfl
    have HP : Hid (∀ w', Below w1.heap.size w1 w' → PartT w' (some ⟨b, 0, none⟩) k c 2 (prCells A) ∧ PartT w' (if c = k then some (⟨b, 0, none⟩ : Addr) else some ⟨b, k * 2, none⟩) (n - k) (c - k) 2 (prCells C)) := fun w' hbb => by rw [hC]; exact HQ.out w' hbb k hkn
    clear HINS hA hC HAT HQ hPA HOP HLN HSO
    obtain ⟨iN, hi, hz0, hz1, hz2⟩ := info_parts infoPr
    have HI : Hid (Try.prog.info? 64 = some iN ∧ iN.zero = some (.agg #[.string ⟨#[]⟩, .string ⟨#[]⟩]) ∧ iN.size = 2 ∧ iN.bytes = 32) := ⟨hi, hz0, hz1, hz2⟩
    clear hi hz0 hz1 hz2
    have HS1 : Hid (PartT w1 (some ⟨b, 0, none⟩) k c 2 (prCells A)) := (HP.out _ (Below.refl _ _)).1
    go_wp2_with (at_builtin; refine wpList_append_partT rfl _ _ 53 rfl w1.heap.size 64 iN _ 2 32 Try.underlying53 HI.out.1 HI.out.2.1 HI.out.2.2.1 HI.out.2.2.2 rfl (by decide) _ 0 [] rfl (World.ownsRow_nil _ _ _ _) (some ⟨b, 0, none⟩) k c (prCells A) rfl HS1.out (by unfold maxLen; omega) (by omega) (Nat.le_refl _) ?_)
    intro v3 w3 ho3 hg3
    have HO3 : Hid (OwnsP w3 w1.heap.size v3 A) := by
      show OwnsP _ _ _ _
      unfold OwnsP
      rw [HAL.out]
      simpa using ho3
    have HB3 : Hid (Below w1.heap.size w1 w3) := grown_belowT (Below.refl _ _) (Nat.le_refl _) (World.ownsRow_nil w1 w1.heap.size 64 2) hg3
    have z3 := HB3.out.size
    obtain ⟨a3, c3, rfl⟩ := HO3.out.form
    have e0' : w3.cell? ⟨w.heap.size, 0, none⟩ = some (.string key) := (HB3.out.cell (by show w.heap.size < _; omega)).trans x0
    have e1' : w3.cell? ⟨w.heap.size, 1, none⟩ = some (.string val) := (HB3.out.cell (by show w.heap.size < _; omega)).trans x1
    have HA3 : Hid (∀ o, (w3.alloc o).ownsRow w1.heap.size 64 2 (.slice a3 A.length c3) A.length (prCells A)) := fun o => World.ownsRow.alloc HO3.out o
    have HN3 : Hid (∀ T, PartT (w3.alloc (.cells #[.string key, .string val] T)) (some ⟨w3.heap.size, 0, none⟩) 1 1 2 (prCells [(key, val)])) := fun T => part_one w3 key val T _ rfl
    have HL3 : Hid (A.length = k) := HAL.out
    have hA60 : A.length ≤ 60 := by have := HAL.out; omega
    clear ho3 hg3 x0 x1
    go_wp2_with (at_builtin; refine wpList_append_partT rfl _ _ 53 rfl w1.heap.size 64 iN _ 2 32 Try.underlying53 HI.out.1 HI.out.2.1 HI.out.2.2.1 HI.out.2.2.2 rfl (by decide) _ A.length (prCells A) rfl (HA3.out _) (some ⟨w3.heap.size, 0, none⟩) 1 1 (prCells [(key, val)]) rfl (HN3.out _) (by unfold maxLen; omega) (by omega) (by simp; omega) ?_)
    intro v4 w4 ho4 hg4
    have HO4 : Hid (OwnsP w4 w1.heap.size v4 (A ++ [(key, val)])) := by
      show OwnsP _ _ _ _
      unfold OwnsP
      rw [pr_app, List.length_append]
      exact ho4
    have HB4 : Hid (Below w1.heap.size w1 w4) := grown_belowT (HB3.out.trans ((Below.refl _ _).alloc (by omega) _)) (by simp; omega) (HA3.out _) hg4
    have z4 := HB4.out.size
    obtain ⟨a4, c4, rfl⟩ := HO4.out.form
    have HS4 : Hid (PartT w4 (if c = k then some (⟨b, 0, none⟩ : Addr) else some ⟨b, k * 2, none⟩) (n - k) (c - k) 2 (prCells C)) := (HP.out _ HB4.out).2
    have hl4 : (A ++ [(key, val)]).length = A.length + 1 := by simp
    clear ho4 hg4 HA3 HN3 e0' e1'
    go_wp2_with (at_builtin; refine wpList_append_partT rfl _ _ 53 rfl w1.heap.size 64 iN _ 2 32 Try.underlying53 HI.out.1 HI.out.2.1 HI.out.2.2.1 HI.out.2.2.2 rfl (by decide) _ (A ++ [(key, val)]).length (prCells (A ++ [(key, val)])) rfl HO4.out (if c = k then some (⟨b, 0, none⟩ : Addr) else some ⟨b, k * 2, none⟩) (n - k) (c - k) (prCells C) rfl HS4.out (by unfold maxLen; omega) (by omega) (by omega) ?_)
    all_goals
      intro v5 w5 ho5 hg5
      have HO5 : Hid (OwnsP w5 w.heap.size v5 (insP l (key, val))) := by
        show OwnsP _ _ _ _
        unfold OwnsP
        have e1 : insP l (key, val) = (A ++ [(key, val)]) ++ C := by rw [HIN.out]; simp
        rw [e1, pr_app, List.length_append, hl4, HCL.out]
        exact World.ownsRow.mono ho5 (by omega)
      have HB5 : Hid (Below w.heap.size w w5) := by
        have hg5' : w4.grownBy w5 (Value.slice a4 (A ++ [(key, val)]).length c4).ownBlock := by rw [hl4]; exact hg5
        exact HB1.out.trans ((grown_belowT HB4.out (by omega) HO4.out hg5').mono (by omega))
      obtain ⟨a5, c5, rfl⟩ := HO5.out.form
      clear ho5 hg5
      go_wp2_with fail
      exact bodyPost_ret (v := .slice a5 (insP l (key, val)).length c5) (by simp [results, go_sem]) rfl ⟨_, rfl, HO5.out, HB5.out⟩
  | true =>
    have hk1 : k + 1 ≤ n := by
      rcases HLN.out with ⟨_, h⟩ | h
      · omega
      · cases h
    have j4 : (k : Int) + 1 ≤ (n : Int) := by omega
    have j6 : k + 1 ≤ c := by omega
    have j7 : (k : Int) + 1 ≤ (c : Int) := by omega
    have j8 : (0 : Int) ≤ (k : Int) + 1 := by omega
    have j9 : ((k : Int) + 1).toNat = k + 1 := by omega
    have j10 : IntKind.i64.wrap ((k : Int) + 1) = (k : Int) + 1 := by rw [IntKind.wrap_i64]; omega
    obtain ⟨C, hC⟩ : ∃ C, C = l.drop (k + 1) := ⟨_, rfl⟩
    have HCL : Hid (C.length = n - (k + 1)) := by show _ = _; rw [hC, List.length_drop, ← HN.out]
    have HIN : Hid (insP l (key, val) = A ++ (key, val) :: C) := by show _ = _; rw [HINS, hA, hC]; rfl
    have HP : Hid (∀ w', Below w1.heap.size w1 w' → PartT w' (some ⟨b, 0, none⟩) k c 2 (prCells A) ∧ PartT w' (if c = k + 1 then some (⟨b, 0, none⟩ : Addr) else some ⟨b, (k + 1) * 2, none⟩) (n - (k + 1)) (c - (k + 1)) 2 (prCells C)) := fun w' hbb => by rw [hC]; exact HQ.out w' hbb (k + 1) hk1
    clear HINS hA hC HAT HQ hPA HOP HLN HSO
    obtain ⟨iN, hi, hz0, hz1, hz2⟩ := info_parts infoPr
    have HI : Hid (Try.prog.info? 64 = some iN ∧ iN.zero = some (.agg #[.string ⟨#[]⟩, .string ⟨#[]⟩]) ∧ iN.size = 2 ∧ iN.bytes = 32) := ⟨hi, hz0, hz1, hz2⟩
    clear hi hz0 hz1 hz2
    have HS1 : Hid (PartT w1 (some ⟨b, 0, none⟩) k c 2 (prCells A)) := (HP.out _ (Below.refl _ _)).1
    go_wp2_with (at_builtin; refine wpList_append_partT rfl _ _ 53 rfl w1.heap.size 64 iN _ 2 32 Try.underlying53 HI.out.1 HI.out.2.1 HI.out.2.2.1 HI.out.2.2.2 rfl (by decide) _ 0 [] rfl (World.ownsRow_nil _ _ _ _) (some ⟨b, 0, none⟩) k c (prCells A) rfl HS1.out (by unfold maxLen; omega) (by omega) (Nat.le_refl _) ?_)
    intro v3 w3 ho3 hg3
    have HO3 : Hid (OwnsP w3 w1.heap.size v3 A) := by
      show OwnsP _ _ _ _
      unfold OwnsP
      rw [HAL.out]
      simpa using ho3
    have HB3 : Hid (Below w1.heap.size w1 w3) := grown_belowT (Below.refl _ _) (Nat.le_refl _) (World.ownsRow_nil w1 w1.heap.size 64 2) hg3
    have z3 := HB3.out.size
    obtain ⟨a3, c3, rfl⟩ := HO3.out.form
    have e0' : w3.cell? ⟨w.heap.size, 0, none⟩ = some (.string key) := (HB3.out.cell (by show w.heap.size < _; omega)).trans x0
    have e1' : w3.cell? ⟨w.heap.size, 1, none⟩ = some (.string val) := (HB3.out.cell (by show w.heap.size < _; omega)).trans x1
    have HA3 : Hid (∀ o, (w3.alloc o).ownsRow w1.heap.size 64 2 (.slice a3 A.length c3) A.length (prCells A)) := fun o => World.ownsRow.alloc HO3.out o
    have HN3 : Hid (∀ T, PartT (w3.alloc (.cells #[.string key, .string val] T)) (some ⟨w3.heap.size, 0, none⟩) 1 1 2 (prCells [(key, val)])) := fun T => part_one w3 key val T _ rfl
    have HL3 : Hid (A.length = k) := HAL.out
    have hA60 : A.length ≤ 60 := by have := HAL.out; omega
    clear ho3 hg3 x0 x1
    go_wp2_with (at_builtin; refine wpList_append_partT rfl _ _ 53 rfl w1.heap.size 64 iN _ 2 32 Try.underlying53 HI.out.1 HI.out.2.1 HI.out.2.2.1 HI.out.2.2.2 rfl (by decide) _ A.length (prCells A) rfl (HA3.out _) (some ⟨w3.heap.size, 0, none⟩) 1 1 (prCells [(key, val)]) rfl (HN3.out _) (by unfold maxLen; omega) (by omega) (by simp; omega) ?_)
    intro v4 w4 ho4 hg4
    have HO4 : Hid (OwnsP w4 w1.heap.size v4 (A ++ [(key, val)])) := by
      show OwnsP _ _ _ _
      unfold OwnsP
      rw [pr_app, List.length_append]
      exact ho4
    have HB4 : Hid (Below w1.heap.size w1 w4) := grown_belowT (HB3.out.trans ((Below.refl _ _).alloc (by omega) _)) (by simp; omega) (HA3.out _) hg4
    have z4 := HB4.out.size
    obtain ⟨a4, c4, rfl⟩ := HO4.out.form
    have HS4 : Hid (PartT w4 (if c = k + 1 then some (⟨b, 0, none⟩ : Addr) else some ⟨b, (k + 1) * 2, none⟩) (n - (k + 1)) (c - (k + 1)) 2 (prCells C)) := (HP.out _ HB4.out).2
    have hl4 : (A ++ [(key, val)]).length = A.length + 1 := by simp
    clear ho4 hg4 HA3 HN3 e0' e1'
    go_wp2_with (at_builtin; refine wpList_append_partT rfl _ _ 53 rfl w1.heap.size 64 iN _ 2 32 Try.underlying53 HI.out.1 HI.out.2.1 HI.out.2.2.1 HI.out.2.2.2 rfl (by decide) _ (A ++ [(key, val)]).length (prCells (A ++ [(key, val)])) rfl HO4.out (if c = k + 1 then some (⟨b, 0, none⟩ : Addr) else some ⟨b, (k + 1) * 2, none⟩) (n - (k + 1)) (c - (k + 1)) (prCells C) rfl HS4.out (by unfold maxLen; omega) (by omega) (by omega) ?_)
    all_goals
      intro v5 w5 ho5 hg5
      have HO5 : Hid (OwnsP w5 w.heap.size v5 (insP l (key, val))) := by
        show OwnsP _ _ _ _
        unfold OwnsP
        have e1 : insP l (key, val) = (A ++ [(key, val)]) ++ C := by rw [HIN.out]; simp
        rw [e1, pr_app, List.length_append, hl4, HCL.out]
        exact World.ownsRow.mono ho5 (by omega)
      have HB5 : Hid (Below w.heap.size w w5) := by
        have hg5' : w4.grownBy w5 (Value.slice a4 (A ++ [(key, val)]).length c4).ownBlock := by rw [hl4]; exact hg5
        exact HB1.out.trans ((grown_belowT HB4.out (by omega) HO4.out hg5').mono (by omega))
      obtain ⟨a5, c5, rfl⟩ := HO5.out.form
      clear ho5 hg5
      go_wp2_with fail
      exact bodyPost_ret (v := .slice a5 (insP l (key, val)).length c5) (by simp [results, go_sem]) rfl ⟨_, rfl, HO5.out, HB5.out⟩
end Go.Proofs.Ytmiofccmimhabaa
