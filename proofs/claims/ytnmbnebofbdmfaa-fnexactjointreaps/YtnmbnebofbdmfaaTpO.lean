/- Whether a treap is good, and its tree: the program's treeOf. -/
import Derived.Test.YtnmbnebofbdmfaaTpA
import Derived.Test.YtnmbnebofbdmfaaTpQ
namespace Go.Proofs.Ytnmbnebofbdmfaa
open Go.RowKit Go.Shelf
set_option linter.unusedVariables false

/-- The limb of a number. -/
def lbAt (L : List Lb) (i : Nat) : Lb := L.getD i zeroLb
theorem lbAt_get {L : List Lb} {i : Nat} (h : i < L.length) : lbAt L i = L[i] := by
  unfold lbAt
  rw [List.getD_eq_getElem?_getD, List.getElem?_eq_getElem h]
  rfl
theorem prs_kvs (L : List Lb) : prs L.length (lbAt L) = kvs L := by
  unfold prs kvs
  apply List.ext_getElem
  · simp
  · intro i h1 h2
    have : i < L.length := by simpa using h1
    simp [lbAt_get this]
theorem lbAt_ext {L M : List Lb} : (L.length = M.length ∧ ∀ i, i < L.length → lbAt L i = lbAt M i) ↔ L = M := by
  constructor
  · rintro ⟨h1, h2⟩
    refine List.ext_getElem h1 fun i p q => ?_
    have := h2 i p
    rwa [lbAt_get p, lbAt_get q] at this
  · rintro rfl; exact ⟨rfl, fun _ _ => rfl⟩

set_option maxHeartbeats 400000 in
theorem isEntry_any (k v : ByteArray) (w : World) (hk : k.size ≤ 2 ^ 20) (hv : v.size ≤ 2 ^ 20) :
    Calls Try.prog 27 #[.string k, .string v] w fun e w' => e = .returned (.bool (entryB k v)) ∧ w' = w := by
  have he : k.toList.isEmpty = decide (k.size = 0) := by
    rw [ByteArray.toList_eq]
    cases k with
    | mk a =>
      cases h : a.toList with
      | nil =>
        have : a.size = 0 := by rw [← Array.length_toList, h]; rfl
        simp [ByteArray.size, this]
      | cons x l =>
        have : a.size ≠ 0 := by rw [← Array.length_toList, h]; simp
        simp [ByteArray.size, this]
  by_cases h0 : k.size = 0
  · have h0' : k.toList.isEmpty = true := by rw [he]; simpa using h0
    have HE : Hid (entryB k v = false) := by show _ = _; unfold entryB; simp [h0]
    clear he
    go_enter Try.func27, Try.ntmps27
    go_wp2
    go_ret
    exact ⟨by rw [HE.out]; rfl, rfl⟩
  · have h0' : k.toList.isEmpty = false := by rw [he]; simpa using h0
    by_cases h1 : k.size ≤ 40
    · have i1 : (k.size : Int) ≤ 40 := by omega
      by_cases h2 : v.size ≤ 60
      · have i2 : (v.size : Int) ≤ 60 := by omega
        have HE : Hid (entryB k v = true) := by show _ = _; unfold entryB; simp [h1, h2]; omega
        clear he
        go_enter Try.func27, Try.ntmps27
        go_wp2
        go_ret
        exact ⟨by rw [HE.out]; rfl, rfl⟩
      · have i2 : ¬ (v.size : Int) ≤ 60 := by omega
        have HE : Hid (entryB k v = false) := by show _ = _; unfold entryB; simp [h2]
        clear he
        go_enter Try.func27, Try.ntmps27
        go_wp2
        go_ret
        exact ⟨by rw [HE.out]; rfl, rfl⟩
    · have i1 : ¬ (k.size : Int) ≤ 40 := by omega
      have HE : Hid (entryB k v = false) := by show _ = _; unfold entryB; simp [h1]
      clear he
      go_enter Try.func27, Try.ntmps27
      go_wp2
      go_ret
      exact ⟨by rw [HE.out]; rfl, rfl⟩

/-- What treeOf answers. -/
def TreeOfIs (L : List Lb) (w : World) (e : Ending) (w' : World) : Prop :=
  ((GoodL L ∧ ∃ T : Bt, e = .returned (.tuple #[.pointer T.pa, .bool true]) ∧ BrAt w' T ∧ T.bs.Nodup ∧ T.ok ∧ T.limbs 0 = L ∧ ∀ b ∈ T.bs, w.heap.size ≤ b) ∨ (¬ GoodL L ∧ e = .returned (.tuple #[.pointer none, .bool false]))) ∧ Below w.heap.size w w'
theorem TreeOfIs.no {L : List Lb} {w w' : World} (h : ¬ GoodL L) (hb : Below w.heap.size w w') : TreeOfIs L w (.returned (.tuple #[.pointer none, .bool false])) w' := ⟨.inr ⟨h, rfl⟩, hb⟩

set_option maxRecDepth 100000 in
set_option maxHeartbeats 4000000 in
theorem treeOf_any (L : List Lb) (v : Value) (w : World) (h : RowIs w w.heap.size v L.length (lbAt L)) (hL : L.length ≤ 2 ^ 20) (hz : ∀ x ∈ L, x.key.size ≤ 2 ^ 20 ∧ x.val.size ≤ 2 ^ 20) :
    Calls Try.prog 15 #[.agg #[v]] w (TreeOfIs L w) := by
  obtain ⟨a, c, rfl, hn40, hr⟩ := h
  obtain ⟨n, hn⟩ : ∃ n, n = L.length := ⟨_, rfl⟩
  have HN : Hid (n = L.length) := hn
  have HROW : Hid (n = 0 ∨ ∃ b off, a = some ⟨b, off, none⟩ ∧ b < w.heap.size ∧ LimbsAt w b off n (lbAt L)) := by rw [hn]; exact hr
  rw [← hn] at hL hn40 ⊢
  have HZ : Hid (∀ i, (lbAt L i).key.size ≤ 2 ^ 20 ∧ (lbAt L i).val.size ≤ 2 ^ 20) := fun i => by
    by_cases hi : i < L.length
    · rw [lbAt_get hi]; exact hz _ (List.getElem_mem hi)
    · unfold lbAt
      rw [List.getD_eq_getElem?_getD, List.getElem?_eq_none (by omega)]
      exact ⟨by decide, by decide⟩
  clear hz hr hn
  by_cases h60 : n ≤ 60
  · have i60 : ¬ (60 : Int) < (n : Int) := by omega
    go_enter Try.func15, Try.ntmps15
    go_wp2_with fail
    obtain ⟨W0, hW0⟩ : ∃ W0, W0 = w.alloc (.cells #[.slice a n c] 28) := ⟨_, rfl⟩
    have hB0 : Below w.heap.size w W0 := by rw [hW0]; exact (Below.refl _ _).alloc (Nat.le_refl _) _
    have t0 : W0.cell? ⟨w.heap.size, 0, none⟩ = some (.slice a n c) := by rw [hW0]; simp [go_sem]
    have z0 : W0.heap.size = w.heap.size + 1 := by rw [hW0]; simp
    rw [← hW0]
    clear hW0
    go_loopw [14] (fun i wr => ∃ m : Nat, m ≤ n ∧ i = .int .i64 m ∧ Hid (∀ j, j < m → entryB (lbAt L j).key (lbAt L j).val = true) ∧ Below W0.heap.size W0 wr) (fun i _ => n - (intOf i).toNat)
    case atStart => exact ⟨0, Nat.zero_le _, rfl, fun j hj => by omega, Below.refl _ _⟩
    case round =>
      obtain ⟨m, hm, rfl, HE, hnx⟩ := hrel
      have HBW : Hid (Below w.heap.size w wr) := hB0.trans (hnx.mono (by omega))
      have HNX : Hid (Below W0.heap.size W0 wr) := hnx
      have zr := hnx.size
      have t1 : wr.cell? ⟨w.heap.size, 0, none⟩ = some (.slice a n c) := (hnx.cell (by show w.heap.size < _; omega)).trans t0
      clear hnx
      by_cases hlt : m < n
      · rcases HROW.out with h0 | ⟨g, off, rfl, hg, hat⟩
        · omega
        obtain ⟨a0, a1, a2, a3⟩ := hat.below HBW.out hg m hlt
        have j0 : (0 : Int) ≤ (m : Int) := by omega
        have j1 : (m : Int) < (n : Int) := by omega
        have hgw : g < wr.heap.size := by omega
        have hzz := HZ.out m
        obtain ⟨q, hq⟩ : ∃ q, q = entryB (lbAt L m).key (lbAt L m).val := ⟨_, rfl⟩
        have HQ : Hid (q = entryB (lbAt L m).key (lbAt L m).val) := hq
        clear hat
        go_wp2_with fail
        refine (isEntry_any _ _ _ hzz.1 hzz.2).mono ?_
        rintro e w1 ⟨rfl, hw1⟩
        have HB1 : Hid (Below wr.heap.size wr w1) := by rw [hw1]; exact (Below.refl _ _).alloc (Nat.le_refl _) _
        clear hw1
        rw [← hq]
        clear hq
        cases q with
        | true =>
          have HE' : Hid (∀ j, j < m + 1 → entryB (lbAt L j).key (lbAt L j).val = true) := fun j hj => by
            by_cases e : j = m
            · subst e; exact HQ.out.symm
            · exact HE.out j (by omega)
          go_wp2
          go_roundw
          case rel => exact ⟨m + 1, by omega, by go_num, HE', HNX.out.trans (HB1.out.mono zr)⟩
          case measure => simp [intOf]; omega
        | false =>
          have HG : Hid (¬ GoodL L) := fun h => by
            have hm' : m < L.length := by have := HN.out; omega
            have := h.2.1 (L[m]) (List.getElem_mem hm')
            rw [← lbAt_get hm', ← HQ.out] at this
            simp at this
          go_wp2
          exact bodyPost_ret (v := .tuple #[.pointer none, .bool false]) (by simp [results, Try.results15, go_sem]) rfl (TreeOfIs.no HG.out (HBW.out.trans (HB1.out.mono (by omega))))
      · obtain rfl : m = n := by omega
        have HA : Hid (∀ x ∈ L, entryB x.key x.val = true) := fun x hx => by
          obtain ⟨i, hi, rfl⟩ := List.getElem_of_mem hx
          have := HE.out i (by have := HN.out; omega)
          rwa [lbAt_get hi] at this
        clear HE
        go_wp2_with fail
        refine ((callsIn_wide (n := 5)).1 (entriesIn_in 5 a m c wr)).mono ?_
        rintro e w2 ⟨rfl, hw2⟩
        have b2 : Below wr.heap.size wr w2 := by rw [hw2]; exact (Below.refl _ _).alloc (Nat.le_refl _) _
        have z2 : w2.heap.size = wr.heap.size + 1 := by rw [hw2]; simp
        have e2 : w2.cell? ⟨wr.heap.size, 0, none⟩ = some (.slice a m c) := by rw [hw2]; simp [go_sem]
        have t2 : w2.cell? ⟨w.heap.size, 0, none⟩ = some (.slice a m c) := (b2.cell (by show w.heap.size < _; omega)).trans t1
        have HB2 : Hid (Below w.heap.size w w2) := HBW.out.trans (b2.mono (by omega))
        clear hw2 b2
        go_wp2_with fail
        refine ((callsIn_wide (n := 5)).1 (grown_in wr.heap.size m c a (lbAt L) h60 w2 (by omega) e2 (HROW.out.imp id (fun ⟨g, off, e, hg, hat⟩ => ⟨g, off, e, by omega, hat.below HB2.out hg⟩)) (fun i => (HZ.out i).1))).mono ?_
        rintro e w3 ⟨T, rfl, hT, hTn, hTo, hTi, hTb, b3⟩
        have z3 := b3.size
        have t3 : w3.cell? ⟨w.heap.size, 0, none⟩ = some (.slice a m c) := (b3.cell (by show w.heap.size < _; omega)).trans t2
        have HB3 : Hid (Below w.heap.size w w3) := HB2.out.trans (b3.mono (by omega))
        have hT60 : T.sz ≤ 60 := by
          have h1 : ∀ (q l : List Pr), (q.foldl insP l).length ≤ q.length + l.length := by
            intro q
            induction q with
            | nil => intro l; simp
            | cons p q ih =>
              intro l
              have := ih (insP l p)
              have h2 : (insP l p).length ≤ l.length + 1 := by
                unfold insP
                have : ∀ l : List Pr, (l.filter (fun q => decide (kLt q.1 p.1))).length + (l.filter (fun q => decide (kLt p.1 q.1))).length ≤ l.length := by
                  intro l
                  induction l with
                  | nil => simp
                  | cons y l ih =>
                    by_cases h1 : kLt y.1 p.1
                    · have h2 := h1.asym
                      simp only [List.filter_cons, h1, h2, decide_true, decide_false, if_true, List.length_cons]
                      simp
                      omega
                    · by_cases h2 : kLt p.1 y.1
                      · simp only [List.filter_cons, h1, h2, decide_true, decide_false, if_true, List.length_cons]
                        simp
                        omega
                      · simp only [List.filter_cons, h1, h2, decide_false, List.length_cons]
                        simp
                        omega
                have := this l
                simp
                omega
              rw [List.foldl_cons, List.length_cons]
              omega
          have := h1 (prs m (lbAt L)) []
          rw [← hTi, Bt.ino_len] at this
          simp [prs] at this
          omega
        have HT : Hid (BrAt w3 T ∧ T.bs.Nodup ∧ T.ok ∧ T.ino = (prs m (lbAt L)).foldl insP [] ∧ ∀ b ∈ T.bs, w2.heap.size ≤ b) := ⟨hT, hTn, hTo, hTi, hTb⟩
        clear hT hTn hTo hTi hTb b3
        have hw3 : w.heap.size < w3.heap.size := by omega
        have HL4 : Hid ((T.limbs 0).length ≤ 2 ^ 20) := by show _ ≤ _; rw [Bt.limbs_len]; omega
        have HK : Hid (∀ w4, Below w3.heap.size w3 w4 → Below w.heap.size w w4 ∧ w.heap.size < w4.heap.size ∧ RowIs w4 w4.heap.size (.slice a m c) m (lbAt L)) := fun w4 b4 => by
          have hb4 := HB3.out.trans (b4.mono (by omega))
          have := b4.size
          refine ⟨hb4, by omega, ⟨a, c, rfl, hn40, HROW.out.imp id (fun ⟨g, off, e, hg, hat⟩ => ⟨g, off, e, by omega, hat.below hb4 hg⟩)⟩⟩
        go_wp2_with fail
        go_region_held3 (fun w' => w'.cell? ⟨w.heap.size, 0, none⟩ = some (.slice a m c)) (first | exact t3 | exact t4 | exact (b5.cell (p := ⟨w.heap.size, 0, none⟩) (HK4).2.1).trans t4)
          (first | (go_at_call 17; refine (limbsOf_any T _ (HT.out.1.drewN 1) (by omega)).mono ?_; rintro e w4 ⟨v4, rfl, ho4, b4⟩; have t4 : w4.cell? ⟨w.heap.size, 0, none⟩ = some (.slice a m c) := (b4.cell (p := ⟨w.heap.size, 0, none⟩) hw3).trans t3; have B4 : Below w3.heap.size w3 w4 := (Below.refl _ w3).drew.trans b4; have HK4 := HK.out w4 B4; obtain ⟨g4, _, hR4⟩ := own_of_row ho4 HL4.out zeroLb; obtain ⟨a4, c4, rfl⟩ := hR4.form) | (go_at_call 31; refine (eqLimbs_any _ _ (T.limbs 0).length m (lbAt (T.limbs 0)) (lbAt L) w4 hR4.row (HK4.2.2)).mono ?_; rintro e w5 ⟨q, rfl, hq, b5⟩))
        have hq' : q = true ↔ T.limbs 0 = L := by
          rw [hq, HN.out]
          exact lbAt_ext
        have HB5 : Hid (Below w.heap.size w w5) := HK4.1.trans (b5.mono (by omega))
        have HT5 : Hid (BrAt w5 T) := (HT.out.1.below B4).below b5
        have HG : Hid (q = true ↔ GoodL L) := by
          show _ ↔ _
          rw [hq']
          have hi : T.ino = (kvs L).foldl insP [] := by rw [HT.out.2.2.2.1, HN.out, prs_kvs]
          constructor
          · intro e
            exact ⟨by have := HN.out; omega, HA.out, T, HT.out.2.2.1, e⟩
          · intro h
            exact grown_good HT.out.2.2.1 hi h.2.2
        have HQ : Hid (q = true ↔ T.limbs 0 = L) := hq'
        clear hq hq' t3 t4 b4 b5 B4 HK4 hR4 ho4
        cases q with
        | true =>
          go_wp2_with fail
          refine bodyPost_ret (v := .tuple #[.pointer T.pa, .bool true]) (by simp [results, Try.results15, go_sem]) rfl ⟨.inl ⟨HG.out.1 (by simp), T, rfl, HT5.out, HT.out.2.1, HT.out.2.2.1, HQ.out.1 (by simp), fun b hb => by have := HT.out.2.2.2.2 b hb; omega⟩, HB5.out⟩
        | false =>
          go_wp2_with fail
          exact bodyPost_ret (v := .tuple #[.pointer none, .bool false]) (by simp [results, Try.results15, go_sem]) rfl (TreeOfIs.no (fun h => by have := HG.out.2 h; simp at this) HB5.out)
  · have i60 : (60 : Int) < (n : Int) := by omega
    have HG : Hid (¬ GoodL L) := fun h => by have := h.1; have := HN.out; omega
    go_enter Try.func15, Try.ntmps15
    go_wp2
    exact bodyPost_ret (v := .tuple #[.pointer none, .bool false]) (by simp [results, Try.results15, go_sem]) rfl (TreeOfIs.no HG.out (by go_grown))
end Go.Proofs.Ytnmbnebofbdmfaa
