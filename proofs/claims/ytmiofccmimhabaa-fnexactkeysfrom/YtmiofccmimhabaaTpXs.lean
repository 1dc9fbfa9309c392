/- A key cut: the specification's l7At and CutKey. -/
import Derived.Test.YtmiofccmimhabaaTpX
namespace Go.Proofs.Ytmiofccmimhabaa
open Go.RowKit
set_option linter.unusedVariables false

/-- Where a key stands, or would. -/
def AtIs (l : List Pr) (key : ByteArray) (k : Nat) (h : Bool) : Prop := k ≤ l.length ∧ (∀ j p, j < k → l[j]? = some p → kLt p.1 key) ∧ (∀ p, l[k]? = some p → ¬ kLt p.1 key) ∧ (h = true ↔ ∃ p, l[k]? = some p ∧ p.1 = key)
theorem at_yes {l : List Pr} {key : ByteArray} {k : Nat} (hs : Srt l) (h : AtIs l key k true) : l.filter (fun p => decide (p.1 ≠ key)) = l.take k ++ l.drop (k + 1) ∧ k < l.length ∧ ¬ ∀ p ∈ l, p.1 ≠ key := by
  obtain ⟨⟨ky, v⟩, hp, he⟩ := h.2.2.2.1 rfl
  dsimp only at he
  subst he
  obtain ⟨hk, hpe⟩ := List.getElem?_eq_some_iff.1 hp
  have e : l = l.take k ++ (ky, v) :: l.drop (k + 1) := by rw [← hpe]; simp
  refine ⟨?_, hk, fun h => h _ (List.mem_of_getElem? hp) rfl⟩
  obtain ⟨A, hA⟩ : ∃ A, A = l.take k := ⟨_, rfl⟩
  obtain ⟨B, hB⟩ : ∃ B, B = l.drop (k + 1) := ⟨_, rfl⟩
  rw [← hA, ← hB] at e ⊢
  clear hA hB
  subst e
  obtain ⟨_, _, s3, s4⟩ := srt_node.1 hs
  rw [List.filter_append, List.filter_cons, if_neg (by simp), filter_all (l := A) (fun p hp => (s3 p hp).ne), filter_all (l := B) (fun p hp => (s4 p hp).ne.symm)]
theorem at_no {l : List Pr} {key : ByteArray} {k : Nat} (hs : Srt l) (h : AtIs l key k false) : ∀ p ∈ l, p.1 ≠ key := by
  obtain ⟨h1, h2, h3, h4⟩ := h
  have hno : ¬ ∃ p, l[k]? = some p ∧ p.1 = key := fun h => by have := h4.2 h; cases this
  intro p hp
  obtain ⟨j, hj, rfl⟩ := List.getElem_of_mem hp
  rcases Nat.lt_trichotomy j k with hlt | rfl | hgt
  · exact (h2 j _ hlt (List.getElem?_eq_getElem hj)).ne
  · exact fun e => hno ⟨_, List.getElem?_eq_getElem hj, e⟩
  · have hk : k < l.length := by omega
    have e1 := h3 _ (List.getElem?_eq_getElem hk)
    have e2 : l[k].1 ≠ key := fun e => hno ⟨_, List.getElem?_eq_getElem hk, e⟩
    have e3 : kLt key l[k].1 := by
      rcases kLt_tri key l[k].1 with h | h | h
      · exact h
      · exact absurd h.symm e2
      · exact absurd h e1
    exact (e3.trans (List.pairwise_iff_getElem.1 hs k j hk hj hgt)).ne.symm

set_option maxRecDepth 100000 in
set_option maxHeartbeats 2000000 in
theorem l7At_any (l : List Pr) (key : ByteArray) (v : Value) (w : World) (h : PSrc w v l (fun _ => True)) (hl : l.length ≤ 60) :
    Calls Try.prog 49 #[v, .string key] w fun e w' => ∃ (k : Nat) (q : Bool), e = .returned (.tuple #[.int .i64 (k : Int), .bool q]) ∧ AtIs l key k q ∧ Below w.heap.size w w' := by
  obtain ⟨a, c, rfl, hc, hsrc⟩ := h
  obtain ⟨n, hn⟩ : ∃ n, n = l.length := ⟨_, rfl⟩
  have HN : Hid (n = l.length) := hn
  have HS : Hid (n = 0 ∨ ∃ b off, a = some ⟨b, off, none⟩ ∧ b < w.heap.size ∧ PAt w b off l) := by
    rcases hsrc with h0 | ⟨b, off, e, hb, _, hat⟩
    · exact .inl (by rw [hn, h0]; rfl)
    · exact .inr ⟨b, off, e, hb, hat⟩
  rw [← hn] at hl hc ⊢
  clear hsrc hn
  have HPD : Hid (∀ i, i < n → ∃ p, l[i]? = some p) := fun i hi => by
    have hi' : i < l.length := by rw [← HN.out]; exact hi
    exact ⟨l[i], List.getElem?_eq_getElem hi'⟩
  have HND : Hid (∀ i, ¬ i < n → l[i]? = none) := fun i hi => List.getElem?_eq_none (by rw [← HN.out]; omega)
  go_enter Try.func49, Try.ntmps49
  go_wp2_with fail
  go_loopw [6] (fun kv wr => ∃ k : Nat, k ≤ n ∧ kv = .int .i64 k ∧ Hid (∀ j p, j < k → l[j]? = some p → kLt p.1 key) ∧ Below w.heap.size w wr) (fun kv _ => n - (intOf kv).toNat)
  case atStart => exact ⟨0, Nat.zero_le _, rfl, fun j p h => by omega, Below.refl _ _⟩
  case round =>
    obtain ⟨k, hk, rfl, HC, hbr⟩ := hrel
    have HBR : Hid (Below w.heap.size w wr) := hbr
    by_cases hlt : k < n
    · obtain ⟨⟨pk, pv⟩, hp⟩ := HPD.out k hlt
      rcases HS.out with h0 | ⟨b, off, rfl, hb, hat⟩
      · omega
      obtain ⟨d0, _⟩ := hat k (pk, pv) hp
      replace d0 := (hbr.cell hb).trans d0
      dsimp only at d0
      have j0 : (0 : Int) ≤ (k : Int) := by omega
      have j1 : (k : Int) < (n : Int) := by omega
      have HPI : Hid (l[k]? = some (pk, pv)) := hp
      clear hp hat hbr
      cases hkl : Op.bytesLess pk.toList key.toList with
      | true =>
        have HC1 : Hid (∀ j p, j < k + 1 → l[j]? = some p → kLt p.1 key) := fun j p hj hp => by
          by_cases e : j = k
          · subst e
            have e := HPI.out.symm.trans hp
            cases e
            exact hkl
          · exact HC.out j p (by omega) hp
        go_wp2_with fail
        first
          | (go_big_quiet (fail); go_wp2; go_roundw)
          | (go_wp2; go_roundw)
          | go_roundw
        case rel => exact ⟨k + 1, by omega, by go_num, HC1, by first | exact HBR.out | exact drewN_belowT HBR.out _⟩
        case measure => simp [intOf]; omega
      | false =>
        cases hke : (pk.toList == key.toList) with
        | true =>
          have HA : Hid (AtIs l key k true) := ⟨by rw [← HN.out]; exact hk, HC.out, fun p hp => by
            have e := HPI.out.symm.trans hp
            cases e
            exact fun h => (by unfold kLt at h; rw [hkl] at h; cases h), ⟨fun _ => ⟨_, HPI.out, toL_inj (eq_of_beq hke)⟩, fun _ => rfl⟩⟩
          go_wp2_with fail
          first
            | exact bodyPost_ret (v := .tuple #[.int .i64 (k : Int), .bool true]) (by simp [results, go_sem]) rfl ⟨_, _, rfl, HA.out, HBR.out⟩
            | (go_big_quiet (fail); go_wp2; exact bodyPost_ret (v := .tuple #[.int .i64 (k : Int), .bool true]) (by simp [results, go_sem]) rfl ⟨_, _, rfl, HA.out, by first | exact HBR.out | exact drewN_belowT HBR.out _⟩)
            | trace_state
        | false =>
          have HA : Hid (AtIs l key k false) := ⟨by rw [← HN.out]; exact hk, HC.out, fun p hp => by
            have e := HPI.out.symm.trans hp
            cases e
            exact fun h => (by unfold kLt at h; rw [hkl] at h; cases h), ⟨fun h => by (cases h), fun ⟨p, hp, e⟩ => by
              have e1 := HPI.out.symm.trans hp
              cases e1
              dsimp only at e
              rw [e] at hke
              simp at hke⟩⟩
          go_wp2_with fail
          first
            | exact bodyPost_ret (v := .tuple #[.int .i64 (k : Int), .bool false]) (by simp [results, go_sem]) rfl ⟨_, _, rfl, HA.out, HBR.out⟩
            | (go_big_quiet (fail); go_wp2; exact bodyPost_ret (v := .tuple #[.int .i64 (k : Int), .bool false]) (by simp [results, go_sem]) rfl ⟨_, _, rfl, HA.out, by first | exact HBR.out | exact drewN_belowT HBR.out _⟩)
            | trace_state
    · obtain rfl : k = n := by omega
      have HA : Hid (AtIs l key k false) := ⟨by rw [← HN.out]; exact hk, HC.out, fun p hp => (by rw [HND.out k hlt] at hp; cases hp), ⟨fun h => (by cases h), fun ⟨p, hp, _⟩ => (by rw [HND.out k hlt] at hp; cases hp)⟩⟩
      go_wp2_with fail
      first
        | exact bodyPost_ret (v := .tuple #[.int .i64 (k : Int), .bool false]) (by simp [results, go_sem]) rfl ⟨_, _, rfl, HA.out, HBR.out⟩
        | (go_big_quiet (fail); go_wp2; exact bodyPost_ret (v := .tuple #[.int .i64 (k : Int), .bool false]) (by simp [results, go_sem]) rfl ⟨_, _, rfl, HA.out, by first | exact HBR.out | exact drewN_belowT HBR.out _⟩)
        | trace_state
end Go.Proofs.Ytmiofccmimhabaa
