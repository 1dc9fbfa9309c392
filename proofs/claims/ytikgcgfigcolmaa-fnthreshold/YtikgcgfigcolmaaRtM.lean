/- The best few found ahead of the lists' ends: the mathematics. No condition. -/
import Derived.Test.YtikgcgfigcolmaaRbM
namespace Go.Proofs.Ytikgcgfigcolmaa
open Go.RowKit
set_option linter.unusedVariables false

/-- What stands at a depth. -/
def atDp (ls : List DRanking) (d : Nat) : List DScored := ls.filterMap fun r => r[d]?
def idsAt (ls : List DRanking) (d : Nat) : List Int := (atDp ls d).map (·.1)
def sumSc : List DScored → Int
  | [] => 0
  | x :: r => x.2 + sumSc r
def thrD (ls : List DRanking) (d : Nat) : Int := sumSc (atDp ls d)
def idsTo (ls : List DRanking) : Nat → List Int
  | 0 => []
  | d + 1 => idsTo ls d ++ idsAt ls d
/-- The ids that were met, in their order. -/
def outD (ls : List DRanking) (d : Nat) : List DScored := putIds (sumL ls) [] (idsTo ls d)
def metD (ls : List DRanking) (d : Nat) : List DScored := meetIds (sumL ls) [] (idsTo ls d)
theorem outD_next (ls : List DRanking) (d : Nat) : outD ls (d + 1) = putIds (sumL ls) (outD ls d) (idsAt ls d) := by
  unfold outD
  rw [idsTo, putIds_append]
theorem metD_next (ls : List DRanking) (d : Nat) : metD ls (d + 1) = meetIds (sumL ls) (metD ls d) (idsAt ls d) := by
  unfold metD
  rw [idsTo, meetIds_append]
/-- How many are above. -/
def cntA : List DScored → Int → Nat
  | [], _ => 0
  | x :: r, t => (if t < x.2 then 1 else 0) + cntA r t
theorem cntA_append : ∀ (a b : List DScored) (t : Int), cntA (a ++ b) t = cntA a t + cntA b t
  | [], b, t => by simp [cntA]
  | x :: r, b, t => by simp only [List.cons_append, cntA, cntA_append r b t]; omega
theorem cntA_le : ∀ (l : List DScored) (t : Int), cntA l t ≤ l.length
  | [], t => Nat.le_refl _
  | x :: r, t => by
    have := cntA_le r t
    simp only [cntA, List.length_cons]
    split <;> omega
theorem cntA_perm {a b : List DScored} (h : a.Perm b) (t : Int) : cntA a t = cntA b t := by
  induction h with
  | nil => rfl
  | cons x _ ih => simp only [cntA, ih]
  | swap x y l => simp only [cntA]; omega
  | trans _ _ h1 h2 => exact h1.trans h2
theorem insL_perm : ∀ (l : List DScored) (s : DScored), (insL l s).Perm (s :: l)
  | [], s => List.Perm.refl _
  | y :: r, s => by
    rw [insL]
    split
    · exact ((insL_perm r s).cons y).trans (List.Perm.swap _ _ _)
    · exact List.Perm.refl _
theorem noId_perm {a b : List DScored} (h : a.Perm b) (i : Int) : noId a i = noId b i := by
  cases e : noId b i with
  | true => exact (noId_iff _ _).2 fun y hy => (noId_iff _ _).1 e y (h.mem_iff.1 hy)
  | false =>
    obtain ⟨y, hy, h1, _⟩ := scoreL_mem b i e
    exact noId_false (h.mem_iff.2 hy) h1
theorem meetL_perm {a b : List DScored} (h : a.Perm b) (s : DScored) : (meetL a s).Perm (putL b s) := by
  unfold meetL putL
  rw [noId_perm h]
  split
  · exact (List.perm_append_singleton s a).trans ((h.cons s).trans (insL_perm b s).symm)
  · exact h
theorem meetIds_perm {f : Int → Int} : ∀ (is : List Int) {a b : List DScored}, a.Perm b → (meetIds f a is).Perm (putIds f b is)
  | [], a, b, h => h
  | i :: r, a, b, h => by
    rw [meetIds_cons, putIds_cons]
    exact meetIds_perm r (meetL_perm h _)
theorem metD_perm (ls : List DRanking) (d : Nat) : (metD ls d).Perm (outD ls d) := meetIds_perm _ (List.Perm.refl _)
/-- What is sorted is what was put to its place. -/
theorem srt_perm {l m : List DScored} (hl : Srt l) (hm : Srt m) (h : l.Perm m) : l = m := srt_unique l m hl hm fun x => h.mem_iff

/-- The k-th is above. -/
def reach (l : List DScored) (k : Nat) (t : Int) : Bool := match l[k - 1]? with | none => false | some x => decide (t + 1 ≤ x.2)
theorem cntA_zero : ∀ (l : List DScored) (t : Int), (∀ x ∈ l, x.2 ≤ t) → cntA l t = 0
  | [], t, _ => rfl
  | x :: r, t, h => by
    have h1 := h x (by simp)
    rw [cntA, cntA_zero r t (fun y hy => h y (by simp [hy])), if_neg (by omega)]
theorem srt_le {x : DScored} {r : List DScored} (h : Srt (x :: r)) {y : DScored} (hy : y ∈ r) : y.2 ≤ x.2 := by
  have := (List.pairwise_cons.1 h).1 y hy
  rw [ahd_iff] at this
  omega
theorem reach_iff : ∀ (l : List DScored) (k : Nat) (t : Int), Srt l → 1 ≤ k → (reach l k t = true ↔ k ≤ cntA l t)
  | [], k, t, _, hk => by simp [reach, cntA]; omega
  | x :: r, k, t, h, hk => by
    have hr : Srt r := (List.pairwise_cons.1 h).2
    by_cases hx : t < x.2
    · rw [cntA, if_pos hx]
      by_cases k1 : k = 1
      · subst k1
        simp [reach]
        omega
      · have ih := reach_iff r (k - 1) t hr (by omega)
        have e : reach (x :: r) k t = reach r (k - 1) t := by
          unfold reach
          rw [show k - 1 = (k - 1 - 1) + 1 by omega, List.getElem?_cons_succ]
          rfl
        rw [e, ih]
        omega
    · have hz : cntA (x :: r) t = 0 := cntA_zero _ _ fun y hy => by
        rcases List.mem_cons.1 hy with rfl | hy
        · omega
        · have := srt_le h hy; omega
      rw [hz]
      constructor
      · intro e
        unfold reach at e
        split at e
        · simp at e
        · rename_i y hy
          have hm : y ∈ x :: r := List.mem_of_getElem? hy
          have h1 : t + 1 ≤ y.2 := by simpa using e
          rcases List.mem_cons.1 hm with rfl | hm
          · omega
          · have := srt_le h hm; omega
      · omega

/-- How far the specification goes, from depth d on, n depths at most. -/
def topD (ls : List DRanking) (k : Nat) : Nat → Nat → Nat
  | 0, d => d
  | n + 1, d => if atDp ls d = [] then d else if reach (outD ls (d + 1)) k (thrD ls d) = true then d + 1 else topD ls k n (d + 1)
/-- What the depth ahead told. -/
def thrB (ls : List DRanking) : Nat → Int
  | 0 => 0
  | d + 1 => thrD ls d
/-- How far the program goes. -/
def topI (ls : List DRanking) (k : Nat) : Nat → Nat → Nat
  | 0, d => d
  | n + 1, d => if k ≤ cntA (metD ls d) (thrB ls d) then d else if atDp ls d = [] then d else topI ls k n (d + 1)
theorem outD_srt (ls : List DRanking) (d : Nat) : Srt (outD ls d) := putIds_srt _ _ _ srt_nil
theorem top_same (ls : List DRanking) (k : Nat) (hk : 1 ≤ k) : ∀ n d, ¬ k ≤ cntA (metD ls d) (thrB ls d) → atDp ls (d + n) = [] → topI ls k (n + 1) d = topD ls k (n + 1) d
  | 0, d, h, he => by
    rw [topI, if_neg h, topD]
    simp only [Nat.add_zero] at he
    rw [if_pos he, if_pos he]
  | n + 1, d, h, he => by
    rw [topI, if_neg h, topD]
    by_cases e : atDp ls d = []
    · rw [if_pos e, if_pos e]
    · rw [if_neg e, if_neg e]
      have hr := reach_iff (outD ls (d + 1)) k (thrD ls d) (outD_srt _ _) hk
      have hc : cntA (metD ls (d + 1)) (thrB ls (d + 1)) = cntA (outD ls (d + 1)) (thrD ls d) := cntA_perm (metD_perm ls (d + 1)) _
      by_cases c : k ≤ cntA (metD ls (d + 1)) (thrB ls (d + 1))
      · rw [topI, if_pos c, if_pos (hr.2 (hc ▸ c))]
      · rw [if_neg (fun h => c (hc ▸ hr.1 h))]
        exact top_same ls k hk n (d + 1) c (by rw [show d + 1 + n = d + (n + 1) by omega]; exact he)
theorem atDp_none {ls : List DRanking} {d : Nat} (h : ∀ r ∈ ls, r.length ≤ d) : atDp ls d = [] := by
  unfold atDp
  rw [List.filterMap_eq_nil_iff]
  intro r hr
  exact List.getElem?_eq_none (h r hr)
theorem atDp_nil_iff {ls : List DRanking} {d : Nat} : atDp ls d = [] ↔ ∀ r ∈ ls, r.length ≤ d := by
  unfold atDp
  rw [List.filterMap_eq_nil_iff]
  constructor
  · intro h r hr
    have := h r hr
    simpa using this
  · intro h r hr
    exact List.getElem?_eq_none (h r hr)

/-- All ids, list by list. -/
def idsAll (ls : List DRanking) : List Int := ls.flatMap fun r => r.map (·.1)
theorem idsTo_mem {ls : List DRanking} {i : Int} : ∀ d, i ∈ idsTo ls d ↔ ∃ r ∈ ls, ∃ e x, e < d ∧ r[e]? = some x ∧ x.1 = i
  | 0 => by simp [idsTo]
  | d + 1 => by
    rw [idsTo, List.mem_append, idsTo_mem d]
    constructor
    · rintro (⟨r, hr, e, x, he, hx, hi⟩ | h)
      · exact ⟨r, hr, e, x, by omega, hx, hi⟩
      · unfold idsAt atDp at h
        obtain ⟨x, hx, hi⟩ := List.mem_map.1 h
        obtain ⟨r, hr, hx⟩ := List.mem_filterMap.1 hx
        exact ⟨r, hr, d, x, by omega, hx, hi⟩
    · rintro ⟨r, hr, e, x, he, hx, hi⟩
      by_cases c : e < d
      · exact .inl ⟨r, hr, e, x, c, hx, hi⟩
      · obtain rfl : e = d := by omega
        exact .inr (List.mem_map.2 ⟨x, List.mem_filterMap.2 ⟨r, hr, hx⟩, hi⟩)
theorem idsAll_mem {ls : List DRanking} {i : Int} : i ∈ idsAll ls ↔ ∃ r ∈ ls, ∃ x ∈ r, x.1 = i := by
  unfold idsAll
  rw [List.mem_flatMap]
  constructor
  · rintro ⟨r, hr, h⟩
    obtain ⟨x, hx, hi⟩ := List.mem_map.1 h
    exact ⟨r, hr, x, hx, hi⟩
  · rintro ⟨r, hr, x, hx, hi⟩
    exact ⟨r, hr, List.mem_map.2 ⟨x, hx, hi⟩⟩
theorem idsTo_all {ls : List DRanking} {d : Nat} (h : atDp ls d = []) (i : Int) : i ∈ idsTo ls d ↔ i ∈ idsAll ls := by
  rw [idsTo_mem, idsAll_mem]
  have h' := atDp_nil_iff.1 h
  constructor
  · rintro ⟨r, hr, e, x, he, hx, hi⟩
    exact ⟨r, hr, x, List.mem_of_getElem? hx, hi⟩
  · rintro ⟨r, hr, x, hx, hi⟩
    obtain ⟨e, he⟩ := List.getElem?_of_mem hx
    exact ⟨r, hr, e, x, by have := (List.getElem?_eq_some_iff.1 he).1; have := h' r hr; omega, he, hi⟩
/-- All best. -/
def allD (ls : List DRanking) : List DScored := putIds (sumL ls) [] (idsAll ls)
theorem outD_all {ls : List DRanking} {d : Nat} (h : atDp ls d = []) : outD ls d = allD ls := putIds_same (idsTo_all h)

/-- Lists fall. -/
def Falls (r : List DScored) : Prop := r.Pairwise fun a b => b.2 ≤ a.2
theorem falls_at : ∀ {r : List DScored}, Falls r → ∀ {e d : Nat} {x y : DScored}, d ≤ e → r[e]? = some x → r[d]? = some y → x.2 ≤ y.2
  | [], _, e, d, x, y, _, hx, _ => by simp at hx
  | z :: r, h, 0, 0, x, y, _, hx, hy => by
    rw [hx] at hy
    injection hy with hy
    rw [hy]; exact Int.le_refl _
  | z :: r, h, 0, d + 1, x, y, hd, _, _ => by omega
  | z :: r, h, e + 1, 0, x, y, _, hx, hy => by
    obtain rfl : z = y := by simpa using hy
    exact (List.pairwise_cons.1 h).1 x (List.mem_of_getElem? (by simpa using hx))
  | z :: r, h, e + 1, d + 1, x, y, hd, hx, hy => falls_at (List.pairwise_cons.1 h).2 (e := e) (d := d) (by omega) (by simpa using hx) (by simpa using hy)
/-- Who was not met has no more than the threshold. -/
theorem score_rest {r : List DScored} (hf : Falls r) (hp : ∀ y ∈ r, 1 ≤ y.2) {d : Nat} {i : Int} (h : ∀ e x, e < d + 1 → r[e]? = some x → x.1 ≠ i) : scoreL r i ≤ (match r[d]? with | none => 0 | some y => y.2) := by
  cases e : noId r i with
  | true =>
    rw [scoreL_no r i e]
    cases h2 : r[d]? with
    | none => exact Int.le_refl _
    | some y => have := hp y (List.mem_of_getElem? h2); show 0 ≤ y.2; omega
  | false =>
    obtain ⟨x, hx, h1, h2⟩ := scoreL_mem r i e
    obtain ⟨q, hq⟩ := List.getElem?_of_mem hx
    have hqd : ¬ q < d + 1 := fun c => h q x c hq h1
    have hql := (List.getElem?_eq_some_iff.1 hq).1
    cases h3 : r[d]? with
    | none => have := List.getElem?_eq_none_iff.1 h3; omega
    | some y => rw [h2]; exact falls_at hf (by omega) hq h3
theorem sum_rest : ∀ {ls : List DRanking}, (∀ r ∈ ls, Falls r ∧ ∀ y ∈ r, 1 ≤ y.2) → ∀ {d : Nat} {i : Int}, (∀ r ∈ ls, ∀ e x, e < d + 1 → r[e]? = some x → x.1 ≠ i) → sumL ls i ≤ thrD ls d
  | [], _, d, i, _ => Int.le_refl _
  | r :: t, hg, d, i, h => by
    have ih := sum_rest (ls := t) (fun q hq => hg q (by simp [hq])) (d := d) (i := i) (fun q hq => h q (by simp [hq]))
    have h1 := score_rest (hg r (by simp)).1 (hg r (by simp)).2 (d := d) (i := i) (h r (by simp))
    unfold thrD at ih ⊢
    have e : atDp (r :: t) d = (match r[d]? with | none => atDp t d | some y => y :: atDp t d) := by
      unfold atDp
      rw [List.filterMap_cons]
      cases r[d]? <;> rfl
    rw [e, sumL]
    cases h2 : r[d]? with
    | none => rw [h2] at h1; simp only at h1 ⊢; omega
    | some y => rw [h2] at h1; simp only [sumSc] at h1 ⊢; omega
theorem srt_append {a b : List DScored} (ha : Srt a) (hb : Srt b) (h : ∀ x ∈ a, ∀ y ∈ b, ahd x y = true) : Srt (a ++ b) := List.pairwise_append.2 ⟨ha, hb, h⟩
/-- The first k are those of all where the k-th is above the threshold. -/
theorem take_reach {ls : List DRanking} (hg : ∀ r ∈ ls, Falls r ∧ ∀ y ∈ r, 1 ≤ y.2) {d k : Nat} (hk : 1 ≤ k) (h : reach (outD ls (d + 1)) k (thrD ls d) = true) : (outD ls (d + 1)).take k = (allD ls).take k := by
  obtain ⟨o, ho⟩ : ∃ o, o = outD ls (d + 1) := ⟨_, rfl⟩
  rw [← ho] at h ⊢
  have hso : Srt o := ho ▸ outD_srt _ _
  have hmem : ∀ x, x ∈ o ↔ x.1 ∈ idsTo ls (d + 1) ∧ x.2 = sumL ls x.1 := fun x => by
    rw [ho]
    unfold outD
    rw [putIds_mem _ _ (fun x hx => by simp at hx)]
    simp
  have hall : ∀ x, x ∈ allD ls ↔ x.1 ∈ idsAll ls ∧ x.2 = sumL ls x.1 := fun x => by
    unfold allD
    rw [putIds_mem _ _ (fun x hx => by simp at hx)]
    simp
  have hsub : ∀ i, i ∈ idsTo ls (d + 1) → i ∈ idsAll ls := fun i hi => by
    obtain ⟨r, hr, e, x, _, hx, hi⟩ := (idsTo_mem _).1 hi
    exact idsAll_mem.2 ⟨r, hr, x, List.mem_of_getElem? hx, hi⟩
  unfold reach at h
  cases hkk : o[k - 1]? with
  | none => rw [hkk] at h; simp at h
  | some y =>
    rw [hkk] at h
    have hy : thrD ls d + 1 ≤ y.2 := by simpa using h
    have hkl := (List.getElem?_eq_some_iff.1 hkk).1
    have hfirst : ∀ x ∈ o.take k, y.2 ≤ x.2 := fun x hx => by
      obtain ⟨q, hq⟩ := List.getElem?_of_mem hx
      have hq1 : q < k := by have := (List.getElem?_eq_some_iff.1 hq).1; simp at this; omega
      rw [List.getElem?_take_of_lt hq1] at hq
      refine falls_at (r := o) ?_ (e := k - 1) (d := q) (by omega) hkk hq
      exact hso.imp fun h => by rw [ahd_iff] at h; omega
    obtain ⟨R, hR⟩ : ∃ R, R = (allD ls).filter fun x => decide (x ∉ o.take k) := ⟨_, rfl⟩
    have hsR : Srt R := by
      rw [hR]
      have h0 : Srt (allD ls) := putIds_srt _ _ _ srt_nil
      exact List.Pairwise.filter _ h0
    have hso1 : Srt (o.take k) := List.Pairwise.sublist (List.take_sublist _ _) hso
    have hsplit : Srt (o.take k ++ o.drop k) := by rw [List.take_append_drop]; exact hso
    have hcat : Srt (o.take k ++ R) := by
      refine srt_append hso1 hsR fun x hx z hz => ?_
      rw [hR] at hz
      obtain ⟨hz1, hz2⟩ := List.mem_filter.1 hz
      have hz2' : z ∉ o.take k := by simpa using hz2
      obtain ⟨hz3, hz4⟩ := (hall z).1 hz1
      by_cases c : z.1 ∈ idsTo ls (d + 1)
      · have hzo : z ∈ o := (hmem z).2 ⟨c, hz4⟩
        rw [← List.take_append_drop k o] at hzo
        rcases List.mem_append.1 hzo with h1 | h1
        · exact absurd h1 hz2'
        · exact (List.pairwise_append.1 hsplit).2.2 x hx z h1
      · have hz5 : z.2 ≤ thrD ls d := by
          rw [hz4]
          exact sum_rest hg fun r hr e x he hx hi => c ((idsTo_mem _).2 ⟨r, hr, e, x, he, hx, hi⟩)
        have := hfirst x hx
        rw [ahd_iff]
        omega
    have heq : allD ls = o.take k ++ R := by
      refine srt_unique _ _ (putIds_srt _ _ _ srt_nil) hcat fun x => ?_
      rw [List.mem_append, hR, List.mem_filter]
      constructor
      · intro hx
        by_cases c : x ∈ o.take k
        · exact .inl c
        · exact .inr ⟨hx, by simpa using c⟩
      · rintro (h1 | h1)
        · have := (hmem x).1 (List.mem_of_mem_take h1)
          exact (hall x).2 ⟨hsub _ this.1, this.2⟩
        · exact h1.1
    rw [heq, List.take_append_of_le_length (by simp; omega), List.take_take, Nat.min_self]
theorem top_take {ls : List DRanking} (hg : ∀ r ∈ ls, Falls r ∧ ∀ y ∈ r, 1 ≤ y.2) {k : Nat} (hk : 1 ≤ k) : ∀ n d, atDp ls (d + n) = [] → (outD ls (topD ls k (n + 1) d)).take k = (allD ls).take k
  | 0, d, he => by
    simp only [Nat.add_zero] at he
    rw [topD, if_pos he, outD_all he]
  | n + 1, d, he => by
    rw [topD]
    by_cases e : atDp ls d = []
    · rw [if_pos e, outD_all e]
    · rw [if_neg e]
      by_cases c : reach (outD ls (d + 1)) k (thrD ls d) = true
      · rw [if_pos c]; exact take_reach hg hk c
      · rw [if_neg c]; exact top_take hg hk n (d + 1) (by rw [show d + 1 + n = d + (n + 1) by omega]; exact he)
/-- AllBest. -/
def fAllBest (ls : List DRanking) (k : Int) : List DScored × Bool := if (fGoodRankings ls && decide (0 ≤ k ∧ k ≤ 60)) = true then ((allD ls).take k.toNat, true) else ([], false)
/-- TopBest. -/
def fTopBest (ls : List DRanking) (k : Int) : List DScored × Int × Bool :=
  if (fGoodRankings ls && decide (0 ≤ k ∧ k ≤ 60)) = true then (if k = 0 then ([], 0, true) else ((outD ls (topD ls k.toNat 61 0)).take k.toNat, topD ls k.toNat 61 0, true)) else ([], 0, false)
theorem rkOk_falls : ∀ (r pre : List DScored), rkOk pre r = true → (∀ x ∈ r, scOk x = true) ∧ (∀ y, pre.getLast? = some y → ∀ x ∈ r, x.2 ≤ y.2) ∧ Falls r
  | [], pre, _ => ⟨fun x hx => by simp at hx, fun y _ x hx => by simp at hx, List.Pairwise.nil⟩
  | x :: r, pre, h => by
    rw [rkOk] at h
    simp only [Bool.and_eq_true] at h
    obtain ⟨⟨⟨h1, h2⟩, h3⟩, h4⟩ := h
    obtain ⟨i1, i2, i3⟩ := rkOk_falls r (pre ++ [x]) h4
    have i2' := i2 x (by simp)
    refine ⟨fun y hy => ?_, fun y hy z hz => ?_, List.pairwise_cons.2 ⟨fun z hz => i2' z hz, i3⟩⟩
    · rcases List.mem_cons.1 hy with rfl | hy
      · exact h1
      · exact i1 y hy
    · unfold lastA at h2
      rw [hy] at h2
      simp only [ahd_iff] at h2
      rcases List.mem_cons.1 hz with rfl | hz
      · omega
      · have := i2' z hz; omega
theorem good_falls {ls : List DRanking} (h : fGoodRankings ls = true) : ∀ r ∈ ls, Falls r ∧ ∀ y ∈ r, 1 ≤ y.2 := by
  unfold fGoodRankings at h
  simp only [Bool.and_eq_true, List.all_eq_true] at h
  intro r hr
  have h1 := h.1 r hr
  unfold rkGood at h1
  simp only [Bool.and_eq_true] at h1
  obtain ⟨i1, _, i3⟩ := rkOk_falls r [] h1.1
  refine ⟨i3, fun y hy => ?_⟩
  have := i1 y hy
  unfold scOk at this
  simp at this
  omega
theorem good_len {ls : List DRanking} (h : fGoodRankings ls = true) : ls.length ≤ 5 ∧ ∀ r ∈ ls, r.length ≤ 60 := by
  unfold fGoodRankings at h
  simp only [Bool.and_eq_true, List.all_eq_true, decide_eq_true_eq] at h
  refine ⟨h.2, fun r hr => ?_⟩
  have h1 := h.1 r hr
  unfold rkGood at h1
  simp only [Bool.and_eq_true, decide_eq_true_eq] at h1
  exact h1.2
theorem good_sc {ls : List DRanking} (h : fGoodRankings ls = true) : ∀ r ∈ ls, ∀ x ∈ r, (1 ≤ x.2 ∧ x.2 ≤ 1000000) ∧ (0 ≤ x.1 ∧ x.1 ≤ 1000) := by
  unfold fGoodRankings at h
  simp only [Bool.and_eq_true, List.all_eq_true] at h
  intro r hr x hx
  have h1 := h.1 r hr
  unfold rkGood at h1
  simp only [Bool.and_eq_true] at h1
  have := (rkOk_falls r [] h1.1).1 x hx
  unfold scOk at this
  simpa using this
/-- The best few that are found ahead of the ends are the best few of all. -/
theorem top_all (ls : List DRanking) (k : Int) : (fTopBest ls k).1 = (fAllBest ls k).1 ∧ (fTopBest ls k).2.2 = (fAllBest ls k).2 := by
  unfold fTopBest fAllBest
  split
  · rename_i h
    simp only [Bool.and_eq_true, decide_eq_true_eq] at h
    by_cases k0 : k = 0
    · rw [if_pos k0]
      simp [k0]
    · rw [if_neg k0]
      refine ⟨?_, rfl⟩
      refine top_take (good_falls h.1) (by omega) 60 0 ?_
      rw [Nat.zero_add]
      exact atDp_none (good_len h.1).2
  · exact ⟨rfl, rfl⟩
end Go.Proofs.Ytikgcgfigcolmaa
