/- The best few of several lists: what the law asks of them. No condition. -/
import Derived.Test.YtikgcgfigcolmaaRtM
namespace Go.Proofs.Ytikgcgfigcolmaa
open Go.RowKit
set_option linter.unusedVariables false

/-- The search goes no further than the longest list. -/
theorem topD_le {ls : List DRanking} {k m : Nat} (hm : ∀ r ∈ ls, r.length ≤ m) : ∀ n d, d ≤ m → topD ls k n d ≤ m
  | 0, d, h => by simpa [topD] using h
  | n + 1, d, h => by
    unfold topD
    split
    · exact h
    · next hne =>
      have hd : d < m := by
        rcases Nat.lt_or_ge d m with h' | h'
        · exact h'
        · exact absurd (atDp_none fun r hr => Nat.le_trans (hm r hr) h') (by simpa using hne)
      split
      · omega
      · exact topD_le hm n (d + 1) (by omega)
theorem best_in {ls : List DRanking} {k : Nat} {s : DScored} (h : s ∈ (allD ls).take k) : s.2 = sumL ls s.1 ∧ s.1 ∈ idsAll ls := by
  have h1 := List.mem_of_mem_take h
  have h2 := (putIds_mem (f := sumL ls) (idsAll ls) [] (fun x hx => by simp at hx) s).1 h1
  rcases h2 with h2 | h2
  · simp at h2
  · exact ⟨h2.2, h2.1⟩
theorem best_id {ls : List DRanking} (hg : fGoodRankings ls = true) {i : Int} (h : i ∈ idsAll ls) : 0 ≤ i ∧ i ≤ 1000 := by
  obtain ⟨r, hr, x, hx, rfl⟩ := idsAll_mem.1 h
  exact (good_sc hg r hr x hx).2
theorem all_srt (ls : List DRanking) : Srt (allD ls) := putIds_srt _ _ _ srt_nil
theorem best_falls {ls : List DRanking} {k i : Nat} {s y : DScored} (h : ((allD ls).take k)[i + 1]? = some s) (hy : ((allD ls).take k)[i]? = some y) : s.2 ≤ y.2 := by
  have hs : Srt ((allD ls).take k) := List.Pairwise.sublist (List.take_sublist _ _) (all_srt ls)
  have h1 := (List.getElem?_eq_some_iff.1 h).1
  have h2 := (List.getElem?_eq_some_iff.1 hy).1
  have := List.pairwise_iff_getElem.1 hs i (i + 1) h2 h1 (by omega)
  rw [(List.getElem?_eq_some_iff.1 h).2, (List.getElem?_eq_some_iff.1 hy).2, ahd_iff] at this
  omega
/-- Nobody else has more. -/
theorem best_rest {ls : List DRanking} {k : Nat} {i : Int} {y : DScored} (hk : ((allD ls).take (k + 1))[k]? = some y) (hi : i ∈ idsAll ls) (hn : noId ((allD ls).take (k + 1)) i = true) : sumL ls i ≤ y.2 := by
  have hm : (i, sumL ls i) ∈ allD ls := (putIds_mem (f := sumL ls) (idsAll ls) [] (fun x hx => by simp at hx) (i, sumL ls i)).2 (.inr ⟨hi, rfl⟩)
  obtain ⟨j, hj⟩ := List.getElem?_of_mem hm
  have hjl := (List.getElem?_eq_some_iff.1 hj).1
  have hjk : k < j := by
    rcases Nat.lt_or_ge k j with h | h
    · exact h
    · exfalso
      have : (i, sumL ls i) ∈ (allD ls).take (k + 1) := List.mem_of_getElem? (i := j) (by rw [List.getElem?_take, if_pos (by omega)]; exact hj)
      exact (noId_iff _ _).1 hn _ this rfl
  have hy : (allD ls)[k]? = some y := by rw [List.getElem?_take, if_pos (by omega)] at hk; exact hk
  have hkl := (List.getElem?_eq_some_iff.1 hy).1
  have := List.pairwise_iff_getElem.1 (all_srt ls) k j hkl hjl hjk
  rw [(List.getElem?_eq_some_iff.1 hj).2, (List.getElem?_eq_some_iff.1 hy).2, ahd_iff] at this
  have e : (i, sumL ls i).2 = sumL ls i := rfl
  omega
/-- The length of the longest. -/
def longest : List DRanking → Nat
  | [] => 0
  | r :: t => max r.length (longest t)
def longTo (ls : List DRanking) (k : Nat) : Nat := longest (ls.take k)
theorem longest_append (a b : List DRanking) : longest (a ++ b) = max (longest a) (longest b) := by
  induction a with
  | nil => simp [longest]
  | cons r t ih => simp only [List.cons_append, longest, ih]; omega
theorem longTo_next {ls : List DRanking} {k : Nat} {r : DRanking} (h : ls[k]? = some r) : longTo ls (k + 1) = max (longTo ls k) r.length := by
  unfold longTo
  rw [List.take_add_one, h, longest_append]
  simp [longest]
theorem longest_le {ls : List DRanking} : ∀ r ∈ ls, r.length ≤ longest ls := by
  induction ls with
  | nil => intro r hr; simp at hr
  | cons x t ih =>
    intro r hr
    simp only [longest]
    rcases List.mem_cons.1 hr with rfl | hr
    · omega
    · have := ih r hr; omega
theorem top_depth {ls : List DRanking} {k : Int} (h : (fTopBest ls k).2.2 = true) : 0 ≤ (fTopBest ls k).2.1 ∧ (fTopBest ls k).2.1 ≤ longest ls := by
  unfold fTopBest at h ⊢
  split
  · split
    · simp
    · have := topD_le (ls := ls) (k := k.toNat) longest_le 61 0 (Nat.zero_le _)
      simp only
      omega
  · rename_i h'
    rw [if_neg h'] at h
    cases h
end Go.Proofs.Ytikgcgfigcolmaa
