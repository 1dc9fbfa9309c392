/- Ranking: how it lies in memory, and what the laws' helpers do with it. No condition. -/
import Derived.Test.YtikgcgfigcolmaaKd
import Derived.Test.YtikgcgfigcolmaaKScored
namespace Go.Proofs.Ytikgcgfigcolmaa
open Go.RowKit
set_option linter.unusedVariables false

/-- Ranking, as data. -/
abbrev DRanking := List DScored
def kRanking : Kd DRanking := (kRow kScored)
theorem kRanking_open {o : Bool} {w : World} {S : Nat → Prop} {vs : List Value} {x0 : List DScored} (h : kRanking.is o w S vs x0) : ∃ (a0 : Option Addr) (c0 : Nat) (T0 : Nat → Prop), vs = [.slice a0 x0.length c0] ∧ x0.length ≤ maxLen ∧ (kRow kScored).is o w T0 [.slice a0 x0.length c0] x0 ∧ (∀ k, T0 k → S k) := by
  obtain ⟨a0, c0, rfl, hl0, _⟩ := row_form h
  exact ⟨a0, c0, S, rfl, hl0, h, fun k hk => hk⟩
theorem kRanking_shut {o : Bool} {w : World} {S : Nat → Prop} {x0 : List DScored} {a0 : Option Addr} {n0 c0 : Nat} {T0 : Nat → Prop} (r0 : (kRow kScored).is o w T0 [.slice a0 n0 c0] x0) (s0 : ∀ k, T0 k → S k) : kRanking.is o w S [.slice a0 n0 c0] x0 := Kd.mono r0 s0

theorem infoRankingS : (Try.prog.info? 58).map (fun i => (i.zero, i.size, i.bytes)) = some (some (.agg #[.slice none 0 0]), 1, 24) := by kernel_rfl
theorem makeRankingS (n : Nat) (hn : n ≤ 2 ^ 30) (W : World) : (Instr.makeSlice 47 (.int .i64 (n : Int)) (.int .i64 (n : Int))).run Try.prog W = .ok (.slice (some ⟨W.heap.size, 0, none⟩) n n) (W.alloc (.cells (madeCells #[.slice none 0 0] (n)) 58)) := by
  obtain ⟨i0, hi, hz0, hz1, hz2⟩ := info_parts infoRankingS
  have h := run_make (P := Try.prog) W 47 58 i0 _ Try.underlying47 hi hz0 .i64 .i64 n n (by omega) (by omega) (by rw [hz2]; omega) (by omega)
  rw [hz1] at h
  simpa [Value.cells] using h
/-- What is marked behind a Ranking by value: how many marks, and the marks. -/
def hRanking_cnt : DRanking → Nat := fun x0 => sums kScored.cnt x0
def hRanking_mrk : DRanking → Int → DRanking := fun x0 k0 => mks kScored x0 (k0)
theorem cntle_Ranking (x : DRanking) : kRanking.cnt x ≤ 10 * (1 + kRanking.sz x) := by
  obtain ⟨x0, hx0⟩ : ∃ y, y = x := ⟨_, rfl⟩
  subst hx0
  have h0 := sums_le_of kScored.cnt kScored.sz 10 cntle_Scored x0
  show sums kScored.cnt x0 ≤ 10 * (1 + ((x0.length + sums kScored.sz x0)))
  omega
theorem cnt_RankingS {l : List DRanking} (h : (kRow kRanking).sz l ≤ 2 ^ 20) : sums kRanking.cnt l ≤ 2 ^ 26 := by
  have h1 := sums_le_of kRanking.cnt kRanking.sz 10 cntle_Ranking l
  have h2 : l.length + sums kRanking.sz l ≤ 2 ^ 20 := h
  omega
theorem cnt_Ranking {x : DRanking} (h : kRanking.sz x ≤ 2 ^ 20) : hRanking_cnt x ≤ 2 ^ 26 := by
  obtain ⟨x0, hx0⟩ : ∃ y, y = x := ⟨_, rfl⟩
  subst hx0
  have h0 := sums_le_of kScored.cnt kScored.sz 10 cntle_Scored x0
  have h' : (x0.length + sums kScored.sz x0) ≤ 2 ^ 20 := h
  show sums kScored.cnt x0 ≤ 2 ^ 26
  omega

end Go.Proofs.Ytikgcgfigcolmaa
