/- Words: how it lies in memory, and what the laws' helpers do with it. No condition. -/
import Derived.Test.YtikgcgfigcolmaaKd
import Derived.Test.YtikgcgfigcolmaaKEntry
namespace Go.Proofs.Ytikgcgfigcolmaa
open Go.RowKit
set_option linter.unusedVariables false

/-- Words, as data. -/
abbrev DWords := Int × List DEntry
def kWords : Kd DWords := kPair kInt (kRow kEntry)
theorem kWords_open {o : Bool} {w : World} {S : Nat → Prop} {vs : List Value} {x0 : Int} {x1 : List DEntry} (h : kWords.is o w S vs (x0, x1)) : ∃ (a1 : Option Addr) (c1 : Nat) (T1 : Nat → Prop), vs = [.int .i64 x0, .slice a1 x1.length c1] ∧ IntOk x0 ∧ x1.length ≤ maxLen ∧ (kRow kEntry).is o w T1 [.slice a1 x1.length c1] x1 ∧ (∀ k, T1 k → S k) := by
  obtain ⟨P0, Q0, v0, u0, rfl, ⟨rfl, g0⟩, g1, s0, q0, d0⟩ := h
  obtain ⟨a1, c1, rfl, l1, _⟩ := row_form g1
  exact ⟨a1, c1, Q0, rfl, g0, l1, g1, fun k hk => q0 k hk⟩
theorem kWords_shut {o : Bool} {w : World} {S : Nat → Prop} {x0 : Int} {x1 : List DEntry} {a1 : Option Addr} {n1 c1 : Nat} {T1 : Nat → Prop} (g0 : IntOk x0) (r1 : (kRow kEntry).is o w T1 [.slice a1 n1 c1] x1) (s1 : ∀ k, T1 k → S k) : kWords.is o w S [.int .i64 x0, .slice a1 n1 c1] (x0, x1) := 
  ⟨fun _ => False, T1, _, _, rfl, ⟨rfl, g0⟩, r1, fun k hk => hk.elim, (fun k hk => s1 k hk), (fun e k hk hk' => hk.elim)⟩

theorem infoWordsS : (Try.prog.info? 27).map (fun i => (i.zero, i.size, i.bytes)) = some (some (.agg #[.int .i64 0, .slice none 0 0]), 2, 32) := by kernel_rfl
/-- What is marked behind a Words by value: how many marks, and the marks. -/
def hWords_cnt : DWords → Nat := fun ⟨x0, x1⟩ => 0 + (sums kEntry.cnt x1)
def hWords_mrk : DWords → Int → DWords := fun ⟨x0, x1⟩ k0 => (x0, mks kEntry x1 (k0))
theorem cntle_Words (x : DWords) : kWords.cnt x ≤ 10 * (1 + kWords.sz x) := by
  obtain ⟨x0, x1⟩ := x
  have h1 := sums_le_of kEntry.cnt kEntry.sz 10 cntle_Entry x1
  show 1 + (sums kEntry.cnt x1) ≤ 10 * (1 + (0 + ((x1.length + sums kEntry.sz x1))))
  omega
theorem cnt_WordsS {l : List DWords} (h : (kRow kWords).sz l ≤ 2 ^ 20) : sums kWords.cnt l ≤ 2 ^ 26 := by
  have h1 := sums_le_of kWords.cnt kWords.sz 10 cntle_Words l
  have h2 : l.length + sums kWords.sz l ≤ 2 ^ 20 := h
  omega
theorem cnt_Words {x : DWords} (h : kWords.sz x ≤ 2 ^ 20) : hWords_cnt x ≤ 2 ^ 26 := by
  obtain ⟨x0, x1⟩ := x
  have h1 := sums_le_of kEntry.cnt kEntry.sz 10 cntle_Entry x1
  have h' : 0 + ((x1.length + sums kEntry.sz x1)) ≤ 2 ^ 20 := h
  show 0 + (sums kEntry.cnt x1) ≤ 2 ^ 26
  omega

end Go.Proofs.Ytikgcgfigcolmaa
