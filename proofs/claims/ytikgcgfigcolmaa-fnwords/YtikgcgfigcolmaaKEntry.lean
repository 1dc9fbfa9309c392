/- Entry: how it lies in memory, and what the laws' helpers do with it. No condition. -/
import Derived.Test.YtikgcgfigcolmaaKd
import Derived.Test.YtikgcgfigcolmaaKPosting
namespace Go.Proofs.Ytikgcgfigcolmaa
open Go.RowKit
set_option linter.unusedVariables false

/-- Entry, as data. -/
abbrev DEntry := ByteArray × List DPosting
def kEntry : Kd DEntry := kPair kStr (kRow kPosting)
theorem kEntry_open {o : Bool} {w : World} {S : Nat → Prop} {vs : List Value} {x0 : ByteArray} {x1 : List DPosting} (h : kEntry.is o w S vs (x0, x1)) : ∃ (a1 : Option Addr) (c1 : Nat) (T1 : Nat → Prop), vs = [.string x0, .slice a1 x1.length c1] ∧ x0.size ≤ maxLen ∧ x1.length ≤ maxLen ∧ (kRow kPosting).is o w T1 [.slice a1 x1.length c1] x1 ∧ (∀ k, T1 k → S k) := by
  obtain ⟨P0, Q0, v0, u0, rfl, ⟨rfl, g0⟩, g1, s0, q0, d0⟩ := h
  obtain ⟨a1, c1, rfl, l1, _⟩ := row_form g1
  exact ⟨a1, c1, Q0, rfl, g0, l1, g1, fun k hk => q0 k hk⟩
theorem kEntry_shut {o : Bool} {w : World} {S : Nat → Prop} {x0 : ByteArray} {x1 : List DPosting} {a1 : Option Addr} {n1 c1 : Nat} {T1 : Nat → Prop} (g0 : x0.size ≤ maxLen) (r1 : (kRow kPosting).is o w T1 [.slice a1 n1 c1] x1) (s1 : ∀ k, T1 k → S k) : kEntry.is o w S [.string x0, .slice a1 n1 c1] (x0, x1) := 
  ⟨fun _ => False, T1, _, _, rfl, ⟨rfl, g0⟩, r1, fun k hk => hk.elim, (fun k hk => s1 k hk), (fun e k hk hk' => hk.elim)⟩

theorem infoEntryS : (Try.prog.info? 85).map (fun i => (i.zero, i.size, i.bytes)) = some (some (.agg #[.string ⟨#[]⟩, .slice none 0 0]), 2, 40) := by kernel_rfl
theorem makeEntryS (n : Nat) (hn : n ≤ 2 ^ 30) (W : World) : (Instr.makeSlice 25 (.int .i64 (n : Int)) (.int .i64 (n : Int))).run Try.prog W = .ok (.slice (some ⟨W.heap.size, 0, none⟩) n n) (W.alloc (.cells (madeCells #[.string ⟨#[]⟩, .slice none 0 0] (n * 2)) 85)) := by
  obtain ⟨i0, hi, hz0, hz1, hz2⟩ := info_parts infoEntryS
  have h := run_make (P := Try.prog) W 25 85 i0 _ Try.underlying25 hi hz0 .i64 .i64 n n (by omega) (by omega) (by rw [hz2]; omega) (by omega)
  rw [hz1] at h
  simpa [Value.cells] using h
/-- What is marked behind a Entry by value: how many marks, and the marks. -/
def hEntry_cnt : DEntry → Nat := fun ⟨x0, x1⟩ => 0 + (sums kPosting.cnt x1)
def hEntry_mrk : DEntry → Int → DEntry := fun ⟨x0, x1⟩ k0 => (x0, mks kPosting x1 (k0))
theorem cntle_Entry (x : DEntry) : kEntry.cnt x ≤ 10 * (1 + kEntry.sz x) := by
  obtain ⟨x0, x1⟩ := x
  have h1 := sums_le_of kPosting.cnt kPosting.sz 10 cntle_Posting x1
  show 1 + (sums kPosting.cnt x1) ≤ 10 * (1 + (x0.size + ((x1.length + sums kPosting.sz x1))))
  omega
theorem cnt_EntryS {l : List DEntry} (h : (kRow kEntry).sz l ≤ 2 ^ 20) : sums kEntry.cnt l ≤ 2 ^ 26 := by
  have h1 := sums_le_of kEntry.cnt kEntry.sz 10 cntle_Entry l
  have h2 : l.length + sums kEntry.sz l ≤ 2 ^ 20 := h
  omega
theorem cnt_Entry {x : DEntry} (h : kEntry.sz x ≤ 2 ^ 20) : hEntry_cnt x ≤ 2 ^ 26 := by
  obtain ⟨x0, x1⟩ := x
  have h1 := sums_le_of kPosting.cnt kPosting.sz 10 cntle_Posting x1
  have h' : x0.size + ((x1.length + sums kPosting.sz x1)) ≤ 2 ^ 20 := h
  show 0 + (sums kPosting.cnt x1) ≤ 2 ^ 26
  omega

end Go.Proofs.Ytikgcgfigcolmaa
