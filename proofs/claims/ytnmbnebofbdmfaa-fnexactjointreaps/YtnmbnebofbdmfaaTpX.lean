/- A key cut: the program's CutKey. -/
import Derived.Test.YtnmbnebofbdmfaaTpK
import Derived.Test.YtnmbnebofbdmfaaTpMk
namespace Go.Proofs.Ytnmbnebofbdmfaa
open Go.RowKit
set_option linter.unusedVariables false

theorem Bt.ino_sh (t : Bt) : t.sh.ino = t.ino := by
  induction t with
  | nil => rfl
  | node b k v l r ihl ihr => simp [Bt.sh, Bt.ino, ihl, ihr]
/-- A key is found just where it is there. -/
theorem fnd_mem (key : ByteArray) (t : Bt) : Srt t.ino → ∀ s, (t.fnd key s = none ↔ ∀ p ∈ t.ino, p.1 ≠ key) := by
  induction t with
  | nil => intro _ s; simp [Bt.fnd, Bt.ino]
  | node b k v l r ihl ihr =>
    intro h s
    rw [Bt.ino, srt_node] at h
    obtain ⟨s1, s2, s3, s4⟩ := h
    rw [Bt.fnd]
    by_cases h1 : kLt key k
    · rw [if_pos h1, ihl s1]
      simp only [Bt.ino, List.mem_append, List.mem_cons]
      constructor
      · rintro h p (hp | rfl | hp)
        · exact h p hp
        · exact h1.ne.symm
        · exact (h1.trans (s4 p hp)).ne.symm
      · intro h p hp
        exact h p (.inl hp)
    · by_cases h2 : kLt k key
      · rw [if_neg h1, if_pos h2, ihr s2]
        simp only [Bt.ino, List.mem_append, List.mem_cons]
        constructor
        · rintro h p (hp | rfl | hp)
          · exact ((s3 p hp).trans h2).ne
          · exact h2.ne
          · exact h p hp
        · intro h p hp
          exact h p (.inr (.inr hp))
      · rw [if_neg h1, if_neg h2]
        have e : k = key := by
          rcases kLt_tri k key with h | h | h
          · exact absurd h h2
          · exact h
          · exact absurd h h1
        constructor
        · intro h; cases h
        · intro h
          exact absurd e (h (k, v) (by simp [Bt.ino]))

/-- What CutKey tells. -/
def CTold (Ls : List Lb) (key : ByteArray) (q : Bool) (L : List Lb) : Prop :=
  (GoodL Ls ∧ ∃ T T' : Bt, T.ok ∧ T.limbs 0 = Ls ∧ (¬ ∀ p ∈ T.ino, p.1 ≠ key) ∧ q = true ∧ T'.ok ∧ T'.ino = T.ino.filter (fun p => decide (p.1 ≠ key)) ∧ L = T'.limbs 0) ∨
  ((GoodL Ls → ∃ T : Bt, T.ok ∧ T.limbs 0 = Ls ∧ ∀ p ∈ T.ino, p.1 ≠ key) ∧ q = false ∧ L = [])
theorem CTold.same {Ls : List Lb} {key : ByteArray} {q q' : Bool} {L L' : List Lb} (h : CTold Ls key q L) (k : CTold Ls key q' L') : q = q' ∧ L = L' := by
  have hi : ∀ {S T : Bt}, S.limbs 0 = Ls → T.limbs 0 = Ls → S.ino = T.ino := fun {S T} hS hT => by
    rw [← Bt.ino_sh S, limbs_shape S T 0 (hS.trans hT.symm), Bt.ino_sh]
  rcases h with ⟨h1, T, T', _, h2, h3, rfl, h5, h6, rfl⟩ | ⟨h1, rfl, rfl⟩
  · rcases k with ⟨k1, S, S', _, k2, k3, rfl, k5, k6, rfl⟩ | ⟨k1, rfl, rfl⟩
    · refine ⟨rfl, ?_⟩
      rw [← Bt.limbs_sh T', ← Bt.limbs_sh S', one_shape T' S' h5 k5 (by rw [h6, k6, hi h2 k2])]
    · obtain ⟨S, _, k2, k3⟩ := k1 h1
      rw [hi k2 h2] at k3
      exact absurd k3 h3
  · rcases k with ⟨k1, S, S', _, k2, k3, _⟩ | ⟨k1, rfl, rfl⟩
    · obtain ⟨T, _, h2, h3⟩ := h1 k1
      rw [hi h2 k2] at h3
      exact absurd h3 k3
    · exact ⟨rfl, rfl⟩
theorem CTold.len {Ls : List Lb} {key : ByteArray} {q : Bool} {L : List Lb} (h : CTold Ls key q L) : L.length ≤ 60 := by
  rcases h with ⟨h1, T, T', _, h2, _, _, _, h6, rfl⟩ | ⟨_, _, rfl⟩
  · have e1 := T'.limbs_len 0
    have e2 := T.limbs_len 0
    rw [h2] at e2
    have e3 := congrArg List.length h6
    have e4 := List.length_filter_le (fun p : Pr => decide (p.1 ≠ key)) T.ino
    rw [Bt.ino_len] at e3 e4
    have := h1.1
    omega
  · simp

end Go.Proofs.Ytnmbnebofbdmfaa
