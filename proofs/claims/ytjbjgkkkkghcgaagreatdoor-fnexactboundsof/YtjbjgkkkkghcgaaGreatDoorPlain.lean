/- Plain mathematics of nodes: chains of parts, places, depths, and the text that nodes tell. No condition. -/
import Derived.Lib.ItoaNum
import GoSem.Op.String
namespace Go.Proofs.YtjbjgkkkkghcgaaGreatDoor

/-- A node, as data. -/
structure Nd where
  kind : Int
  num : Int
  text : ByteArray
  name : ByteArray
  up : Int

/-- The number of the node that i is a part of. -/
def par (N : Nat → Nd) (i : Nat) : Nat := (N i).up.toNat
def itr (N : Nat → Nd) : Nat → Nat → Nat
  | 0, i => i
  | m + 1, i => itr N m (par N i)
/-- a is i, or one around it. -/
def Anc (N : Nat → Nd) (a i : Nat) : Prop := ∃ m, itr N m i = a

theorem Anc.refl (N : Nat → Nd) (i : Nat) : Anc N i i := ⟨0, rfl⟩
theorem Anc.step {N : Nat → Nd} {a i : Nat} (h : Anc N a (par N i)) : Anc N a i := by
  obtain ⟨m, hm⟩ := h
  exact ⟨m + 1, hm⟩
theorem Anc.cases {N : Nat → Nd} {a i : Nat} (h : Anc N a i) : a = i ∨ Anc N a (par N i) := by
  obtain ⟨m, hm⟩ := h
  cases m with
  | zero => exact .inl hm.symm
  | succ m => exact .inr ⟨m, hm⟩
theorem itr_add (N : Nat → Nd) (m k i : Nat) : itr N (m + k) i = itr N k (itr N m i) := by
  induction m generalizing i with
  | zero => rw [Nat.zero_add]; rfl
  | succ m ih =>
    rw [show m + 1 + k = (m + k) + 1 by omega]
    exact ih (par N i)
theorem Anc.trans {N : Nat → Nd} {a b c : Nat} (h : Anc N a b) (k : Anc N b c) : Anc N a c := by
  obtain ⟨m, rfl⟩ := h
  obtain ⟨j, rfl⟩ := k
  exact ⟨j + m, itr_add N j m c⟩

/-- The first k nodes lie in a tree's order. -/
def Pre (N : Nat → Nd) (k : Nat) : Prop :=
  (0 < k → (N 0).up = -1) ∧ ∀ i, 0 < i → i < k → 0 ≤ (N i).up ∧ (N i).up < i ∧ Anc N (par N i) (i - 1)

theorem Pre.mono {N : Nat → Nd} {k j : Nat} (h : Pre N k) (hj : j ≤ k) : Pre N j := ⟨fun h0 => h.1 (by omega), fun i h0 hi => h.2 i h0 (by omega)⟩
theorem Pre.par_zero {N : Nat → Nd} {k : Nat} (h : Pre N k) (h0 : 0 < k) : par N 0 = 0 := by unfold par; rw [h.1 h0]; rfl
theorem Pre.par_lt {N : Nat → Nd} {k i : Nat} (h : Pre N k) (h0 : 0 < i) (hi : i < k) : par N i < i := by
  have := h.2 i h0 hi
  unfold par
  omega
theorem Pre.par_eq {N : Nat → Nd} {k i : Nat} (h : Pre N k) (h0 : 0 < i) (hi : i < k) : (N i).up = par N i := by
  have := h.2 i h0 hi
  unfold par
  omega

theorem Pre.anc_le {N : Nat → Nd} {k : Nat} (h : Pre N k) : ∀ i, i < k → ∀ a, Anc N a i → a ≤ i := by
  intro i
  induction i using Nat.strongRecOn with
  | _ i ih =>
    intro hi a ha
    rcases ha.cases with rfl | ha
    · exact Nat.le_refl _
    · by_cases h0 : i = 0
      · subst h0
        obtain ⟨m, hm⟩ := ha
        rw [h.par_zero hi] at hm
        have : ∀ m, itr N m 0 = 0 := by
          intro m
          induction m with
          | zero => rfl
          | succ m ihm => show itr N m (par N 0) = 0; rw [h.par_zero hi]; exact ihm
        rw [this m] at hm
        omega
      · have hp := h.par_lt (by omega) hi
        have := ih _ hp (by omega) a ha
        omega

/-- Whatever lies between one and one within it lies within it, too. -/
theorem Pre.anc_between {N : Nat → Nd} {k s i : Nat} (h : Pre N k) (hs : s ≤ i) : ∀ d j, j = i + d → j < k → Anc N s j → Anc N s i := by
  intro d
  induction d with
  | zero => intro j hj _ ha; subst hj; exact ha
  | succ d ih =>
    intro j hj hk ha
    rcases ha.cases with rfl | ha
    · omega
    · exact ih (j - 1) (by omega) (by omega) (ha.trans (h.2 j (by omega) hk).2.2)

theorem Pre.le_par {N : Nat → Nd} {k s i j : Nat} (h : Pre N k) (ha : Anc N s j) (hsi : s < i) (hij : i ≤ j) (hj : j < k) : s ≤ par N i := by
  have := h.anc_between (s := s) (i := i) (by omega) (j - i) j (by omega) hj ha
  rcases this.cases with e | hp
  · omega
  · exact h.anc_le (par N i) (by have := h.par_lt (i := i) (by omega) (by omega); omega) s hp

/-- How many lists and maps lie around i, and i itself. -/
def holdsB (k : Int) : Bool := decide (k = 6) || decide (k = 7)
def hN (N : Nat → Nd) (i : Nat) : Nat := if holdsB (N i).kind then 1 else 0
def dep (N : Nat → Nd) : Nat → Nat → Nat
  | 0, i => hN N i
  | f + 1, i => hN N i + (if i = 0 then 0 else dep N f (par N i))
def depth (N : Nat → Nd) (i : Nat) : Nat := dep N i i

theorem dep_fuel {N : Nat → Nd} {k : Nat} (h : Pre N k) : ∀ i, i < k → ∀ f, i ≤ f → dep N f i = dep N i i := by
  intro i
  induction i using Nat.strongRecOn with
  | _ i ih =>
    intro hi f hf
    by_cases h0 : i = 0
    · subst h0
      cases f <;> simp [dep]
    · have hp := h.par_lt (by omega) hi
      obtain ⟨j, rfl⟩ : ∃ j, i = j + 1 := ⟨i - 1, by omega⟩
      cases f with
      | zero => omega
      | succ f =>
        simp only [dep, if_neg h0]
        rw [ih _ hp (by omega) f (by omega), ih _ hp (by omega) j (by omega)]
theorem depth_zero (N : Nat → Nd) : depth N 0 = hN N 0 := rfl
theorem depth_pos {N : Nat → Nd} {k i : Nat} (h : Pre N k) (h0 : 0 < i) (hi : i < k) : depth N i = hN N i + depth N (par N i) := by
  have hp := h.par_lt h0 hi
  unfold depth
  obtain ⟨j, rfl⟩ : ∃ j, i = j + 1 := ⟨i - 1, by omega⟩
  show hN N (j + 1) + (if j + 1 = 0 then 0 else dep N j (par N (j + 1))) = _
  rw [if_neg (by omega), dep_fuel h _ (by omega) j (by omega)]

theorem hN_le (N : Nat → Nd) (i : Nat) : hN N i ≤ 1 := by unfold hN; split <;> omega
theorem depth_le {N : Nat → Nd} {k : Nat} (h : Pre N k) : ∀ i, i < k → depth N i ≤ i + 1 := by
  intro i
  induction i using Nat.strongRecOn with
  | _ i ih =>
    intro hi
    have := hN_le N i
    by_cases h0 : i = 0
    · subst h0; rw [depth_zero]; omega
    · have hp := h.par_lt (by omega) hi
      rw [depth_pos h (by omega) hi]
      have := ih _ hp (by omega)
      omega

end Go.Proofs.YtjbjgkkkkghcgaaGreatDoor
