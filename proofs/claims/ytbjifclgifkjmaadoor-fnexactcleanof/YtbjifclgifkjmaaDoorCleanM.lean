/- A clean tree, and the nulls that keep a value from being clean. No program in this text. -/
import Derived.Test.YtbjifclgifkjmaaDoorGoodTr
import Derived.Test.YtbjifclgifkjmaaDoorCleanT0
namespace Go.Proofs.YtbjifclgifkjmaaDoor
open Go.RowKit
set_option linter.unusedVariables false

/-- Whether a list stands at u or above it. -/
def lf (N : Nat → Nd) : Nat → Int → Bool
  | 0, _ => false
  | f + 1, u => if u < 0 then false else if (N u.toNat).kind = 6 then true else lf N f (N u.toNat).up
theorem lf_neg (N : Nat → Nd) {u : Int} (h : u < 0) : ∀ f, lf N f u = false := by
  intro f
  cases f with
  | zero => rfl
  | succ f => rw [lf, if_pos h]
theorem lf_fuel {N : Nat → Nd} {n : Nat} (hp : ∀ i, i < n → (N i).up < (i : Int)) : ∀ (f : Nat) (u : Int), u < f → u < n → ∀ f' : Nat, u < f' → lf N f u = lf N f' u := by
  intro f
  induction f with
  | zero => intro u h _ f' _; rw [lf_neg N (by omega), lf_neg N (by omega)]
  | succ f ih =>
    intro u h hn f' h'
    by_cases h0 : u < 0
    · rw [lf_neg N h0, lf_neg N h0]
    · obtain ⟨g, rfl⟩ : ∃ g, f' = g + 1 := ⟨f' - 1, by omega⟩
      have := hp u.toNat (by omega)
      rw [lf, lf, ih _ (by omega) (by omega) g (by omega)]
def inL (N : Nat → Nd) (n : Nat) (u : Int) : Bool := lf N n u
theorem inL_neg (N : Nat → Nd) (n : Nat) {u : Int} (h : u < 0) : inL N n u = false := lf_neg N h n
theorem inL_step {N : Nat → Nd} {n : Nat} (hp : ∀ i, i < n → (N i).up < (i : Int)) {q : Nat} (hq : q < n) : inL N n (q : Int) = if (N q).kind = 6 then true else inL N n (N q).up := by
  unfold inL
  obtain ⟨g, rfl⟩ : ∃ g, n = g + 1 := ⟨n - 1, by omega⟩
  rw [lf, if_neg (by omega), Int.toNat_natCast]
  have := hp q hq
  rw [lf_fuel hp g (N q).up (by omega) (by omega) (g + 1) (by omega)]

/-- A null that keeps the value from being clean. -/
def BadN (N : Nat → Nd) (n k : Nat) : Prop := 0 < k ∧ k < n ∧ (N k).kind = 1 ∧ inL N n (N k).up = false

inductive Und (N : Nat → Nd) (n : Nat) : Nat → Nat → Prop
  | kid {q k : Nat} : k < n → (N k).up = (q : Int) → Und N n q k
  | deep {q c k : Nat} : c < n → (N c).up = (q : Int) → Und N n c k → Und N n q k
theorem Und.lt {N : Nat → Nd} {n q k : Nat} (h : Und N n q k) : k < n := by
  induction h with
  | kid h _ => exact h
  | deep _ _ _ ih => exact ih
theorem Und.on {N : Nat → Nd} {n q m k : Nat} (h : Und N n q m) (hk : k < n) (hu : (N k).up = (m : Int)) : Und N n q k := by
  induction h with
  | kid h1 h2 => exact .deep h1 h2 (.kid hk hu)
  | deep h1 h2 _ ih => exact .deep h1 h2 (ih hu)
theorem und_all {N : Nat → Nd} {n : Nat} (hp : ∀ i, 0 < i → i < n → 0 ≤ (N i).up ∧ (N i).up < (i : Int)) : ∀ k, 0 < k → k < n → Und N n 0 k := by
  intro k
  induction k using Nat.strongRecOn with
  | _ k ih =>
    intro h0 hn
    obtain ⟨h1, h2⟩ := hp k h0 hn
    by_cases hz : (N k).up = 0
    · exact .kid hn hz
    · exact (ih (N k).up.toNat (by omega) (by omega) (by omega)).on hn (by omega)
theorem und_list {N : Nat → Nd} {n q k : Nat} (hp : ∀ i, i < n → (N i).up < (i : Int)) (h : Und N n q k) (hl : inL N n (q : Int) = true) : inL N n (N k).up = true := by
  induction h with
  | kid _ h2 => rw [h2]; exact hl
  | deep h1 h2 _ ih =>
    apply ih
    rw [inL_step hp h1, h2, hl]
    simp
theorem und_pos {N : Nat → Nd} {n q k : Nat} (h0 : (N 0).up = -1) (h : Und N n q k) : 0 < k := by
  induction h with
  | @kid q k _ h2 =>
    rcases Nat.eq_zero_or_pos k with rfl | h
    · omega
    · exact h
  | deep _ _ _ ih => exact ih

theorem up_lt {N : Nat → Nd} {n : Nat} (hg : GoodV N n) : ∀ i, i < n → (N i).up < (i : Int) := fun i hi => by
  have hp := good_pre hg
  by_cases h0 : i = 0
  · subst h0
    have := hp.1 hi
    omega
  · exact (hp.2 i (by omega) hi).2.1
theorem par_kind {N : Nat → Nd} {n : Nat} (hg : GoodV N n) {k q : Nat} (hk : k < n) (h0 : 0 < k) (hu : (N k).up = (q : Int)) : (N q).kind = 6 ∨ (N q).kind = 7 := by
  rcases (hg.1.2.2 k hk).2.1 with ⟨e, _⟩ | ⟨_, _, _, _, h⟩
  · omega
  · have : par N k = q := by unfold par; omega
    rw [← this]
    rcases h with ⟨h, _⟩ | ⟨h, _⟩
    · exact .inl h
    · exact .inr h

theorem clean_kids {N : Nat → Nd} {n q : Nat} (hq : q < n) : (tree N n q).clean = false ↔ (N q).kind = 7 ∧ ∃ c, c ∈ kidsTo N q n ∧ ((N c).kind = 1 ∨ (tree N n c).clean = false) := by
  have hk : ∀ c, c < n → (tree N n c).kind = (N c).kind := fun c hc => by rw [tree_eq hc]; rfl
  rw [tree_eq hq, Tr.clean]
  by_cases h7 : (N q).kind = 7
  · rw [if_pos h7]
    constructor
    · intro h
      refine ⟨h7, Classical.byContradiction fun hn => ?_⟩
      have : Tr.cleans ((kidsTo N q n).map (tree N n)) = true := by
        rw [Tr.cleans_iff]
        intro x hx
        obtain ⟨c, hc, rfl⟩ := List.mem_map.1 hx
        rw [hk c (kidsTo_mem hc).2.1]
        refine ⟨fun h1 => hn ⟨c, hc, .inl h1⟩, ?_⟩
        cases h2 : (tree N n c).clean with
        | true => rfl
        | false => exact absurd ⟨c, hc, .inr h2⟩ hn
      rw [this] at h
      simp at h
    · rintro ⟨_, c, hc, h⟩
      cases hcl : Tr.cleans ((kidsTo N q n).map (tree N n)) with
      | false => rfl
      | true =>
        have := (Tr.cleans_iff _).1 hcl (tree N n c) (List.mem_map.2 ⟨c, hc, rfl⟩)
        rw [hk c (kidsTo_mem hc).2.1] at this
        rcases h with h | h
        · exact absurd h this.1
        · rw [h] at this; exact absurd this.2 (by simp)
  · rw [if_neg h7]
    simp [h7]

theorem clean_und {N : Nat → Nd} {n : Nat} (hg : GoodV N n) : ∀ d q, n - q = d → q < n → inL N n (N q).up = false → ((tree N n q).clean = false ↔ ∃ k, Und N n q k ∧ (N k).kind = 1 ∧ inL N n (N k).up = false) := by
  have hp := up_lt hg
  have hpre := good_pre hg
  intro d
  induction d using Nat.strongRecOn with
  | _ d ih =>
    intro q hd hq ho
    rw [clean_kids hq]
    constructor
    · rintro ⟨h7, c, hc, h⟩
      obtain ⟨c1, c2, c3⟩ := kidsTo_mem hc
      have hoc : inL N n (N c).up = false := by rw [c3, inL_step hp hq, if_neg (by omega), ho]
      rcases h with h | h
      · exact ⟨c, .kid c2 c3, h, hoc⟩
      · obtain ⟨k, h1, h2⟩ := (ih (n - c) (by omega) c rfl c2 hoc).1 h
        exact ⟨k, .deep c2 c3 h1, h2⟩
    · rintro ⟨k, hu, hk1, hk2⟩
      have hn6 : (N q).kind ≠ 6 := fun h6 => by
        have := und_list hp hu (by rw [inL_step hp hq, if_pos h6])
        rw [this] at hk2
        simp at hk2
      cases hu with
      | kid h1 h2 =>
        have hkq := hp k h1
        have h7 : (N q).kind = 7 := by
          rcases par_kind hg h1 (by omega) h2 with h | h
          · exact absurd h hn6
          · exact h
        exact ⟨h7, k, kidsTo_has (by omega) h1 h2, .inl hk1⟩
      | @deep _ c _ h1 h2 h3 =>
        have hcq := hp c h1
        have h7 : (N q).kind = 7 := by
          rcases par_kind hg h1 (by omega) h2 with h | h
          · exact absurd h hn6
          · exact h
        refine ⟨h7, c, kidsTo_has (by omega) h1 h2, .inr ?_⟩
        exact (ih (n - c) (by omega) c rfl h1 (by rw [h2, inL_step hp hq, if_neg hn6, ho])).2 ⟨k, h3, hk1, hk2⟩

/-- A value is clean where no null keeps it from being so. -/
theorem clean_bad {N : Nat → Nd} {n : Nat} (hg : GoodV N n) : (tree N n 0).clean = false ↔ ∃ k, BadN N n k := by
  have hpre := good_pre hg
  have h0 := hpre.1 hg.1.1
  rw [clean_und hg n 0 (by omega) hg.1.1 (inL_neg N n (by omega))]
  constructor
  · rintro ⟨k, h1, h2, h3⟩
    exact ⟨k, und_pos h0 h1, h1.lt, h2, h3⟩
  · rintro ⟨k, h1, h2, h3, h4⟩
    exact ⟨k, und_all (fun i hi hn => ⟨(hpre.2 i hi hn).1, (hpre.2 i hi hn).2.1⟩) k h1 h2, h3, h4⟩

end Go.Proofs.YtbjifclgifkjmaaDoor
