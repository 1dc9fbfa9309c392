/- The nulls go one by one: the row stays a row of a tree; what is left at last. No program in this text. -/
import Derived.Test.YtbjifclgifkjmaaDoorCleanV
namespace Go.Proofs.YtbjifclgifkjmaaDoor
open Go.RowKit
set_option linter.unusedVariables false

section
variable {N : Nat → Nd} {n p : Nat}
theorem tau_par (h : RowOK N n) (hb : BadN N n p) {i : Nat} (hi : i < n) (hip : i ≠ p) : par (cut1 N p) (tau p i) = tau p (par N i) := by
  have hu := h.up i hi
  have hu0 := h.up0 i hi
  have hnk := no_kid h hb hi
  have hb0 := hb.1
  unfold par
  rw [cut1_tau hip hu]
  show (tauZ p (N i).up).toNat = tau p (N i).up.toNat
  unfold tauZ tau
  split <;> split <;> omega
theorem par_ne (h : RowOK N n) (hb : BadN N n p) {i : Nat} (hi : i < n) : par N i ≠ p := fun e => by
  have hu0 := h.up0 i hi
  have hnk := no_kid h hb hi
  have hb0 := hb.1
  unfold par at e
  omega
theorem anc_cut (h : RowOK N n) (hb : BadN N n p) : ∀ (m a j : Nat), itr N m j = a → j < n → j ≠ p → Anc (cut1 N p) (tau p a) (tau p j) := by
  intro m
  induction m with
  | zero => intro a j e _ _; rw [itr] at e; subst e; exact Anc.refl _ _
  | succ m ih =>
    intro a j e hj hjp
    rw [itr] at e
    apply Anc.step
    rw [tau_par h hb hj hjp]
    have hpl : par N j < n := by
      have := h.up j hj
      unfold par
      omega
    exact ih a (par N j) e hpl (par_ne h hb hj)
theorem tau_back {j : Nat} : ∃ i, tau p i = j ∧ i ≠ p ∧ (i = j ∨ i = j + 1) ∧ (j < p → i = j) ∧ (p ≤ j → i = j + 1) := by
  by_cases h : j < p
  · exact ⟨j, by unfold tau; rw [if_pos h], by omega, .inl rfl, fun _ => rfl, fun _ => by omega⟩
  · exact ⟨j + 1, by unfold tau; rw [if_neg (by omega)]; omega, by omega, .inr rfl, fun _ => by omega, fun _ => rfl⟩

theorem RowOK.cut (h : RowOK N n) (hb : BadN N n p) : RowOK (cut1 N p) (n - 1) := by
  have hp0 := hb.1
  have hpn := hb.2.1
  have c0 : cut1 N p 0 = N 0 := by unfold cut1; rw [if_pos hp0]
  refine ⟨by omega, ⟨fun _ => by rw [c0]; exact h.pre.1 h.pos, fun j j0 hj => ?_⟩, fun j j0 hj hk => ?_, by rw [c0]; exact h.n0, fun j q j0 hj hu => ?_⟩
  · obtain ⟨i, rfl, hip, hij, hlo, hhi⟩ := tau_back (p := p) (j := j)
    have hin : i < n := by omega
    have i0 : 0 < i := by omega
    obtain ⟨u1, u2, u3⟩ := h.pre.2 i i0 hin
    have hnk := no_kid h hb hin
    rw [tau_par h hb hin hip, cut1_tau hip u2]
    refine ⟨?_, ?_, ?_⟩
    · show 0 ≤ tauZ p (N i).up
      unfold tauZ
      split <;> omega
    · show tauZ p (N i).up < _
      unfold tauZ tau
      split <;> split <;> omega
    · by_cases e : i = p + 1
      · subst e
        have e1 : tau p (p + 1) - 1 = tau p (p - 1) := by unfold tau; rw [if_neg (by omega), if_pos (by omega)]; omega
        rw [e1]
        have a1 : Anc N (par N (p + 1)) p := by simpa using u3
        have a2 : Anc N (par N p) (p - 1) := (h.pre.2 p hp0 hpn).2.2
        have a3 : Anc N (par N (p + 1)) (p - 1) := by
          rcases a1.cases with e | a1
          · exact absurd e (par_ne h hb hin)
          · exact a1.trans a2
        obtain ⟨m, hm⟩ := a3
        exact anc_cut h hb m _ (p - 1) hm (by omega) (by omega)
      · have e1 : tau p i - 1 = tau p (i - 1) := by unfold tau; split <;> split <;> omega
        rw [e1]
        obtain ⟨m, hm⟩ := u3
        exact anc_cut h hb m _ (i - 1) hm (by omega) (by omega)
  · obtain ⟨i, rfl, hip, hij, hlo, hhi⟩ := tau_back (p := p) (j := j)
    have hin : i < n := by omega
    have i0 : 0 < i := by omega
    rw [tau_par h hb hin hip, cut1_tau (par_ne h hb hin) (h.up _ (by have := h.up i hin; unfold par; omega))] at hk
    rw [cut1_tau hip (h.up i hin)]
    exact h.nn i i0 hin hk
  · obtain ⟨i, rfl, hip, hij, hlo, hhi⟩ := tau_back (p := p) (j := j)
    have hin : i < n := by omega
    have i0 : 0 < i := by omega
    have hnk := no_kid h hb hin
    obtain ⟨u1, u2, _⟩ := h.pre.2 i i0 hin
    have hpr : par N i < n := by unfold par; omega
    rw [cut1_tau hip u2] at hu
    have e : tau p (par N i) = q := by
      have hu' : tauZ p (N i).up = (q : Int) := hu
      unfold tauZ at hu'
      unfold tau par
      split at hu' <;> split <;> omega
    rw [← e, cut1_tau (par_ne h hb hin) (h.up _ hpr)]
    exact h.kinds i (par N i) i0 hin (by unfold par; omega)
end

theorem clns_same {f : Nat → Tr} {a : Nat → ByteArray} : ∀ l : List Nat, (∀ c ∈ l, (f c).kind ≠ 1 ∧ (f c).cln = f c) → Tr.clns (l.map f) = l.map f ∧ Tr.clnN (l.map a) (l.map f) = l.map a := by
  intro l
  induction l with
  | nil => intro _; exact ⟨rfl, rfl⟩
  | cons c l ih =>
    intro hl
    obtain ⟨i1, i2⟩ := ih (fun x hx => hl x (by simp [hx]))
    obtain ⟨h1, h2⟩ := hl c (by simp)
    rw [List.map_cons, List.map_cons, Tr.clns, Tr.clnN, if_neg h1, if_neg h1, h2, i1, i2]
    exact ⟨rfl, rfl⟩
theorem tree_cln_same {N : Nat → Nd} {n : Nat} (h : RowOK N n) (hb : ∀ i, ¬ BadN N n i) : ∀ d k, n - k = d → k < n → inL N n (N k).up = false → (tree N n k).cln = tree N n k := by
  have hp := h.up
  intro d
  induction d using Nat.strongRecOn with
  | _ d ih =>
    intro k hd hk ho
    rw [tree_eq hk, Tr.cln]
    by_cases h7 : (N k).kind = 7
    · rw [if_pos h7]
      have hcs := clns_same (f := tree N n) (a := fun q => (N q).name) (kidsTo N k n) (fun c hc => by
        obtain ⟨c1, c2, c3⟩ := kidsTo_mem hc
        have hoc : inL N n (N c).up = false := by rw [c3, inL_step hp hk, if_neg (by omega), ho]
        refine ⟨?_, ih (n - c) (by omega) c rfl c2 hoc⟩
        rw [tree_eq c2]
        exact fun e => hb c ⟨by omega, c2, e, hoc⟩)
      rw [hcs.1]
      congr 1
      unfold kidNames
      rw [if_pos h7]
      exact hcs.2
    · rw [if_neg h7]

/-- What the row has become while its nulls go. -/
def ClnTo (N0 : Nat → Nd) (n0 : Nat) (N : Nat → Nd) (n : Nat) : Prop := RowOK N n ∧ n ≤ n0 ∧ (tree N n 0).cln = (tree N0 n0 0).cln
theorem ClnTo.start {N : Nat → Nd} {n : Nat} (hg : GoodV N n) : ClnTo N n N n :=
  ⟨⟨hg.1.1, good_pre hg, good_noNames hg, good_zero hg, fun i q h0 hi hu => par_kind hg hi h0 hu⟩, Nat.le_refl _, rfl⟩
theorem ClnTo.next {N0 N : Nat → Nd} {n0 n p : Nat} (h : ClnTo N0 n0 N n) (hb : BadN N n p) : ClnTo N0 n0 (cut1 N p) (n - 1) := by
  obtain ⟨h1, h2, h3⟩ := h
  refine ⟨h1.cut hb, by omega, ?_⟩
  have hp0 := hb.1
  have := tree_cut_cln h1 hb n 0 (by omega) h1.pos (by omega) (inL_neg N n (by have := h1.pre.1 h1.pos; omega))
  rw [show tau p 0 = 0 by unfold tau; rw [if_pos hp0]] at this
  rw [this, h3]
theorem ClnTo.done {N0 N : Nat → Nd} {n0 n : Nat} (h : ClnTo N0 n0 N n) (hb : ∀ i, ¬ BadN N n i) : (tree N0 n0 0).cln.flat ByteArray.empty (-1) 0 = (List.range n).map N := by
  obtain ⟨h1, h2, h3⟩ := h
  rw [← h3, tree_cln_same h1 hb n 0 (by omega) h1.pos (inL_neg N n (by have := h1.pre.1 h1.pos; omega))]
  exact flat_whole h1.pre h1.nn h1.pos h1.n0

end Go.Proofs.YtbjifclgifkjmaaDoor
