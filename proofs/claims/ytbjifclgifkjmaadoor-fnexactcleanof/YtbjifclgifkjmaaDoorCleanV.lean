/- The nulls that keep a value from being clean go one by one: what is left is the clean tree's own row. No program in this text. -/
import Derived.Test.YtbjifclgifkjmaaDoorCleanM
import Derived.Test.YtbjifclgifkjmaaDoorPutM
namespace Go.Proofs.YtbjifclgifkjmaaDoor
open Go.RowKit
set_option linter.unusedVariables false

def Tr.clnN : List ByteArray → List Tr → List ByteArray
  | a :: nm, x :: l => if x.kind = 1 then Tr.clnN nm l else a :: Tr.clnN nm l
  | [], _ => []
  | _, [] => []
mutual
/-- The tree without the nulls of maps outside of lists. -/
def Tr.cln : Tr → Tr
  | .mk k n t nm ks => if k = 7 then .mk k n t (Tr.clnN nm ks) (Tr.clns ks) else .mk k n t nm ks
def Tr.clns : List Tr → List Tr
  | [] => []
  | x :: l => if x.kind = 1 then Tr.clns l else x.cln :: Tr.clns l
end
theorem Tr.cln_kind (t : Tr) : t.cln.kind = t.kind := by
  obtain ⟨k, n, tx, nm, ks⟩ := t
  rw [Tr.cln]
  split <;> rfl

/-- A row of nodes in a tree's order whose parts stand below lists and maps. -/
structure RowOK (N : Nat → Nd) (n : Nat) : Prop where
  pos : 0 < n
  pre : Pre N n
  nn : NoNames N n
  n0 : (N 0).name = ByteArray.empty
  kinds : ∀ i q : Nat, 0 < i → i < n → (N i).up = (q : Int) → (N q).kind = 6 ∨ (N q).kind = 7
theorem RowOK.up {N : Nat → Nd} {n : Nat} (h : RowOK N n) : ∀ i, i < n → (N i).up < (i : Int) := fun i hi => by
  by_cases h0 : i = 0
  · subst h0
    have := h.pre.1 hi
    omega
  · exact (h.pre.2 i (by omega) hi).2.1
theorem RowOK.up0 {N : Nat → Nd} {n : Nat} (h : RowOK N n) : ∀ i, i < n → -1 ≤ (N i).up := fun i hi => by
  by_cases h0 : i = 0
  · subst h0
    have := h.pre.1 hi
    omega
  · have := (h.pre.2 i (by omega) hi).1
    omega

def cut1 (N : Nat → Nd) (p i : Nat) : Nd := if i < p then N i else mvN (p + 1) (-1) (N (i + 1))
def tau (p i : Nat) : Nat := if i < p then i else i - 1
def tau2 (p i : Nat) : Nat := if i ≤ p then i else i - 1
def tauZ (p : Nat) (u : Int) : Int := if (p : Int) < u then u - 1 else u
theorem cut1_tau {N : Nat → Nd} {p i : Nat} (hi : i ≠ p) (hu : (N i).up < (i : Int)) : cut1 N p (tau p i) = { N i with up := tauZ p (N i).up } := by
  unfold cut1 tau tauZ
  by_cases h : i < p
  · rw [if_pos h, if_pos h, if_neg (by omega)]
  · rw [if_neg h, if_neg (by omega), show i - 1 + 1 = i by omega]
    unfold mvN
    by_cases h2 : (p : Int) < (N i).up
    · rw [if_pos (by omega), if_pos h2]
      rfl
    · rw [if_neg (by omega), if_neg h2]
theorem putL_cut1 (N : Nat → Nd) (n p : Nat) (hp : p < n) : putL N n p (p + 1) [] = (List.range (n - 1)).map (cut1 N p) := by
  unfold putL
  rw [List.append_nil, List.map_map]
  apply List.ext_getElem
  · simp
    omega
  · intro i h1 h2
    simp only [List.length_map, List.length_range] at h2
    rw [List.getElem_map, List.getElem_range]
    by_cases hi : i < p
    · rw [List.getElem_append_left (by simpa using hi)]
      simp [cut1, hi]
    · rw [List.getElem_append_right (by simp; omega)]
      simp only [List.length_map, List.length_range, List.getElem_map, List.getElem_range, cut1, if_neg hi, Function.comp_apply]
      rw [show p + 1 + (i - p) = i + 1 by omega]
      congr 1
      simp
      omega

section
variable {N : Nat → Nd} {n p : Nat}
theorem no_kid (h : RowOK N n) (hb : BadN N n p) {j : Nat} (hj : j < n) : (N j).up ≠ (p : Int) := fun e => by
  have h0 : 0 < j := by
    rcases Nat.eq_zero_or_pos j with rfl | h'
    · have := h.pre.1 hj; omega
    · exact h'
  have := h.kinds j p h0 hj e
  have := hb.2.2.1
  omega
theorem kids_cut (h : RowOK N n) (hb : BadN N n p) {k : Nat} (hk : k ≠ p) : ∀ j, j ≤ n → kidsTo (cut1 N p) (tau p k) (tau2 p j) = ((kidsTo N k j).filter (fun c => decide (c ≠ p))).map (tau p) := by
  intro j
  induction j with
  | zero => intro _; simp [tau2, kidsTo]
  | succ j ih =>
    intro hj
    have ih := ih (by omega)
    by_cases e : j = p
    · subst e
      rw [show tau2 j (j + 1) = j by simp [tau2], kidsTo]
      rw [show tau2 j j = j by simp [tau2]] at ih
      rw [ih]
      split <;> simp
    · have hnk := no_kid h hb (show j < n by omega)
      have hu := h.up j (by omega)
      have hu0 := h.up0 j (by omega)
      have e1 : tau2 p (j + 1) = tau p j + 1 := by unfold tau2 tau; split <;> split <;> omega
      have e2 : tau2 p j = tau p j := by unfold tau2 tau; split <;> split <;> omega
      rw [e2] at ih
      rw [e1, kidsTo, kidsTo, cut1_tau e hu, ih]
      have hc : (tau p k < tau p j ∧ tauZ p (N j).up = (tau p k : Int)) ↔ (k < j ∧ (N j).up = (k : Int)) := by
        unfold tau tauZ
        split <;> split <;> split <;> omega
      by_cases c : k < j ∧ (N j).up = (k : Int)
      · rw [if_pos (hc.2 c), if_pos c]
        simp [e]
      · rw [if_neg (fun x => c (hc.1 x)), if_neg c]
theorem kids_whole (h : RowOK N n) (hb : BadN N n p) {k : Nat} (hk : k ≠ p) : kidsTo (cut1 N p) (tau p k) (n - 1) = ((kidsTo N k n).filter (fun c => decide (c ≠ p))).map (tau p) := by
  have := kids_cut h hb hk n (Nat.le_refl _)
  rwa [show tau2 p n = n - 1 by have := hb.2.1; unfold tau2; rw [if_neg (by omega)]] at this
theorem tau_lt (hb : BadN N n p) {k : Nat} (hk : k ≠ p) (hn : k < n) : tau p k < n - 1 := by
  have := hb.2.1
  unfold tau
  split <;> omega

theorem tree_cut_same (h : RowOK N n) (hb : BadN N n p) : ∀ d k, n - k = d → k < n → k ≠ p → ¬ Und N n k p → tree (cut1 N p) (n - 1) (tau p k) = tree N n k := by
  intro d
  induction d using Nat.strongRecOn with
  | _ d ih =>
    intro k hd hk hkp hu
    have hf : (kidsTo N k n).filter (fun c => decide (c ≠ p)) = kidsTo N k n := by
      rw [List.filter_eq_self]
      intro c hc
      obtain ⟨c1, c2, c3⟩ := kidsTo_mem hc
      have : c ≠ p := fun e => by subst e; exact hu (.kid c2 c3)
      simpa using this
    have hks := kids_whole h hb hkp
    rw [hf] at hks
    have hat := cut1_tau (N := N) hkp (h.up k hk)
    rw [tree_eq (tau_lt hb hkp hk), tree_eq hk, hks, hat]
    have hcs : ∀ c ∈ kidsTo N k n, tree (cut1 N p) (n - 1) (tau p c) = tree N n c ∧ (cut1 N p (tau p c)).name = (N c).name := fun c hc => by
      obtain ⟨c1, c2, c3⟩ := kidsTo_mem hc
      have hcp : c ≠ p := fun e => by subst e; exact hu (.kid c2 c3)
      refine ⟨ih (n - c) (by omega) c rfl c2 hcp (fun hx => hu (.deep c2 c3 hx)), ?_⟩
      rw [cut1_tau hcp (h.up c c2)]
    congr 1
    · unfold kidNames
      rw [hat]
      show (if (N k).kind = 7 then _ else _) = _
      split
      · rw [List.map_map]
        exact List.map_congr_left fun c hc => (hcs c hc).2
      · rfl
    · rw [List.map_map]
      exact List.map_congr_left fun c hc => (hcs c hc).1

theorem clns_cut {f g : Nat → Tr} {a b : Nat → ByteArray} (s : Nat → Nat) (hp : (f p).kind = 1) : ∀ l : List Nat, (∀ c ∈ l, c ≠ p → (g (s c)).cln = (f c).cln ∧ b (s c) = a c) →
    Tr.clns (((l.filter (fun c => decide (c ≠ p))).map s).map g) = Tr.clns (l.map f) ∧ Tr.clnN (((l.filter (fun c => decide (c ≠ p))).map s).map b) (((l.filter (fun c => decide (c ≠ p))).map s).map g) = Tr.clnN (l.map a) (l.map f) := by
  intro l
  induction l with
  | nil => intro _; exact ⟨rfl, rfl⟩
  | cons c l ih =>
    intro hl
    obtain ⟨i1, i2⟩ := ih (fun x hx => hl x (by simp [hx]))
    by_cases e : c = p
    · subst e
      simp only [List.filter_cons, ne_eq, not_true_eq_false, decide_false, Bool.false_eq_true, if_false, List.map_cons]
      rw [Tr.clns, Tr.clnN, if_pos hp, if_pos hp]
      exact ⟨i1, i2⟩
    · obtain ⟨h1, h2⟩ := hl c (by simp) e
      have hk : (g (s c)).kind = (f c).kind := by rw [← Tr.cln_kind, h1, Tr.cln_kind]
      simp only [List.filter_cons, ne_eq, e, not_false_eq_true, decide_true, if_true, List.map_cons]
      rw [Tr.clns, Tr.clns, Tr.clnN, Tr.clnN, hk]
      by_cases h3 : (f c).kind = 1
      · rw [if_pos h3, if_pos h3, if_pos h3, if_pos h3]
        exact ⟨i1, i2⟩
      · rw [if_neg h3, if_neg h3, if_neg h3, if_neg h3, h1, h2]
        exact ⟨congrArg _ i1, congrArg _ i2⟩

theorem tree_cut_cln (h : RowOK N n) (hb : BadN N n p) : ∀ d k, n - k = d → k < n → k ≠ p → inL N n (N k).up = false → (tree (cut1 N p) (n - 1) (tau p k)).cln = (tree N n k).cln := by
  have hp := h.up
  intro d
  induction d using Nat.strongRecOn with
  | _ d ih =>
    intro k hd hk hkp ho
    by_cases h7 : (N k).kind = 7
    · have hat := cut1_tau (N := N) hkp (h.up k hk)
      have hks := kids_whole h hb hkp
      rw [tree_eq (tau_lt hb hkp hk), tree_eq hk, hks, hat]
      have hcs := clns_cut (p := p) (f := tree N n) (g := tree (cut1 N p) (n - 1)) (a := fun q => (N q).name) (b := fun q => (cut1 N p q).name) (tau p) (by rw [tree_eq hb.2.1]; exact hb.2.2.1) (kidsTo N k n) (fun c hc hcp => by
        obtain ⟨c1, c2, c3⟩ := kidsTo_mem hc
        refine ⟨ih (n - c) (by omega) c rfl c2 hcp ?_, ?_⟩
        · rw [c3, inL_step hp hk, if_neg (by omega), ho]
        · show (cut1 N p (tau p c)).name = (N c).name
          rw [cut1_tau hcp (h.up c c2)])
      rw [Tr.cln, Tr.cln]
      show (if (N k).kind = 7 then _ else _) = _
      rw [if_pos h7, if_pos h7, hcs.1]
      congr 1
      unfold kidNames
      rw [hat]
      show Tr.clnN (if (N k).kind = 7 then _ else _) _ = _
      rw [if_pos h7, if_pos h7]
      exact hcs.2
    · have hnu : ¬ Und N n k p := fun hx => by
        have hn6 : (N k).kind ≠ 6 := fun h6 => by
          have := und_list hp hx (by rw [inL_step hp hk, if_pos h6])
          rw [hb.2.2.2] at this
          simp at this
        have : ∃ c, 0 < c ∧ c < n ∧ (N c).up = (k : Int) := by
          cases hx with
          | kid h1 h2 => exact ⟨p, hb.1, h1, h2⟩
          | @deep _ c _ h1 h2 _ =>
            have := hp c h1
            exact ⟨c, by omega, h1, h2⟩
        obtain ⟨c, c0, c1, c2⟩ := this
        have := h.kinds c k c0 c1 c2
        omega
      rw [tree_cut_same h hb d k hd hk hkp hnu]
end

end Go.Proofs.YtbjifclgifkjmaaDoor
