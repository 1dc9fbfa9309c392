/- Rows of rankings while they grow. No condition. -/
import Derived.Test.YtikgcgfigcolmaaAp3
namespace Go.Proofs.Ytikgcgfigcolmaa
open Go.RowKit
set_option linter.unusedVariables false

def vC (v : Value) : List Value := [v]
/-- A row of rankings, made by append; each has memory of its own. -/
def RBld (w : World) (B : Nat) (v : Value) (L : List DRanking) : Prop :=
  ∃ (cs : List Value) (T : Nat → Nat → Prop), cs.length = L.length ∧ OwnL vC 58 1 w B v cs ∧
    (∀ i r, L[i]? = some r → ∃ cv, cs[i]? = some cv ∧ kRanking.is true w (T i) [cv] r) ∧
    (∀ i k, i < L.length → T i k → B ≤ k ∧ k < w.heap.size ∧ v.ownBlock ≠ some k) ∧ (∀ i j k, i < L.length → j < L.length → i ≠ j → T i k → ¬ T j k)
theorem RBld.nil (w : World) (B : Nat) : RBld w B (.slice none 0 0) [] := ⟨[], fun _ _ => False, rfl, OwnL.nil _ _ _ _ _, fun i r h => by simp at h, fun i k h => by simp at h, fun i j k h => by simp at h⟩
theorem RBld.form {w : World} {B : Nat} {v : Value} {L : List DRanking} (h : RBld w B v L) : ∃ a c, v = .slice a L.length c ∧ L.length ≤ c := by
  obtain ⟨cs, T, h1, h2, _⟩ := h
  obtain ⟨a, c, e, hc⟩ := h2.form
  exact ⟨a, c, by rw [e, h1], by omega⟩
theorem RBld.below {w w' : World} {B : Nat} {v : Value} {L : List DRanking} (h : RBld w B v L) (hb : Below w.heap.size w w') : RBld w' B v L := by
  obtain ⟨cs, T, h1, h2, h3, h4, h5⟩ := h
  refine ⟨cs, T, h1, h2.below hb, fun i r hr => ?_, fun i k hi hk => ?_, h5⟩
  · obtain ⟨cv, h6, h7⟩ := h3 i r hr
    exact ⟨cv, h6, Kd.below h7 hb⟩
  · obtain ⟨h6, h7, h8⟩ := h4 i k hi hk
    exact ⟨h6, Nat.lt_of_lt_of_le h7 hb.size, h8⟩
theorem infoRkA : (Try.prog.info? 58).map (fun i => (i.zero, i.size, i.bytes)) = some (some (.agg #[.slice none 0 0]), 1, 24) := by kernel_rfl
/-- What is left as it was where a row has grown. -/
theorem RBld.grew {w w' : World} {B : Nat} {v v' : Value} {L : List DRanking} {cs : List Value} {T : Nat → Nat → Prop} {r : DRanking} {cv : Value} {S : Nat → Prop} (h1 : cs.length = L.length)
    (h3 : ∀ i r, L[i]? = some r → ∃ cv, cs[i]? = some cv ∧ kRanking.is true w (T i) [cv] r) (h4 : ∀ i k, i < L.length → T i k → B ≤ k ∧ k < w.heap.size ∧ v.ownBlock ≠ some k) (h5 : ∀ i j k, i < L.length → j < L.length → i ≠ j → T i k → ¬ T j k)
    (hr : kRanking.is true w S [cv] r) (hS : ∀ k, S k → B ≤ k ∧ k < w.heap.size ∧ v.ownBlock ≠ some k) (hST : ∀ i k, i < L.length → T i k → ¬ S k) (ho : OwnL vC 58 1 w' B v' (cs ++ [cv])) (hg : GrewO w w' v v') : RBld w' B v' (L ++ [r]) := by
  have hz := hg.kept.size
  refine ⟨cs ++ [cv], fun i k => if i = L.length then S k else T i k, by simp [h1], ho, fun i q hq => ?_, fun i k hi hk => ?_, fun i j k hi hj hn hk hk' => ?_⟩
  · by_cases e : i = L.length
    · subst e
      obtain rfl : r = q := by simpa using hq
      refine ⟨cv, by rw [List.getElem?_append_right (by omega)]; simp [h1], ?_⟩
      simp only [if_pos]
      exact hg.datum hr (fun k hk => (hS k hk).2.2)
    · have hi : i < L.length := by have := (List.getElem?_eq_some_iff.1 hq).1; simp at this; omega
      rw [List.getElem?_append_left hi] at hq
      obtain ⟨c', h6, h7⟩ := h3 i q hq
      refine ⟨c', by rw [List.getElem?_append_left (by omega)]; exact h6, ?_⟩
      simp only [if_neg e]
      exact hg.datum h7 (fun k hk => (h4 i k hi hk).2.2)
  · have key : ∀ k, B ≤ k ∧ k < w.heap.size ∧ v.ownBlock ≠ some k → B ≤ k ∧ k < w'.heap.size ∧ v'.ownBlock ≠ some k := fun k ⟨a, b, c⟩ => ⟨a, by omega, fun e => by
      rcases hg.moved with h | ⟨g, h, hge⟩
      · exact c (h ▸ e)
      · rw [h] at e
        injection e with e
        omega⟩
    by_cases e : i = L.length
    · simp only [if_pos e] at hk
      exact key k (hS k hk)
    · simp only [if_neg e] at hk
      exact key k (h4 i k (by simp at hi; omega) hk)
  · simp only [List.length_append, List.length_singleton] at hi hj
    by_cases e : i = L.length
    · simp only [if_pos e] at hk
      simp only [if_neg (show ¬ j = L.length by omega)] at hk'
      exact hST j k (by omega) hk' hk
    · simp only [if_neg e] at hk
      by_cases e' : j = L.length
      · simp only [if_pos e'] at hk'
        exact hST i k (by omega) hk hk'
      · simp only [if_neg e'] at hk'
        exact h5 i j k (by omega) (by omega) hn hk hk'
/-- append(out, r) of rankings; what r has lies at B' and behind, what was there ahead of it. -/
theorem app_rk {w : World} {ops : Array Oper} {rest : List Oper} {o : Oper} {a : Act} {Q : Exit → Act → World → Prop} (hgd : o.guard = none) (s x : Operand)
    (ho : o.op = .call { callee := .builtin .append, args := #[s, x], argTypes := #[47, 47] })
    (B : Nat) (v : Value) (L : List DRanking) (hs : a.eval s = v) {w0 w1 : World} (hown : RBld w0 B v L) (hb : Below w0.heap.size w0 w1) (hb2 : Below w1.heap.size w1 w) (b : Nat) (cv : Value) (r : DRanking) (hx : a.eval x = .slice (some ⟨b, 0, none⟩) 1 1) (hcv : cv.oneCell' = true) (hc : w.cell? ⟨b, 0, none⟩ = some cv)
    (hr : kRanking.is true w1 (fun k => w0.heap.size ≤ k) [cv] r)
    (hL : L.length < 2 ^ 30) (hbase : B ≤ w0.heap.size)
    (h : ∀ v' w', RBld w' B v' (L ++ [r]) → Below B w w' → wpList Try.prog ops Q rest (a.put o.dst v') w') : wpList Try.prog ops Q (o :: rest) a w := by
  obtain ⟨i0, hi, hz0, hz1, hz2⟩ := info_parts infoRkA
  obtain ⟨cs, T, h1, h2, h3, h4, h5⟩ := hown
  have hbw := hb.trans (hb2.mono hb.size)
  have z0 := hb.size
  have z1 := hb2.size
  refine wpList_app1 vC hgd s x 47 ho B 58 i0 _ 1 24 Try.underlying47 hi hz0 hz1 hz2 rfl (by decide) (by decide) v cs hs (h2.below hbw) b cv hx rfl (fun u hu => by simp [vC] at hu; rw [hu]; exact hcv) (fun j u hj => by
    match j, hj with
    | 0, hj => obtain rfl : cv = u := by simpa [vC] using hj
               exact hc) (by omega) (by omega) fun v' w' ho' hb' hg' => h v' w' ?_ hb'
  refine RBld.grew (S := fun k => w0.heap.size ≤ k ∧ k < w1.heap.size) h1 (fun i q hq => ?_) (fun i k hik hk => ?_) h5 (Kd.below (Kd.tight _ hr (fun k hk h' => ⟨h', hk⟩)) hb2) (fun k hk => ?_) (fun i k hik hk hS => ?_) ho' hg'.o
  · obtain ⟨c', h6, h7⟩ := h3 i q hq
    exact ⟨c', h6, Kd.below h7 hbw⟩
  · obtain ⟨h6, h7, h8⟩ := h4 i k hik hk
    exact ⟨h6, by omega, h8⟩
  · exact ⟨by omega, by omega, fun e => by have := (World.ownsRow.lt h2 k e).2; omega⟩
  · have := (h4 i k hik hk).2.1
    omega
/-- A row that has grown is a row of one's own. -/
theorem RBld.row {w : World} {B : Nat} {a : Option Addr} {n c : Nat} {L : List DRanking} (h : RBld w B (.slice a n c) L) (hl : L.length ≤ 2 ^ 30) : (kRow kRanking).is true w (fun k => B ≤ k) [.slice a n c] L := by
  obtain ⟨a', c', e, hc'⟩ := h.form
  obtain ⟨rfl, rfl, rfl⟩ : a = a' ∧ n = L.length ∧ c = c' := by simpa using e
  obtain ⟨cs, T, h1, h2, h3, h4, h5⟩ := h
  have hcells := @World.ownsRow.cells _ _ _ _ _ _ _ h2
  refine ⟨a, c, rfl, by unfold maxLen; omega, fun _ => hc', ?_⟩
  obtain ⟨_, ⟨e2, e0⟩ | ⟨g, cap, cur, e, h6, h7, h8⟩⟩ := h2
  · exact .inl (List.eq_nil_of_length_eq_zero (by omega))
  · have ea : a = some ⟨g, 0, none⟩ := by injection e
    subst ea
    refine .inr ⟨g, 0, T, fun i => [(cs[i]?).getD undef], rfl, (Array.getElem?_eq_some_iff.1 h7).1, h6, fun i x hx => ?_, fun i k hi hk => (h4 i k hi hk).1, fun _ => ⟨fun i hi hk => (h4 i g hi hk).2.2 rfl, h5⟩⟩
    obtain ⟨cv, h9, h10⟩ := h3 i x hx
    simp only [h9, Option.getD_some]
    refine ⟨h10, fun j v hj => ?_⟩
    have hj0 : j = 0 := by have := (List.getElem?_eq_some_iff.1 hj).1; simp at this; omega
    subst hj0
    obtain rfl : cv = v := by simpa using hj
    have := hcells (g := g) rfl i cv (by
      have h11 := flat_get (cs := vC) (n := 1) (fun _ => rfl) cs i 0 cv h9 (by decide)
      simpa [vC] using h11)
    rw [show ((⟨g, 0, none⟩ : Addr).add i) = ⟨g, 0 + i * kRanking.wd + 0, none⟩ by show _ = (⟨g, 0 + i * 1 + 0, none⟩ : Addr); unfold Addr.add; split <;> simp_all] at this
    exact ⟨this, fun _ => by simp [World.frozen?, h7]⟩
end Go.Proofs.Ytikgcgfigcolmaa
