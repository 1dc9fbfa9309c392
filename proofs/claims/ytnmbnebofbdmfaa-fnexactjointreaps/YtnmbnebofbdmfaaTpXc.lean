/- A key cut: the specification's CutKey. -/
import Derived.Test.YtnmbnebofbdmfaaTpXs
namespace Go.Proofs.Ytnmbnebofbdmfaa
open Go.RowKit
set_option linter.unusedVariables false

theorem PAt.part {w : World} {b off c : Nat} {l : List Pr} (h : PAt w b off l) : PartT w (some ⟨b, off, none⟩) l.length c 2 (prCells l) := by
  refine ⟨pr_len l, pr_one l, .inr ⟨_, rfl, fun j u hu => ?_⟩⟩
  have e : (⟨b, off, none⟩ : Addr).add j = ⟨b, off + j, none⟩ := by unfold Addr.add; split <;> simp_all
  rw [e]
  have hj : j < l.length * 2 := by rw [← pr_len]; exact (List.getElem?_eq_some_iff.1 hu).1
  obtain ⟨p, hp⟩ : ∃ p, l[j / 2]? = some p := ⟨l[j / 2]'(by omega), List.getElem?_eq_getElem _⟩
  obtain ⟨g1, g2⟩ := pr_get l (j / 2) p hp
  obtain ⟨k1, k2⟩ := h (j / 2) p hp
  rcases (by omega : j = j / 2 * 2 ∨ j = j / 2 * 2 + 1) with e | e
  · rw [← e] at g1 k1
    rw [k1, ← g1, hu]
  · rw [← e] at g2
    rw [show off + j / 2 * 2 + 1 = off + j by omega] at k2
    rw [k2, ← g2, hu]
theorem PSrc.any {w : World} {v : Value} {l : List Pr} {X : Nat → Prop} (h : PSrc w v l X) : PSrc w v l (fun _ => True) := by
  obtain ⟨a, c, e, hc, h⟩ := h
  exact ⟨a, c, e, hc, h.imp id fun ⟨b, off, e, hb, _, hat⟩ => ⟨b, off, e, hb, trivial, hat⟩⟩
theorem PAt.below {w w' : World} {B b off : Nat} {l : List Pr} (h : PAt w b off l) (hb : Below B w w') (hB : b < B) : PAt w' b off l := fun i p hp => ⟨(hb.cell hB).trans (h i p hp).1, (hb.cell hB).trans (h i p hp).2⟩

theorem step_append_partT {w : World} {ops : Array Oper} {o : Oper} {a : Act} {K : Act → World → Prop} {Q : Exit → Act → World → Prop} {E : Prop} (hgd : o.guard = none) (s x : Operand) (t : TypeId)
    (ho : o.op = .call { callee := .builtin .append, args := #[s, x], argTypes := #[t, t] })
    (base : Nat) (e : TypeId) (i : TypeInfo) (z : Value) (size bytes : Nat) (ht : Try.prog.underlying t = some (.slice e)) (hi : Try.prog.info? e = some i) (hz : i.zero = some z)
    (hsize : i.size = size) (hby : i.bytes = bytes) (hzs : z.cells.size = size) (hsz : 0 < size)
    (v : Value) (n : Nat) (xs : List Value) (hs : a.eval s = v) (hown : w.ownsRow base e size v n xs)
    (ax : Option Addr) (m c : Nat) (news : List Value) (hx : a.eval x = .slice ax m c) (hp : PartT w ax m c size news)
    (h63 : n + m ≤ maxLen) (hbytes : (n + m) * bytes ≤ 140737488355328) (hbase : base ≤ w.heap.size)
    (h : ∀ v' w', w'.ownsRow base e size v' (n + m) (xs ++ news) → w.grownBy w' v.ownBlock → K (a.put o.dst v') w') :
    if Region.wanted o (yielded ops a.tmps) = true then Oper.wp Try.prog o a w K Q else E := by
  have hw : Region.wanted o (yielded ops a.tmps) = true := by simp [Region.wanted, hgd]
  rw [if_pos hw]
  obtain ⟨hl, h1, ⟨rfl, rfl, rfl⟩ | ⟨ad, rfl, hc⟩⟩ := hp
  · obtain rfl : news = [] := List.eq_nil_of_length_eq_zero (by simpa using hl)
    subst hsize
    have hr := run_append_owned_none (P := Try.prog) (w := w) base t o.type e i i.size ht hi v n xs hown
    unfold Oper.wp execOp
    simp only [ho, resolve, invoke, builtin, Sem.run_bind, Sem.run_pure, Result.andThen_ok, List.map_toArray, List.map_cons, List.map_nil, hs, hx, hr]
    exact h v w (by simpa using hown) ⟨rfl, rfl, rfl, Nat.le_refl _, fun _ _ _ => rfl⟩
  · obtain ⟨v', w', hr, h4, h5, _, _⟩ := run_append_own_at (P := Try.prog) w base t o.type e i z size bytes ht hi hz hsize hby hzs hsz v n xs hown ad m c news hl hc h1 h63 hbytes hbase
    unfold Oper.wp execOp
    simp only [ho, resolve, invoke, builtin, Sem.run_bind, Sem.run_pure, Result.andThen_ok, List.map_toArray, List.map_cons, List.map_nil, hs, hx, hr]
    exact h v' w' h4 h5

/-- What CutKey answers. -/
def CutGot (Ls : List Lb) (key : ByteArray) (w : World) (e : Ending) (w' : World) : Prop := ∃ (v : Value) (q : Bool) (g : Nat) (L : List Lb), e = .returned (.tuple #[.agg #[v], .bool q]) ∧ CTold Ls key q L ∧ (L ≠ [] → w.heap.size ≤ g) ∧ OwnR w' g v L.length (lbAt L) ∧ Below w.heap.size w w'

end Go.Proofs.Ytnmbnebofbdmfaa
