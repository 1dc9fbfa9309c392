/- append of one at a step of a statement that draws its order, whatever the row holds. No condition. -/
import Derived.Test.YtikgcgfigcolmaaAp2
import Derived.Deep.RegionLaw
import Derived.Deep.AppendLies
namespace Go.Proofs.Ytikgcgfigcolmaa
open Go.RowKit
set_option linter.unusedVariables false

theorem step_app1 {α : Type} (cs : α → List Value) {w : World} {ops : Array Oper} {o : Oper} {a : Act} {K : Act → World → Prop} {Q : Exit → Act → World → Prop} {E : Prop} (hgd : o.guard = none) (s x : Operand) (t : TypeId)
    (ho : o.op = .call { callee := .builtin .append, args := #[s, x], argTypes := #[t, t] })
    (B : Nat) (e : TypeId) (i : TypeInfo) (z : Value) (wd bytes : Nat) (ht : Try.prog.underlying t = some (.slice e)) (hi : Try.prog.info? e = some i) (hz : i.zero = some z)
    (hsize : i.size = wd) (hby : i.bytes = bytes) (hzs : z.cells.size = wd) (hsz : 0 < wd) (hb64 : bytes ≤ 256)
    (v : Value) (l : List α) (hs : a.eval s = v) (hown : OwnL cs e wd w B v l) (b : Nat) (y : α) (hx : a.eval x = .slice (some ⟨b, 0, none⟩) 1 1)
    (hlen : (cs y).length = wd) (h1 : ∀ u ∈ cs y, u.oneCell' = true) (hc : ∀ j u, (cs y)[j]? = some u → w.cell? ⟨b, j, none⟩ = some u)
    (hL : l.length < 2 ^ 30) (hbase : B ≤ w.heap.size)
    (h : ∀ g cap w', OwnL cs e wd w' B (.slice (some ⟨g, 0, none⟩) (l.length + 1) cap) (l ++ [y]) → GrewO w w' v (.slice (some ⟨g, 0, none⟩) (l.length + 1) cap) → K (a.put o.dst (.slice (some ⟨g, 0, none⟩) (l.length + 1) cap)) w') : if Region.wanted o (yielded ops a.tmps) = true then Oper.wp Try.prog o a w K Q else E := by
  have hbm : (l.length + 1) * bytes ≤ 140737488355328 := by
    have := Nat.mul_le_mul (show l.length + 1 ≤ 2 ^ 30 by omega) hb64
    omega
  refine step_append_lies w hgd s x t ho B e i z wd bytes ht hi hz hsize hby hzs hsz v l.length (l.flatMap cs) hs hown ⟨b, 0, none⟩ 1 1 (cs y) hx (by rw [hlen, Nat.one_mul]) (fun j u hj => ?_) h1 (by decide) (by unfold maxLen; omega) hbm hbase _ rfl fun g cap w' h2 h3 h4 _ => h g cap w' ?_ ?_
  · rw [show ((⟨b, 0, none⟩ : Addr).add j) = ⟨b, j, none⟩ by unfold Addr.add; split <;> simp_all]
    exact hc j u hj
  · unfold OwnL
    rw [List.length_append, List.flatMap_append]
    simpa using h2
  · refine ⟨⟨h3.os, h3.tape, h3.output, h3.size, fun k hk hn => h3.block k hk (fun e => hn e.symm)⟩, ?_⟩
    rcases h4 with e | e
    · exact .inl e.symm
    · exact .inr ⟨g, rfl, by omega⟩
end Go.Proofs.Ytikgcgfigcolmaa
