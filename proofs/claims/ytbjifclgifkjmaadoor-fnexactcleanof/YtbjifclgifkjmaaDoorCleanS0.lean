/- What lies in memory while l4CleanOf puts parts together. -/
import Derived.Test.YtbjifclgifkjmaaDoorCleanN
import Derived.Test.YtbjifclgifkjmaaDoorL1PutA
import Derived.Deep.RegionHeld3
import Derived.Deep.RegionWith
import Derived.Deep.DeepFit
namespace Go.Proofs.YtbjifclgifkjmaaDoor
open Go.RowKit
set_option linter.unusedVariables false

def ClnSaid (t : Tr) : Prop := ∀ (S : Nat → Prop) (v : Value) (w : World), TreeIs w S t v → t.cnt ≤ 2 ^ 19 → t.rises →
    Calls Tryd.prog 14 #[v] w fun e w' => ∃ (k n : Int) (tx : ByteArray) (an : Option Addr) (mn cn : Nat) (ak : Option Addr) (mk ck : Nat), e = .returned (.agg #[.int .i64 k, .int .i64 n, .string tx, .slice an mn cn, .slice ak mk ck]) ∧ TreeIs w' (fun b => S b ∨ w.heap.size ≤ b) t.cln (.agg #[.int .i64 k, .int .i64 n, .string tx, .slice an mn cn, .slice ak mk ck]) ∧ Below w.heap.size w w'

theorem Tr.rises_named (t : Tr) : t.rises → t.cln.named ∧ t.named := by
  refine Tr.ind (P := fun t => t.rises → t.cln.named ∧ t.named) (fun k n t nm ks ih => ?_) t
  intro h
  rw [Tr.rises] at h
  have hks := Tr.risess_mem.1 h.2
  have hn : Tr.nameds ks := Tr.nameds_mem.2 fun x hx => (ih x hx (hks x hx)).2
  have hnn : (Tr.mk k n t nm ks).named := by rw [Tr.named]; exact ⟨fun h7 => (h.1 h7).2.2.1, hn⟩
  refine ⟨?_, hnn⟩
  rw [Tr.cln]
  split
  · rename_i h7
    rw [Tr.named]
    refine ⟨fun _ => clnN_len _ _ (h.1 h7).2.2.1, ?_⟩
    have : ∀ l : List Tr, (∀ x ∈ l, x.cln.named) → Tr.nameds (Tr.clns l) := by
      intro l
      induction l with
      | nil => intro _; trivial
      | cons y l ihl =>
        intro hl
        rw [Tr.clns]
        split
        · exact ihl (fun x hx => hl x (by simp [hx]))
        · rw [Tr.nameds]
          exact ⟨hl y (by simp), ihl (fun x hx => hl x (by simp [hx]))⟩
    exact this ks (fun x hx => (ih x hx (hks x hx)).1)
  · exact hnn
theorem clns_len (ks : List Tr) : (Tr.clns ks).length ≤ ks.length := by
  induction ks with
  | nil => exact Nat.le_refl _
  | cons x ks ih =>
    rw [Tr.clns]
    split
    · simp; omega
    · simp; omega
theorem acc_named {nm : List ByteArray} {ks : List Tr} (hl : nm.length = ks.length) (hr : Tr.risess ks) (i : Nat) : (accT nm ks i).named ∧ (accT nm ks i).kids.length ≤ ks.length := by
  constructor
  · have := Tr.rises_named (.mk 7 0 ⟨#[]⟩ (nm.take i) (ks.take i))
    unfold accT
    rw [Tr.named]
    refine ⟨fun _ => clnN_len _ _ (by simp [hl]), ?_⟩
    have hh : ∀ l : List Tr, (∀ x ∈ l, x.rises) → Tr.nameds (Tr.clns l) := by
      intro l
      induction l with
      | nil => intro _; trivial
      | cons y l ihl =>
        intro hl
        rw [Tr.clns]
        split
        · exact ihl (fun x hx => hl x (by simp [hx]))
        · rw [Tr.nameds]
          exact ⟨(Tr.rises_named y (hl y (by simp))).1, ihl (fun x hx => hl x (by simp [hx]))⟩
    exact hh _ (fun x hx => Tr.risess_mem.1 hr x (List.mem_of_mem_take hx))
  · unfold accT
    show (Tr.clns (ks.take i)).length ≤ _
    have := clns_len (ks.take i)
    simp at this
    omega
theorem acc_all {nm : List ByteArray} {ks : List Tr} (hl : nm.length = ks.length) : accT nm ks ks.length = .mk 7 0 ⟨#[]⟩ (Tr.clnN nm ks) (Tr.clns ks) := by
  unfold accT
  rw [List.take_length, ← hl, List.take_length]

/-- What lies in memory while the parts are put. -/
def ClnSt (w : World) (S : Nat → Prop) (nm : List ByteArray) (ks : List Tr) (an : Option Addr) (cn : Nat) (m : Nat) (wr : World) : Prop :=
  ∃ (o0 o1 : Int) (o2 : ByteArray) (o3 : Option Addr) (o4 o5 : Nat) (o6 : Option Addr) (o7 o8 : Nat), FiveAt wr (w.heap.size + 1 + 1) (.int .i64 o0) (.int .i64 o1) (.string o2) (.slice o3 o4 o5) (.slice o6 o7 o8) ∧
    TreeIs wr (fun b => (S b ∧ b < w.heap.size) ∨ w.heap.size + 3 ≤ b) (accT nm ks m) (.agg #[.int .i64 o0, .int .i64 o1, .string o2, .slice o3 o4 o5, .slice o6 o7 o8]) ∧
    FiveAt wr (w.heap.size + 1) (.int .i64 0) (.int .i64 0) (.string ⟨#[]⟩) (.slice none 0 0) (.slice none 0 0) ∧ wr.cell? ⟨w.heap.size, 3, none⟩ = some (.slice an nm.length cn)

theorem cln_next {w W w2 w3 : World} {S : Nat → Prop} {nm : List ByteArray} {ks : List Tr} {an : Option Addr} {cn m : Nat} {x0 x1 x2 x3 x4 : Value} {t0 t1 : Int} {t2 : ByteArray} {t3 : Option Addr} {t4 t5 : Nat} {t6 : Option Addr} {t7 t8 : Nat} {T : Tr}
    (h5 : FiveAt W (w.heap.size + 1 + 1) x0 x1 x2 x3 x4) (hR : FiveAt W (w.heap.size + 1) (.int .i64 0) (.int .i64 0) (.string ⟨#[]⟩) (.slice none 0 0) (.slice none 0 0)) (hv : W.cell? ⟨w.heap.size, 3, none⟩ = some (.slice an nm.length cn)) (hb2 : Below W.heap.size W w2) (hb3 : Below w2.heap.size w2 w3) (hW : w.heap.size + 3 ≤ W.heap.size) (hB : Below w.heap.size w W)
    (htt : TreeIs w3 (fun b => ((S b ∧ b < w.heap.size) ∨ w.heap.size + 3 ≤ b) ∨ w2.heap.size ≤ b) T (.agg #[.int .i64 t0, .int .i64 t1, .string t2, .slice t3 t4 t5, .slice t6 t7 t8])) (hT : accT nm ks (m + 1) = T) (W' : World) (hW' : W' = ((((w3.setCell ⟨w.heap.size + 1 + 1, 0, none⟩ (.int .i64 t0)).setCell ⟨w.heap.size + 1 + 1, 1, none⟩ (.int .i64 t1)).setCell ⟨w.heap.size + 1 + 1, 2, none⟩ (.string t2)).setCell ⟨w.heap.size + 1 + 1, 3, none⟩ (.slice t3 t4 t5)).setCell ⟨w.heap.size + 1 + 1, 4, none⟩ (.slice t6 t7 t8)) :
    ClnSt w S nm ks an cn (m + 1) W' ∧ Below w.heap.size w W' ∧ w.heap.size + 3 ≤ W'.heap.size := by
  have z2 := hb2.size
  have z3 := hb3.size
  have hb : Below W.heap.size W w3 := hb2.trans (hb3.mono z2)
  obtain ⟨hF, hbb⟩ := (h5.below hb (by omega)).set (.int .i64 t0) (.int .i64 t1) (.string t2) (.slice t3 t4 t5) (.slice t6 t7 t8)
  rw [← hW'] at hF hbb
  have zz := (hbb 0).size
  refine ⟨⟨t0, t1, t2, t3, t4, t5, t6, t7, t8, hF, ?_, (hR.below hb (by omega)).but (hbb w3.heap.size) (by omega) (by omega), ?_⟩, ?_, by omega⟩
  · rw [hT]
    refine TreeIs.keep (fun b hS hlt => (hbb w3.heap.size).block b hlt ?_) (fun b hS hlt => ?_) zz _ _ htt
    · rcases hS with (⟨_, h⟩ | h) | h <;> omega
    · rcases hS with h | h
      · exact h
      · exact .inr (by omega)
  · exact ((hbb w3.heap.size).cell (by omega) (by omega)).trans ((hb.cell (by show w.heap.size < _; omega)).trans hv)
  · exact (hB.trans (hb.mono hB.size)).trans ((hbb w.heap.size).below (Nat.le_refl _) (by omega))

end Go.Proofs.YtbjifclgifkjmaaDoor
