/- A tree without one of its parts: the specification's l3Cut. -/
import Derived.Test.YtbjifclgifkjmaaDoorL3With0
import Derived.Deep.RegionLaw
import Derived.Deep.AppendLies
import Derived.Maps.AppendAt
namespace Go.Proofs.YtbjifclgifkjmaaDoor
open Go.RowKit
set_option linter.unusedVariables false

/-- AT A STEP OF A REGION THAT DRAWS: cells that lie somewhere, none among them too, are put to an own row. -/
theorem step_append_at {w : World} {ops : Array Oper} {o : Oper} {a : Act} {K : Act → World → Prop} {Q : Exit → Act → World → Prop} {E : Prop} (hgd : o.guard = none) (s x : Operand) (t : TypeId)
    (ho : o.op = .call { callee := .builtin .append, args := #[s, x], argTypes := #[t, t] })
    (base : Nat) (e : TypeId) (i : TypeInfo) (z : Value) (size bytes : Nat) (ht : Tryd.prog.underlying t = some (.slice e)) (hi : Tryd.prog.info? e = some i) (hz : i.zero = some z)
    (hsize : i.size = size) (hby : i.bytes = bytes) (hzs : z.cells.size = size) (hsz : 0 < size)
    (v : Value) (n : Nat) (xs : List Value) (hs : a.eval s = v) (hown : w.ownsRow base e size v n xs)
    (ax : Option Addr) (ad : Addr) (m c : Nat) (news : List Value) (hx : a.eval x = .slice ax m c) (hax : ax = some ad) (hl : news.length = m * size) (hnews : ∀ j u, news[j]? = some u → w.cell? (ad.add j) = some u) (h1 : ∀ u ∈ news, u.oneCell' = true)
    (h63 : n + m ≤ maxLen) (hbytes : (n + m) * bytes ≤ 140737488355328) (hbase : base ≤ w.heap.size)
    (h : ∀ v' w', w'.ownsRow base e size v' (n + m) (xs ++ news) → w.grownBy w' v.ownBlock → K (a.put o.dst v') w') :
    if Region.wanted o (yielded ops a.tmps) = true then Oper.wp Tryd.prog o a w K Q else E := by
  have hw : Region.wanted o (yielded ops a.tmps) = true := by simp [Region.wanted, hgd]
  rw [if_pos hw]
  subst hax
  obtain ⟨v', w', hr, h4, h5, _, _⟩ := run_append_own_at (P := Tryd.prog) w base t o.type e i z size bytes ht hi hz hsize hby hzs hsz v n xs hown ad m c news hl hnews h1 h63 hbytes hbase
  unfold Oper.wp execOp
  simp only [ho, resolve, invoke, builtin, Sem.run_bind, Sem.run_pure, Result.andThen_ok, List.map_toArray, List.map_cons, List.map_nil, hs, hx, hr]
  exact h v' w' h4 h5

def cutK : Tr → Nat → Tr
  | .mk k n t nm ks, i => .mk k n t (if k = 7 then nm.eraseIdx i else nm) (ks.eraseIdx i)

theorem five_take (l : List Five) (i : Nat) : fiveCells (l.take i) ++ fiveCells (l.drop (i + 1)) = fiveCells (l.eraseIdx i) := by
  rw [List.eraseIdx_eq_take_drop_succ]
  simp [fiveCells]
theorem five_ones {l l' : List Five} (h : ∀ u ∈ fiveCells l, u.oneCell' = true) (hs : ∀ f ∈ l', f ∈ l) : ∀ u ∈ fiveCells l', u.oneCell' = true := by
  intro u hu
  simp only [fiveCells, List.mem_flatMap] at hu
  obtain ⟨f, hf, hu⟩ := hu
  exact h u (by simp only [fiveCells, List.mem_flatMap]; exact ⟨f, hs f hf, hu⟩)

theorem row_form {w : World} {B : Nat} {e : TypeId} {size n : Nat} {v : Value} {xs : List Value} (h : w.ownsRow B e size v n xs) : ∃ a c, v = .slice a n c := by
  rcases h.2 with ⟨rfl, e⟩ | ⟨g, cap, cur, rfl, _⟩
  · exact ⟨none, 0, by rw [e]⟩
  · exact ⟨_, _, rfl⟩

theorem cut_news {w W X : World} {row : Option Nat} {g o : Nat} {cs : List Value} (h : ∀ (q : Nat) (u : Value), cs[q]? = some u → w.cell? ((⟨g, o, none⟩ : Addr).add q) = some u) (hb : Below w.heap.size w W) (hg : W.grownBy X row) (hz : w.heap.size ≤ W.heap.size) (hl : g < w.heap.size) (hn : some g ≠ row) : ∀ (q : Nat) (u : Value), cs[q]? = some u → X.cell? ((⟨g, o, none⟩ : Addr).add q) = some u := by
  intro q u hu
  have := h q u hu
  have ea : (⟨g, o, none⟩ : Addr).add q = ⟨g, o + q, none⟩ := by unfold Addr.add; split <;> simp_all
  rw [ea] at this ⊢
  rw [hg.cell_far ⟨g, o + q, none⟩ (by show g < _; omega) hn, hb.cell hl]
  exact this
theorem cut_own {X : World} {B n i : Nat} {e : TypeId} {z : Nat} {v : Value} {l : List Five} (h : X.ownsRow B e z v (0 + i + (n - (i + 1))) ([] ++ fiveCells (l.take i) ++ fiveCells (l.drop (i + 1)))) (hi : i < n) : X.ownsRow B e z v (n - 1) (fiveCells (l.eraseIdx i)) := by
  rw [List.nil_append, five_take, show 0 + i + (n - (i + 1)) = n - 1 by omega] at h
  exact h

theorem FiveAt.set3 {w : World} {B : Nat} {x0 x1 x2 x3 x4 : Value} (h : FiveAt w B x0 x1 x2 x3 x4) (y : Value) : FiveAt (w.setCell ⟨B, 3, none⟩ y) B x0 x1 x2 y x4 := by
  obtain ⟨⟨a0, a1, a2, a3, a4⟩, f0, f1, f2, f3, f4⟩ := h
  have e : (w.cell? ⟨B, 3, none⟩).isSome = true := by rw [a3]; rfl
  refine ⟨⟨?_, ?_, ?_, ?_, ?_⟩, ?_⟩
  · rw [cell_set e, if_neg (by omega), a0]
  · rw [cell_set e, if_neg (by omega), a1]
  · rw [cell_set e, if_neg (by omega), a2]
  · rw [cell_set e, if_pos rfl]
  · rw [cell_set e, if_neg (by omega), a4]
  · simp only [World.frozen?_setCell]
    exact ⟨f0, f1, f2, f3, f4⟩
/-- What lies in memory behind two appends to a new row and one store ahead of it. -/
theorem cut_facts {w W0 w6 w7 : World} {E : Obj} {H : Nat} {v6 : Value} {e : TypeId} {z n6 n7 : Nat} {xs6 xs7 : List Value} {v7 : Value} (hs0 : W0.heap.size = H) (hB0 : Below w.heap.size w W0) (hwH : w.heap.size + 2 ≤ H)
    (hg6 : ((W0.alloc E).drew).grownBy w6 (some H)) (hown6 : w6.ownsRow H e z v6 n6 xs6) (hg7 : w6.grownBy w7 v6.ownBlock) (hown7 : w7.ownsRow H e z v7 n7 xs7) :
    (∀ {b : Nat} {x0 x1 x2 x3 x4 : Value}, b < H → FiveAt W0 b x0 x1 x2 x3 x4 → FiveAt w7 b x0 x1 x2 x3 x4) ∧ (∀ b, b < H → w7.heap[b]? = W0.heap[b]?) ∧ H ≤ w7.heap.size ∧ Below w.heap.size w w7 := by
  have z6 := hg6.size
  have z7 := hg7.size
  have ze : ((W0.alloc E).drew).heap.size = H + 1 := by show (W0.alloc E).heap.size = _; rw [World.size_alloc, hs0]
  have e1 : ∀ b, b < H → ((W0.alloc E).drew).heap[b]? = W0.heap[b]? := fun b hb => heap_alloc_old W0 E (by omega)
  have e2 : ∀ b, b < H → w6.heap[b]? = W0.heap[b]? := fun b hb => (hg6.block b (by omega) (fun e => by injection e with e; omega)).trans (e1 b hb)
  have e3 : ∀ b, b < H → w7.heap[b]? = W0.heap[b]? := fun b hb => (hg7.block b (by omega) (fun e => by have := own_lt hown6 e; omega)).trans (e2 b hb)
  refine ⟨fun {b x0 x1 x2 x3 x4} hb h => ?_, e3, by omega, ?_⟩
  · have c : ∀ o, w7.cell? ⟨b, o, none⟩ = W0.cell? ⟨b, o, none⟩ := fun o => World.cell?_of_block (e3 b hb)
    have f : ∀ o, w7.frozen? ⟨b, o, none⟩ = W0.frozen? ⟨b, o, none⟩ := fun o => World.frozen?_of_block (e3 b hb)
    obtain ⟨⟨a0, a1, a2, a3, a4⟩, f0, f1, f2, f3, f4⟩ := h
    exact ⟨⟨(c _).trans a0, (c _).trans a1, (c _).trans a2, (c _).trans a3, (c _).trans a4⟩, (f _).trans f0, (f _).trans f1, (f _).trans f2, (f _).trans f3, (f _).trans f4⟩
  · refine ⟨hg7.os.trans (hg6.os.trans hB0.os), hg7.tape.trans (hg6.tape.trans hB0.tape), hg7.output.trans (hg6.output.trans hB0.output), by omega, fun b hb => (e3 b (by omega)).trans (hB0.block b hb)⟩

theorem own_cap {w : World} {B m c z : Nat} {e : TypeId} {a : Option Addr} {xs : List Value} (h : w.ownsRow B e z (.slice a m c) m xs) : m ≤ c := by
  rcases h.2 with ⟨h1, h2⟩ | ⟨g, cap, cur, h1, _, _, hle, _⟩
  · omega
  · obtain ⟨_, rfl⟩ : _ ∧ c = cap := by simpa using h1
    exact hle
theorem nams_own {w : World} {B m c : Nat} {a : Option Addr} {l : List ByteArray} {S : Nat → Prop} (h : w.ownsRow B 9 1 (.slice a m c) m (l.map Value.string)) (hm : m = l.length) (hS : ∀ b, B ≤ b → S b) : NamsAt w S a l := by
  subst hm
  have hlt := h.lt
  have hcells := @World.ownsRow.cells _ _ _ _ _ _ _ h
  rcases h.2 with ⟨_, h2⟩ | ⟨g, cap, cur, h1, hBg, _⟩
  · exact .inl (List.eq_nil_of_length_eq_zero h2)
  · obtain ⟨rfl, rfl⟩ : a = some ⟨g, 0, none⟩ ∧ c = cap := by simpa using h1
    refine .inr ⟨g, rfl, hS g hBg, (hlt g rfl).2, fun j hj => ?_⟩
    have := hcells (g := g) rfl j (.string (l.getD j ByteArray.empty)) (by simp [List.getElem?_eq_getElem hj, List.getD_eq_getElem?_getD])
    rw [show ((⟨g, 0, none⟩ : Addr).add j) = ⟨g, j, none⟩ by unfold Addr.add; split <;> simp_all] at this
    exact this
theorem nams_cells {w : World} {gn : Nat} {nm : List ByteArray} (h : ∀ j, j < nm.length → w.cell? ⟨gn, j, none⟩ = some (.string (nm.getD j ByteArray.empty))) (o : Nat) (l : List ByteArray) (hl : ∀ q x, l[q]? = some x → nm[o + q]? = some x) : ∀ (q : Nat) (u : Value), (l.map Value.string)[q]? = some u → w.cell? ((⟨gn, o, none⟩ : Addr).add q) = some u := by
  intro q u hu
  rw [List.getElem?_map, Option.map_eq_some_iff] at hu
  obtain ⟨x, hx, rfl⟩ := hu
  have h1 := hl q x hx
  obtain ⟨hlt, _⟩ := List.getElem?_eq_some_iff.1 h1
  rw [show ((⟨gn, o, none⟩ : Addr).add q) = ⟨gn, o + q, none⟩ by unfold Addr.add; split <;> simp_all, h (o + q) hlt, List.getD_eq_getElem?_getD, h1]
  rfl
theorem cut_ownS {X : World} {B n i : Nat} {e : TypeId} {z : Nat} {v : Value} {l : List ByteArray} (h : X.ownsRow B e z v (0 + i + (n - (i + 1))) ([] ++ (l.take i).map Value.string ++ (l.drop (i + 1)).map Value.string)) (hi : i < n) : X.ownsRow B e z v (n - 1) ((l.eraseIdx i).map Value.string) := by
  rw [List.nil_append, ← List.map_append, ← List.eraseIdx_eq_take_drop_succ, show 0 + i + (n - (i + 1)) = n - 1 by omega] at h
  exact h
theorem str_ones (l : List ByteArray) : ∀ u ∈ l.map Value.string, u.oneCell' = true := by
  intro u hu
  obtain ⟨x, _, rfl⟩ := List.mem_map.1 hu
  rfl
/-- A tree out of an own row of heads. -/
theorem tree_own {w : World} {S : Nat → Prop} {B : Nat} {k n : Int} {tx : ByteArray} {nm : List ByteArray} {ks : List Tr} {an a2 : Option Addr} {cn c2 : Nat} {l : List Five} (ho : w.ownsRow B 41 5 (.slice a2 ks.length c2) ks.length (fiveCells l)) (hSB : ∀ b, B ≤ b → S b) (hn : NamsAt w S an nm) (hl : l.length = ks.length) (hT : ∀ (i : Nat) (x : Tr) (f : Five), ks[i]? = some x → l[i]? = some f → TreeIs w S x f.agg) (hcn : nm.length ≤ cn) (hpn : PN an cn) :
    TreeIs w S (.mk k n tx nm ks) (.agg #[.int .i64 k, .int .i64 n, .string tx, .slice an nm.length cn, .slice a2 ks.length c2]) := by
  by_cases h0 : ks.length = 0
  · rw [TreeIs]
    exact ⟨an, cn, a2, c2, rfl, hn, .inl (List.eq_nil_of_length_eq_zero h0), hcn, own_cap ho, hpn, own_pn ho⟩
  · obtain ⟨g, cap, e⟩ := own_pos ho (by omega)
    obtain ⟨rfl, rfl⟩ : a2 = some ⟨g, 0, none⟩ ∧ c2 = cap := by simpa using e
    have hr : RowAt w g l := by
      rw [← hl] at ho
      exact row_at ho
    exact tree_row ((ho.lt g rfl).2) (hSB g (ho.lt g rfl).1) hn hr hl hT hcn (own_cap ho) hpn

end Go.Proofs.YtbjifclgifkjmaaDoor
