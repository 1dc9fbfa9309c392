/- The paths of all nodes: by trees and by nodes the same. No program in this text. The paths of all nodes: the specification's l3Paths. The paths of all nodes: the specification's l3Paths, walked. -/
import Derived.Test.YthgjelbhhdomdaaDoorPartsIt
import Derived.Test.YthgjelbhhdomdaaDoorPathT0
import Derived.Test.YthgjelbhhdomdaaDoorTr
import Derived.Test.YthgjelbhhdomdaaDoorTellLen
import Derived.Test.YthgjelbhhdomdaaDoorPathTO
import Derived.Test.YthgjelbhhdomdaaDoorPathO
import Derived.Test.YthgjelbhhdomdaaDoorTreeF
import Derived.Test.YthgjelbhhdomdaaDoorDigits
import Derived.Test.YthgjelbhhdomdaaDoorTreeW
import Derived.Laws.OwnMore
import Derived.Maps.AppendAt
import Derived.Deep.RegionHeld3
import Derived.Lib.ItoaLen
namespace Go.Proofs.YthgjelbhhdomdaaDoor
open Go.RowKit
set_option linter.unusedVariables false

/-- The name that leads to the i-th part. -/
def nameI (k : Int) (nm : List ByteArray) (i : Nat) : ByteArray := if k = 7 then nm.getD i ByteArray.empty else strL (Lib.decDigits i)
def onPath (P : List UInt8) (x : ByteArray) : List UInt8 := P ++ 47 :: pesc x.data.toList

mutual
/-- The paths of a tree's nodes, its own ahead. -/
def Tr.paths : Tr → List UInt8 → List (List UInt8)
  | .mk k _ _ nm ks, P => P :: Tr.pathsK ks k nm P 0
def Tr.pathsK : List Tr → Int → List ByteArray → List UInt8 → Nat → List (List UInt8)
  | [], _, _, _, _ => []
  | x :: xs, k, nm, P, i => x.paths (onPath P (nameI k nm i)) ++ Tr.pathsK xs k nm P (i + 1)
end
theorem pathsK_snoc (l : List Tr) (x : Tr) (k : Int) (nm : List ByteArray) (P : List UInt8) : ∀ i, Tr.pathsK (l ++ [x]) k nm P i = Tr.pathsK l k nm P i ++ x.paths (onPath P (nameI k nm (i + l.length))) := by
  induction l with
  | nil => intro i; simp [Tr.pathsK]
  | cons y l ih =>
    intro i
    rw [List.cons_append, Tr.pathsK, ih, Tr.pathsK, List.append_assoc, List.length_cons, show i + (l.length + 1) = i + 1 + l.length by omega]

/-- The path of a node. -/
def pthF (N : Nat → Nd) : Nat → Nat → List UInt8
  | 0, _ => []
  | f + 1, p => if p = 0 then [] else onPath (pthF N f (par N p)) (nmAt N (par N p) (kidsTo N (par N p) p).length p)
def pth (N : Nat → Nd) (p : Nat) : List UInt8 := pthF N p p
theorem pth_zero (N : Nat → Nd) : pth N 0 = [] := rfl
theorem par_lt {N : Nat → Nd} {n p : Nat} (h : Pre N n) (h0 : 0 < p) (hp : p < n) : par N p < p := by
  have := h.2 p h0 hp
  unfold par
  omega
theorem pthF_zero (N : Nat → Nd) (f : Nat) : pthF N f 0 = [] := by
  cases f with
  | zero => rfl
  | succ f => rw [pthF, if_pos rfl]
theorem pthF_fuel {N : Nat → Nd} {n : Nat} (h : Pre N n) : ∀ f g p, p < n → p ≤ f → p ≤ g → pthF N f p = pthF N g p := by
  intro f
  induction f with
  | zero =>
    intro g p _ hf _
    obtain rfl : p = 0 := by omega
    rw [pthF_zero, pthF_zero]
  | succ f ih =>
    intro g p hp hf hg
    by_cases h0 : p = 0
    · subst h0; rw [pthF_zero, pthF_zero]
    · have hq := par_lt h (by omega) hp
      obtain ⟨g', rfl⟩ : ∃ g', g = g' + 1 := ⟨g - 1, by omega⟩
      rw [pthF, pthF, if_neg h0, if_neg h0, ih g' _ (by omega) (by omega) (by omega)]
theorem pth_step {N : Nat → Nd} {n p k : Nat} (h : Pre N n) (h0 : 0 < p) (hp : p < n) (hk : par N p = k) : pth N p = onPath (pth N k) (nmAt N k (kidsTo N k p).length p) := by
  obtain ⟨p', rfl⟩ : ∃ p', p = p' + 1 := ⟨p - 1, by omega⟩
  have hq := par_lt h h0 hp
  unfold pth
  rw [pthF, if_neg (by omega), hk, pthF_fuel h p' k k (by omega) (by omega) (by omega)]

theorem par_up {N : Nat → Nd} {p k : Nat} (h : (N p).up = (k : Int)) : par N p = k := by unfold par; rw [h]; rfl

/-- Only lists and maps have parts. -/
def PartsOK (N : Nat → Nd) (n : Nat) : Prop := ∀ k p, p ∈ kidsTo N k n → (N k).kind = 6 ∨ (N k).kind = 7

theorem name_at {N : Nat → Nd} {n k q e : Nat} (hp : PartsOK N n) (hq : q < n) (he : e ≤ n) (hk : kidsTo N k e = kidsTo N k q ++ [q]) : nameI (N k).kind (kidNames N k (kidsTo N k n)) (kidsTo N k q).length = nmAt N k (kidsTo N k q).length q := by
  obtain ⟨t, ht⟩ := kidsTo_prefix N k e (n - e)
  rw [show e + (n - e) = n by omega, hk] at ht
  have hm : q ∈ kidsTo N k n := by rw [ht]; simp
  unfold nameI nmAt
  rcases hp k q hm with h6 | h7
  · rw [if_neg (by rw [h6]; decide), if_pos h6]
  · rw [if_pos h7, if_neg (by rw [h7]; decide)]
    unfold kidNames
    rw [if_pos h7, ht, List.getD_eq_getElem?_getD, List.getElem?_map, List.append_assoc, List.getElem?_append_right (Nat.le_refl _)]
    simp

theorem paths_tree {N : Nat → Nd} {n : Nat} (h : Pre N n) (hp : PartsOK N n) : ∀ d k, n - k = d → k < n → ∀ e, IsEnd N n k e → (tree N n k).paths (pth N k) = (List.range' k (e - k)).map (pth N) := by
  intro d
  induction d using Nat.strongRecOn with
  | _ d ih =>
    intro k hd hk e he
    rw [tree_eq hk, Tr.paths]
    have hC := parts_ind h hk (fun q => k + 1 ≤ q ∧ Tr.pathsK ((kidsTo N k q).map (tree N n)) (N k).kind (kidNames N k (kidsTo N k n)) (pth N k) 0 = (List.range' (k + 1) (q - (k + 1))).map (pth N))
      (by
        have hz : ∀ j, j ≤ k + 1 → kidsTo N k j = [] := by
          intro j
          induction j with
          | zero => intro _; rfl
          | succ j ihj => intro hj; rw [kidsTo, if_neg (by omega), ihj (by omega)]
        rw [hz _ (Nat.le_refl _)]
        exact ⟨Nat.le_refl _, by simp [Tr.pathsK]⟩)
      (by
        intro q e' hb hq hu he' hkid ⟨hc1, hc2⟩
        have hkq : k < q := hb.1
        have he1 := he'.1
        have he2 := he'.2.1
        refine ⟨by omega, ?_⟩
        rw [hkid, List.map_append, List.map_cons, List.map_nil, pathsK_snoc, hc2, Nat.zero_add, List.length_map, name_at hp hq he2 hkid]
        have hpth : onPath (pth N k) (nmAt N k (kidsTo N k q).length q) = pth N q := (pth_step h (by omega) hq (par_up hu)).symm
        rw [hpth, ih (n - q) (by omega) q rfl hq e' he', ← List.map_append]
        congr 1
        have e1 : e' - (k + 1) = (q - (k + 1)) + (e' - q) := by omega
        rw [e1, ← List.range'_append_1]
        congr 2
        omega)
    obtain ⟨hall, _, hC2⟩ := hC e he
    have he1 := he.1
    rw [hall] at hC2 ⊢
    rw [hC2]
    obtain ⟨m, hm⟩ : ∃ m, e - k = m + 1 := ⟨e - k - 1, by omega⟩
    rw [hm, List.range'_succ, List.map_cons, show e - (k + 1) = m by omega]

end Go.Proofs.YthgjelbhhdomdaaDoor
namespace Go.Proofs.YthgjelbhhdomdaaDoor
open Go.RowKit
set_option linter.unusedVariables false

/-- Texts that came in, of which the program appends to an own row: none at all, or a row from the head of a block on. -/
def SrcS (w : World) (S : Nat → Prop) (a : Option Addr) (c : Nat) (nm : List ByteArray) : Prop :=
  (nm = [] ∧ a = none ∧ c = 0) ∨ ∃ g, a = some ⟨g, 0, none⟩ ∧ 0 < nm.length ∧ S g ∧ g < w.heap.size ∧ ∀ i, i < nm.length → w.cell? ⟨g, i, none⟩ = some (.string (nm.getD i ByteArray.empty))
theorem SrcS.keep {w w' : World} {S S' : Nat → Prop} {a : Option Addr} {c : Nat} {nm : List ByteArray} (hk : ∀ b, S b → b < w.heap.size → w'.heap[b]? = w.heap[b]?) (hS : ∀ b, S b → b < w.heap.size → S' b) (hz : w.heap.size ≤ w'.heap.size) (h : SrcS w S a c nm) : SrcS w' S' a c nm := by
  rcases h with h | ⟨g, rfl, h0, h1, h2, h3⟩
  · exact .inl h
  · exact .inr ⟨g, rfl, h0, hS g h1 h2, by omega, fun j hj => (World.cell?_of_block (hk g h1 h2)).trans (h3 j hj)⟩
theorem SrcS.arg {w : World} {S : Nat → Prop} {a : Option Addr} {c : Nat} {nm : List ByteArray} (h : SrcS w S a c nm) : ArgS w a nm.length (fun i => nm.getD i ByteArray.empty) := by
  rcases h with ⟨rfl, _⟩ | ⟨g, rfl, h0, h1, h2, h3⟩
  · exact .inl rfl
  · exact .inr ⟨g, 0, rfl, h2, fun i hi => by rw [Nat.zero_add]; exact h3 i hi⟩
theorem lst_getD (nm : List ByteArray) : lst (fun i => nm.getD i ByteArray.empty) nm.length = nm := by
  apply List.ext_getElem
  · simp [lst]
  · intro i h1 h2
    simp [lst, List.getElem?_eq_getElem h2]
def nmCells (nm : List ByteArray) : List Value := nm.map Value.string
theorem SrcS.row {w : World} {B : Nat} {S : Nat → Prop} {v : Value} {nm : List ByteArray} (h : w.ownsRow B 9 1 v nm.length (nmCells nm)) (h0 : 0 < nm.length) (hS : ∀ b, B ≤ b → S b) : ∃ a c, v = .slice a nm.length c ∧ SrcS w S a c nm := by
  have hlt := h.lt
  have hcells := @World.ownsRow.cells _ _ _ _ _ _ _ h
  obtain ⟨_, ⟨hv, hx⟩ | ⟨g, cap, cur, hv, hg, hh, _⟩⟩ := h
  · omega
  · refine ⟨_, cap, hv, .inr ⟨g, rfl, h0, hS g hg, (hlt g (by rw [hv]; rfl)).2, fun j hj => ?_⟩⟩
    have := hcells (g := g) (by rw [hv]; rfl) j (.string (nm.getD j ByteArray.empty)) (by simp [nmCells, List.getElem?_eq_getElem hj, List.getD_eq_getElem?_getD])
    rw [show ((⟨g, 0, none⟩ : Addr).add j) = ⟨g, j, none⟩ by unfold Addr.add; split <;> simp_all] at this
    exact this

/-- AT A STEP OF A REGION THAT DRAWS: texts that came in are put to an own row. -/
theorem step_append_src {w : World} {S : Nat → Prop} {ops : Array Oper} {o : Oper} {a : Act} {K : Act → World → Prop} {Q : Exit → Act → World → Prop} {E : Prop} (hgd : o.guard = none) (s x : Operand)
    (ho : o.op = .call { callee := .builtin .append, args := #[s, x], argTypes := #[39, 39] })
    (base : Nat) (v : Value) (n : Nat) (xs : List Value) (hs : a.eval s = v) (hown : w.ownsRow base 9 1 v n xs)
    (ax : Option Addr) (c : Nat) (nm : List ByteArray) (hx : a.eval x = .slice ax nm.length c) (hsrc : SrcS w S ax c nm)
    (hlen : n + nm.length ≤ 2 ^ 30) (hbase : base ≤ w.heap.size)
    (h : ∀ v' w', w'.ownsRow base 9 1 v' (n + nm.length) (xs ++ nmCells nm) → w.grownBy w' v.ownBlock → K (a.put o.dst v') w') :
    if Region.wanted o (yielded ops a.tmps) = true then Oper.wp Tryd.prog o a w K Q else E := by
  have hw : Region.wanted o (yielded ops a.tmps) = true := by simp [Region.wanted, hgd]
  rw [if_pos hw]
  obtain ⟨i0, hi, hz0, hz1, hz2⟩ := info_parts infoText
  rcases hsrc with ⟨rfl, rfl, rfl⟩ | ⟨g, rfl, h0, h1, h2, h3⟩
  · have hr := run_append_owned_none (P := Tryd.prog) (w := w) base 39 o.type 9 i0 1 Tryd.underlying39 hi v n xs hown
    unfold Oper.wp execOp
    simp only [ho, resolve, invoke, builtin, Sem.run_bind, Sem.run_pure, Result.andThen_ok, List.map_toArray, List.map_cons, List.map_nil, hs, hx, List.length_nil, hr]
    refine h v w ?_ ⟨rfl, rfl, rfl, Nat.le_refl _, fun _ _ _ => rfl⟩
    simpa [nmCells] using hown
  · obtain ⟨v', w', hr, h4, h5, _, _⟩ := run_append_own_at (P := Tryd.prog) w base 39 o.type 9 i0 (.string ⟨#[]⟩) 1 16 Tryd.underlying39 hi hz0 hz1 hz2 rfl (by decide) v n xs hown ⟨g, 0, none⟩ nm.length c (nmCells nm) (by simp [nmCells])
      (fun j u hu => by
        rw [show ((⟨g, 0, none⟩ : Addr).add j) = ⟨g, j, none⟩ by unfold Addr.add; split <;> simp_all]
        simp only [nmCells, List.getElem?_map, Option.map_eq_some_iff] at hu
        obtain ⟨y, hy, rfl⟩ := hu
        obtain ⟨hj, hy2⟩ := List.getElem?_eq_some_iff.1 hy
        rw [h3 j hj, List.getD_eq_getElem?_getD, hy]
        rfl)
      (fun u hu => by
        simp only [nmCells, List.mem_map] at hu
        obtain ⟨y, _, rfl⟩ := hu
        rfl) (by unfold maxLen; omega) (by omega) hbase
    unfold Oper.wp execOp
    simp only [ho, resolve, invoke, builtin, Sem.run_bind, Sem.run_pure, Result.andThen_ok, List.map_toArray, List.map_cons, List.map_nil, hs, hx, hr]
    exact h v' w' h4 h5

end Go.Proofs.YthgjelbhhdomdaaDoor
namespace Go.Proofs.YthgjelbhhdomdaaDoor
open Go.RowKit
set_option linter.unusedVariables false

def OwnsL (w : World) (B : Nat) (v : Value) (l : List (List UInt8)) : Prop := w.ownsRow B 9 1 v l.length (strCells l)
theorem OwnsL.form {w : World} {B : Nat} {v : Value} {l : List (List UInt8)} (h : OwnsL w B v l) : ∃ a c, v = .slice a l.length c := by
  rcases h.2 with ⟨rfl, e⟩ | ⟨g, cap, cur, rfl, _⟩
  · exact ⟨none, 0, by rw [e]⟩
  · exact ⟨_, _, rfl⟩
theorem str_snoc (l : List (List UInt8)) (x : List UInt8) : strCells (l ++ [x]) = strCells l ++ [.string (strL x)] := by simp [strCells]

mutual
/-- The names of a tree's parts are short. -/
def Tr.short : Tr → Prop
  | .mk _ _ _ nm ks => (∀ x ∈ nm, x.size ≤ 24) ∧ Tr.shorts ks
def Tr.shorts : List Tr → Prop
  | [] => True
  | t :: ts => t.short ∧ Tr.shorts ts
end
theorem Tr.shorts_mem {l : List Tr} : Tr.shorts l ↔ ∀ t ∈ l, t.short := by
  induction l with
  | nil => simp [Tr.shorts]
  | cons a l ih => rw [Tr.shorts, ih]; simp

theorem pathsK_len (l : List Tr) (ih : ∀ x ∈ l, ∀ P, (x.paths P).length = x.cnt) (k : Int) (nm : List ByteArray) (P : List UInt8) : ∀ i, (Tr.pathsK l k nm P i).length = Tr.cnts l := by
  induction l with
  | nil => intro i; simp [Tr.pathsK, Tr.cnts]
  | cons x l ih2 =>
    intro i
    rw [Tr.pathsK, List.length_append, ih x (by simp), ih2 (fun y hy => ih y (by simp [hy])), Tr.cnts]
theorem paths_len (t : Tr) : ∀ P, (t.paths P).length = t.cnt :=
  Tr.ind (P := fun t => ∀ P, (t.paths P).length = t.cnt) (fun k n t nm ks ih P => by rw [Tr.paths, List.length_cons, pathsK_len ks ih, Tr.cnt, Nat.add_comm]) t

def PathsSaid (t : Tr) : Prop := ∀ (v lv : Value) (a : Option Addr) (c : Nat) (ns : List ByteArray) (l : List (List UInt8)) (B : Nat) (w : World), TreeIs w (fun b => some b ≠ lv.ownBlock) t v → t.named → t.short → SrcS w (fun b => some b ≠ lv.ownBlock) a c ns → OwnsL w B lv l → B ≤ w.heap.size → l.length + t.cnt ≤ 2 ^ 20 → ns.length + t.cnt ≤ 2 ^ 20 → (∀ x ∈ ns, x.size ≤ 24) →
    Calls Tryd.prog 58 #[v, .slice a ns.length c, lv] w fun e w' => ∃ lv', e = .returned lv' ∧ OwnsL w' B lv' (l ++ t.paths (pathL ns)) ∧ w.grownBy w' lv.ownBlock ∧ Moved w.heap.size lv lv'

theorem grown_below {B : Nat} {W X Y : World} {e : TypeId} {z : Nat} {v : Value} {n : Nat} {xs : List Value} (h : Below B W X) (hB : B ≤ X.heap.size) (ho : X.ownsRow B e z v n xs) (hg : X.grownBy Y v.ownBlock) : Below B W Y :=
  ⟨hg.os.trans h.os, hg.tape.trans h.tape, hg.output.trans h.output, Nat.le_trans h.size hg.size, fun b hb => (hg.block b (by omega) (fun e => by have := own_lt ho e; omega)).trans (h.block b hb)⟩
theorem src_row1 {w : World} {B : Nat} {v : Value} {ns : List ByteArray} {nx : ByteArray} (h : w.ownsRow B 9 1 v (0 + ns.length + [nx].length) ([] ++ nmCells ns ++ nmCells [nx])) : ∃ a c, v = .slice a (ns.length + 1) c ∧ SrcS w (fun b => B ≤ b) a c (ns ++ [nx]) := by
  obtain ⟨a, c, h1, h2⟩ := SrcS.row (nm := ns ++ [nx]) (S := fun b => B ≤ b) (v := v) (B := B) (w := w) (by simpa [nmCells] using h) (by simp) (fun _ h => h)
  exact ⟨a, c, by rw [h1]; simp, h2⟩
theorem lit0 (w : World) (B : Nat) (hB : B ≤ w.heap.size) : (w.alloc (.cells #[] 9)).ownsRow B 9 1 (.slice (some ⟨w.heap.size, 0, none⟩) 0 0) 0 [] :=
  World.ownsRow_lit (base := B) (e := 9) (size := 1) w #[] 0 hB (by decide) rfl
theorem src_new (w : World) (nx : ByteArray) (T : TypeId) : SrcS (w.alloc (.cells #[.string nx] T)) (fun _ => True) (some ⟨w.heap.size, 0, none⟩) 1 [nx] :=
  .inr ⟨_, rfl, by simp, trivial, by simp, fun i hi => by
    obtain rfl : i = 0 := by simp at hi; omega
    rw [World.cell?_alloc_new]; rfl⟩
theorem digits_len (m : Nat) (h : m ≤ 2 ^ 20) : (Lib.decDigits m).length ≤ 24 := by
  rw [Lib.decDigits_length]
  have := Lib.nDigits_le20 m (by omega)
  omega
theorem src_newB (w : World) (nx : ByteArray) (T : TypeId) (S : Nat → Prop) (g : Nat) (hg : w.heap.size = g) (hS : S g) : SrcS (w.alloc (.cells #[.string nx] T)) S (some ⟨g, 0, none⟩) 1 [nx] := by
  subst hg
  exact .inr ⟨_, rfl, by simp, hS, by simp, fun i hi => by
    obtain rfl : i = 0 := by simp at hi; omega
    rw [World.cell?_alloc_new]; rfl⟩
theorem src_past (w : World) (nx : ByteArray) (S : Nat → Prop) (g : Nat) (o : Obj) (h : SrcS w S (some ⟨g, 0, none⟩) 1 [nx]) : SrcS (w.alloc o) S (some ⟨g, 0, none⟩) 1 [nx] :=
  h.keep (fun b _ hb => heap_alloc_old _ _ hb) (fun _ h _ => h) (by simp)
/-- A kid's copy in block b. -/
def Copy (w : World) (b : Nat) (x : Tr) (an ak : Option Addr) (cn ck : Nat) : Prop := w.cell? ⟨b, 0, none⟩ = some (.int .i64 x.kind) ∧ w.cell? ⟨b, 1, none⟩ = some (.int .i64 x.num) ∧ w.cell? ⟨b, 2, none⟩ = some (.string x.text) ∧ w.cell? ⟨b, 3, none⟩ = some (.slice an x.names.length cn) ∧ w.cell? ⟨b, 4, none⟩ = some (.slice ak x.kids.length ck)
theorem Copy.below {w w' : World} {B b : Nat} {x : Tr} {an ak : Option Addr} {cn ck : Nat} (h : Copy w b x an ak cn ck) (hb : Below B w w') (hl : b < B) : Copy w' b x an ak cn ck :=
  ⟨(hb.cell hl).trans h.1, (hb.cell hl).trans h.2.1, (hb.cell hl).trans h.2.2.1, (hb.cell hl).trans h.2.2.2.1, (hb.cell hl).trans h.2.2.2.2⟩
theorem Copy.grown {w w' : World} {row : Option Nat} {b : Nat} {x : Tr} {an ak : Option Addr} {cn ck : Nat} (h : Copy w b x an ak cn ck) (hg : w.grownBy w' row) (hl : b < w.heap.size) (hn : some b ≠ row) : Copy w' b x an ak cn ck :=
  ⟨(hg.cell_far ⟨b, 0, none⟩ hl hn).trans h.1, (hg.cell_far ⟨b, 1, none⟩ hl hn).trans h.2.1, (hg.cell_far ⟨b, 2, none⟩ hl hn).trans h.2.2.1, (hg.cell_far ⟨b, 3, none⟩ hl hn).trans h.2.2.2.1, (hg.cell_far ⟨b, 4, none⟩ hl hn).trans h.2.2.2.2⟩
theorem Copy.alloc {w : World} {b : Nat} {x : Tr} {an ak : Option Addr} {cn ck : Nat} (h : Copy w b x an ak cn ck) (hl : b < w.heap.size) (o : Obj) : Copy (w.alloc o) b x an ak cn ck :=
  h.below ((Below.refl w.heap.size w).alloc (Nat.le_refl _) o) hl

set_option maxRecDepth 100000 in
set_option maxHeartbeats 4000000 in
theorem l3Paths_step (k n : Int) (t : ByteArray) (nm : List ByteArray) (ks : List Tr) (ih : ∀ x ∈ ks, PathsSaid x) : PathsSaid (.mk k n t nm ks) := by
  intro v lv a c ns l B w h hnd hsh hsrc hown hB hlen hnl hns
  obtain ⟨an, cn, ak, ck, rfl, hnm, hk⟩ := h.open
  obtain ⟨la, lc, rfl⟩ := hown.form
  have hcn : Tr.cnts ks + l.length + 1 ≤ 2 ^ 20 := by rw [Tr.cnt] at hlen; omega
  have hcn2 : Tr.cnts ks + ns.length + 1 ≤ 2 ^ 20 := by rw [Tr.cnt] at hnl; omega
  have hkl := Tr.len_cnts ks
  rw [Tr.named] at hnd
  rw [Tr.short] at hsh
  have HND : Hid ((k = 7 → nm.length = ks.length) ∧ ∀ x ∈ ks, x.named) := ⟨hnd.1, Tr.nameds_mem.1 hnd.2⟩
  have HSH : Hid ((∀ x ∈ nm, x.size ≤ 24) ∧ ∀ x ∈ ks, x.short) := ⟨hsh.1, Tr.shorts_mem.1 hsh.2⟩
  have HNS : Hid (∀ x ∈ ns, x.size ≤ 24) := hns
  have HIH : Hid (∀ x ∈ ks, PathsSaid x) := ih
  have HNM : Hid (NamsAt w (fun b => some b ≠ (Value.slice la l.length lc).ownBlock) an nm) := hnm
  have HSR : Hid (SrcS w (fun b => some b ≠ (Value.slice la l.length lc).ownBlock) a c ns) := hsrc
  have HK : Hid (ks = [] ∨ ∃ g, ak = some ⟨g, 0, none⟩ ∧ some g ≠ (Value.slice la l.length lc).ownBlock ∧ g < w.heap.size ∧ ∀ i x, ks[i]? = some x → KidAt w (fun b => some b ≠ (Value.slice la l.length lc).ownBlock) x g i) := hk
  have HO : Hid (OwnsL w B (.slice la l.length lc) l) := hown
  obtain ⟨iN, hi, hz0, hz1, hz2⟩ := info_parts infoText
  have HI : Hid (Tryd.prog.info? 9 = some iN ∧ iN.zero = some (.string ⟨#[]⟩) ∧ iN.size = 1 ∧ iN.bytes = 16) := ⟨hi, hz0, hz1, hz2⟩
  have hnew : some w.heap.size ≠ (Value.slice la l.length lc).ownBlock := fun e => by have := own_lt HO.out e; omega
  clear hi hz0 hz1 hz2 ih h hk hnm hown hnd hsh hns hsrc hlen hnl
  go_enter Tryd.func58, Tryd.ntmps58
  go_wp2_with fail
  refine (l3Text_any a c ns.length (fun i => ns.getD i ByteArray.empty) _ (by omega) (HSR.out.arg.below (by go_grown)) (fun i hi => by
    rw [List.getD_eq_getElem?_getD, List.getElem?_eq_getElem hi]
    exact Nat.le_trans (HNS.out _ (List.getElem_mem hi)) (by decide))).mono ?_
  rintro e w0 ⟨rfl, hb0⟩
  rw [lst_getD]
  obtain ⟨P, hP⟩ : ∃ P, P = pathL ns := ⟨_, rfl⟩
  rw [← hP]
  have HP : Hid (P = pathL ns) := hP
  have hz0 := hb0.size
  simp at hz0
  have x0 : ∀ x, w0.cell? ⟨w.heap.size, x, none⟩ = (w.alloc (.cells #[.int .i64 k, .int .i64 n, .string t, .slice an nm.length cn, .slice ak ks.length ck] 59)).cell? ⟨w.heap.size, x, none⟩ := fun x => hb0.cell (by simp)
  have c0 : w0.cell? ⟨w.heap.size, 0, none⟩ = some (.int .i64 k) := by rw [x0]; simp [go_sem]
  have c3 : w0.cell? ⟨w.heap.size, 3, none⟩ = some (.slice an nm.length cn) := by rw [x0]; simp [go_sem]
  have c4 : w0.cell? ⟨w.heap.size, 4, none⟩ = some (.slice ak ks.length ck) := by rw [x0]; simp [go_sem]
  have HB0 : Hid (Below w.heap.size w w0) := (show Below w.heap.size w _ by go_grown).trans (hb0.mono (by simp))
  have HO0 : Hid (OwnsL w0 B (.slice la l.length lc) l) := row_block HO.out fun b' _ hl' _ => HB0.out.block b' hl'
  clear hb0 x0 hP
  go_wp2_with (first | (at_builtin; refine wpList_append_lies _ rfl _ _ 39 rfl B 9 iN _ 1 16 Tryd.underlying39 HI.out.1 HI.out.2.1 HI.out.2.2.1 HI.out.2.2.2 rfl (by decide) _ _ _ rfl (World.ownsRow.alloc HO0.out _) ⟨w0.heap.size, 0, none⟩ 1 1 [.string (strL P)] rfl rfl (cell_one_new _ _ _) ?c2 (by decide) ?c3 ?c4 ?c5 (w0.heap.size + 1) ?c6 ?_))
  case c2 => simp [Value.oneCell']
  case c3 => unfold maxLen; omega
  case c4 => omega
  case c5 => simp; omega
  case c6 => simp
  intro g1 cap1 w1 hown1 hgrow hat hlt1
  have hgsz := hgrow.size
  simp at hgsz
  have HG1 : Hid (w.grownBy w1 (Value.slice la l.length lc).ownBlock) := ⟨hgrow.os.trans HB0.out.os, hgrow.tape.trans HB0.out.tape, hgrow.output.trans HB0.out.output, by omega, fun b hb hn => by
    rw [hgrow.block b (by simp; omega) hn, heap_alloc_old _ _ (by omega), HB0.out.block b hb]⟩
  have HM1 : Hid (Moved (w.heap.size + 1) (Value.slice la l.length lc) (.slice (some ⟨g1, 0, none⟩) (l.length + 1) cap1)) := by
    rcases hat with e | e
    · exact .inl e.symm
    · exact .inr ⟨g1, rfl, by omega⟩
  have x0 : ∀ x, w1.cell? ⟨w.heap.size, x, none⟩ = w0.cell? ⟨w.heap.size, x, none⟩ := fun x => by
    rw [hgrow.cell_far ⟨w.heap.size, x, none⟩ (by simp; omega) hnew]
    exact World.cell?_of_block (heap_alloc_old _ _ (by show w.heap.size < _; omega))
  have d0 := (x0 0).trans c0
  have d3 := (x0 3).trans c3
  have d4 := (x0 4).trans c4
  have z1 : w.heap.size < w1.heap.size := by omega
  obtain ⟨L1, hL1⟩ : ∃ L1 : List (List UInt8), L1 = l ++ [P] := ⟨_, rfl⟩
  have HL1 : Hid (L1 = l ++ [P]) := hL1
  have hll : L1.length = l.length + 1 := by rw [hL1]; simp
  have HO1 : Hid (OwnsL w1 B (.slice (some ⟨g1, 0, none⟩) (l.length + 1) cap1) L1) := by
    show OwnsL _ _ _ _
    unfold OwnsL
    rw [hll, hL1, str_snoc]
    exact hown1
  clear hown1 hgrow hL1 x0 hat hlt1 c0 c3 c4 hgsz
  have HF : Hid ((Tr.mk k n t nm ks).paths P = P :: Tr.pathsK ks k nm P 0) := by show _ = _; rw [Tr.paths]
  go_wp2_with fail
  go_loopw [2, 18] (fun q i wr => ∃ (m : Nat) (am : Option Addr) (dm : Nat) (L : List (List UInt8)), m ≤ ks.length ∧ i = .int .i64 m ∧ q = .slice am L.length dm ∧ Hid (L = L1 ++ Tr.pathsK (ks.take m) k nm P 0) ∧ Hid (OwnsL wr B (.slice am L.length dm) L) ∧ Hid (w.grownBy wr (Value.slice la l.length lc).ownBlock) ∧ Hid (Moved (w.heap.size + 1) (Value.slice la l.length lc) (.slice am L.length dm)) ∧ w.heap.size < wr.heap.size ∧
      wr.cell? ⟨w.heap.size, 0, none⟩ = some (.int .i64 k) ∧ wr.cell? ⟨w.heap.size, 3, none⟩ = some (.slice an nm.length cn) ∧ wr.cell? ⟨w.heap.size, 4, none⟩ = some (.slice ak ks.length ck)) (fun _ i _ => ks.length - (intOf i).toNat)
  case atStart => exact ⟨0, some ⟨g1, 0, none⟩, cap1, L1, Nat.zero_le _, rfl, by rw [hll], by show _ = _; simp [Tr.pathsK], by rw [hll]; exact HO1, HG1, by rw [hll]; exact HM1, z1, d0, d3, d4⟩
  case round =>
    obtain ⟨m, am, dm, L, hm, rfl, rfl, HL, HOL, HG, HM, hzw, u0, u3, u4⟩ := hrel
    have hLl : L.length = l.length + 1 + Tr.cnts (ks.take m) := by rw [HL.out, List.length_append, hll, pathsK_len _ (fun x _ => paths_len x)]
    have hct := Tr.cnts_append (ks.take m) (ks.drop m)
    rw [List.take_append_drop] at hct
    have HLl : Hid (L.length = l.length + 1 + Tr.cnts (ks.take m)) := hLl
    have hnq : some w.heap.size ≠ (Value.slice am L.length dm).ownBlock := HM.out.ne (Nat.lt_succ_self _) hnew
    clear d0 d3 d4
    by_cases hlt : m < ks.length
    · obtain ⟨x, hx⟩ : ∃ x, ks[m]? = some x := ⟨ks[m], List.getElem?_eq_getElem hlt⟩
      rcases HK.out with h0 | ⟨g, rfl, hgn, hg, hkid⟩
      · rw [h0] at hlt; simp at hlt
      have hkeep : ∀ b', some b' ≠ (Value.slice la l.length lc).ownBlock → b' < w.heap.size → wr.heap[b']? = w.heap[b']? := fun b' h1 h2 => HG.out.block b' h2 h1
      have hSS : ∀ b', some b' ≠ (Value.slice la l.length lc).ownBlock → b' < w.heap.size → some b' ≠ (Value.slice am L.length dm).ownBlock := fun b' h1 h2 => HM.out.ne (by omega) h1
      obtain ⟨an', cn', ak', ck', e0, e1, e2, e3, e4, htr⟩ := ((hkid m x hx).keep hkeep hSS HG.out.size (hkeep g hgn hg)).cellsS
      have HTR : Hid (TreeIs wr (fun b => some b ≠ (Value.slice am L.length dm).ownBlock) x (.agg #[.int .i64 x.kind, .int .i64 x.num, .string x.text, .slice an' x.names.length cn', .slice ak' x.kids.length ck'])) := htr
      have HSW : Hid (SrcS wr (fun b => some b ≠ (Value.slice am L.length dm).ownBlock) a c ns) := HSR.out.keep hkeep hSS HG.out.size
      have hxm := List.mem_of_getElem? hx
      have HS : Hid (PathsSaid x) := HIH.out x hxm
      have HXN : Hid x.named := HND.out.2 x hxm
      have HXS : Hid x.short := HSH.out.2 x hxm
      have htk : ks.take (m + 1) = ks.take m ++ [x] := by rw [List.take_add_one, hx]; rfl
      have hct2 := Tr.cnts_append (ks.take (m + 1)) (ks.drop (m + 1))
      rw [List.take_append_drop, htk, Tr.cnts_append] at hct2
      have hx1 : Tr.cnts [x] = x.cnt := by simp [Tr.cnts]
      have HST : Hid (L1 ++ Tr.pathsK (ks.take (m + 1)) k nm P 0 = L ++ x.paths (onPath P (nameI k nm m))) := by
        show _ = _
        rw [htk, pathsK_snoc, HL.out, List.append_assoc]
        have : (ks.take m).length = m := by rw [List.length_take]; omega
        rw [this, Nat.zero_add]
      have j0 : (0 : Int) ≤ (m : Int) := by omega
      have j1 : (m : Int) < (ks.length : Int) := by omega
      have hgw : g < wr.heap.size := by omega
      have hLx : L.length + x.cnt ≤ 2 ^ 20 := by omega
      have hNx : ns.length + 1 + x.cnt ≤ 2 ^ 20 := by omega
      have hm20 : m ≤ 2 ^ 20 := by omega
      have hNM := HNM.out
      clear hkid htr hct hct2 htk hLl hx1
      go_wp2_with fail
      refine (l1Num_any _ (m : Int) _ rfl (by omega) (by omega)).mono ?_
      rintro e w5 ⟨rfl, hb5⟩
      rw [show ((m : Int)).toNat = m from rfl]
      have hs5 := hb5.size
      simp at hs5
      have HB5 : Hid (Below wr.heap.size wr w5) := ((Below.refl _ wr).alloc (Nat.le_refl _) _).trans (hb5.mono (by simp))
      have y0 : w5.cell? ⟨wr.heap.size, 0, none⟩ = some (.int .i64 x.kind) := by rw [hb5.cell (by simp)]; simp [go_sem]
      have y1 : w5.cell? ⟨wr.heap.size, 1, none⟩ = some (.int .i64 x.num) := by rw [hb5.cell (by simp)]; simp [go_sem]
      have y2 : w5.cell? ⟨wr.heap.size, 2, none⟩ = some (.string x.text) := by rw [hb5.cell (by simp)]; simp [go_sem]
      have y3 : w5.cell? ⟨wr.heap.size, 3, none⟩ = some (.slice an' x.names.length cn') := by rw [hb5.cell (by simp)]; simp [go_sem]
      have y4 : w5.cell? ⟨wr.heap.size, 4, none⟩ = some (.slice ak' x.kids.length ck') := by rw [hb5.cell (by simp)]; simp [go_sem]
      have q0 := (HB5.out.cell (p := ⟨w.heap.size, 0, none⟩) hzw).trans u0
      have q3 := (HB5.out.cell (p := ⟨w.heap.size, 3, none⟩) hzw).trans u3
      clear e0 e1 e2 e3 e4 hb5
      by_cases h7 : k = 7
      · have hnl := HND.out.1 h7
        rcases hNM with h0 | ⟨gn, rfl, hg1, hg2, hnc⟩
        · rw [h0] at hnl; simp at hnl; omega
        have hnm2 : w5.cell? ⟨gn, m, none⟩ = some (.string (nm.getD m ByteArray.empty)) := (HB5.out.cell (p := ⟨gn, m, none⟩) (by show gn < _; omega)).trans ((World.cell?_of_block (hkeep gn hg1 hg2)).trans (hnc m (by omega)))
        have HNF : Hid (nameI k nm m = nm.getD m ByteArray.empty) := by show _ = _; unfold nameI; rw [if_pos h7]
        have j2 : (m : Int) < (nm.length : Int) := by omega
        obtain ⟨nx, hnx⟩ : ∃ nx, nx = nm.getD m ByteArray.empty := ⟨_, rfl⟩
        rw [← hnx] at hnm2 HNF
        have hnx24 : nx.size ≤ 24 := by
          rw [hnx, List.getD_eq_getElem?_getD, List.getElem?_eq_getElem (by omega)]
          exact HSH.out.1 _ (List.getElem_mem _)
        subst h7
        clear hnc hnx hnl
        go_wp2_with fail
        have hne8 : some wr.heap.size ≠ (Value.slice am L.length dm).ownBlock := fun e => by have := own_lt HOL.out e; omega
        have HC5 : Hid (Copy w5 wr.heap.size x an' ak' cn' ck') := ⟨y0, y1, y2, y3, y4⟩
        have HNL : Hid (∀ y ∈ ns ++ [nx], y.size ≤ 24) := fun y hy => by
          rcases List.mem_append.1 hy with h | h
          · exact HNS.out y h
          · simp at h; subst h; exact hnx24
        have HBA : Hid (Below w5.heap.size w5 (w5.drew.alloc (.cells #[] 9))) := ((Below.refl _ w5).drew).alloc (Nat.le_refl _) _
        have HBB : Hid (Below w5.heap.size w5 ((w5.drew.alloc (.cells #[] 9)).alloc (.cells #[.string nx] 9))) := (((Below.refl _ w5).drew).alloc (Nat.le_refl _) _).alloc (by simp) _
        have HBC : Hid (Below w5.heap.size w5 ((w5.drew.alloc (.cells #[.string nx] 9)).alloc (.cells #[] 9))) := (((Below.refl _ w5).drew).alloc (Nat.le_refl _) _).alloc (by simp) _
        have HSP0 : Hid (∀ W, Below w5.heap.size w5 W → SrcS W (fun b => some b ≠ (Value.slice am L.length dm).ownBlock) a c ns) := fun W hW => HSW.out.keep (fun b _ hb => (hW.block b (by omega)).trans (HB5.out.block b hb)) (fun _ h _ => h) (Nat.le_trans HB5.out.size hW.size)
        have HSA : Hid (SrcS (w5.drew.alloc (.cells #[] 9)) (fun b => some b ≠ (Value.slice am L.length dm).ownBlock) a c ns) := HSP0.out _ HBA.out
        have HSB : Hid (SrcS ((w5.drew.alloc (.cells #[] 9)).alloc (.cells #[.string nx] 9)) (fun b => some b ≠ (Value.slice am L.length dm).ownBlock) a c ns) := HSP0.out _ HBB.out
        have HSC : Hid (SrcS ((w5.drew.alloc (.cells #[.string nx] 9)).alloc (.cells #[] 9)) (fun b => some b ≠ (Value.slice am L.length dm).ownBlock) a c ns) := HSP0.out _ HBC.out
        have HNB : Hid (SrcS ((w5.drew.alloc (.cells #[] 9)).alloc (.cells #[.string nx] 9)) (fun b => some b ≠ some w5.heap.size) (some ⟨w5.heap.size + 1, 0, none⟩) 1 [nx]) := src_newB _ nx _ _ _ (by simp) (by simp)
        have HNC : Hid (SrcS ((w5.drew.alloc (.cells #[.string nx] 9)).alloc (.cells #[] 9)) (fun b => some b ≠ some (w5.heap.size + 1)) (some ⟨w5.heap.size, 0, none⟩) 1 [nx]) := src_past _ nx _ _ _ (src_newB _ nx _ _ _ rfl (by simp))
        have HLC : Hid (((w5.drew.alloc (.cells #[.string nx] 9)).alloc (.cells #[] 9)).ownsRow w5.heap.size 9 1 (.slice (some ⟨w5.heap.size + 1, 0, none⟩) 0 0) 0 []) := by
          have h := lit0 (w5.drew.alloc (.cells #[.string nx] 9)) w5.heap.size (by simp)
          rw [show (w5.drew.alloc (.cells #[.string nx] 9)).heap.size = w5.heap.size + 1 by simp] at h
          exact h
        have HTP : Hid (∀ W, Below w5.heap.size w5 W → TreeIs W (fun b => some b ≠ (Value.slice am L.length dm).ownBlock) x (.agg #[.int .i64 x.kind, .int .i64 x.num, .string x.text, .slice an' x.names.length cn', .slice ak' x.kids.length ck'])) := fun W hW => TreeIs.keep (fun b _ hb => (hW.block b (by omega)).trans (HB5.out.block b hb)) (fun _ h _ => h) (Nat.le_trans HB5.out.size hW.size) _ _ HTR.out
        have HOP : Hid (∀ W, Below w5.heap.size w5 W → OwnsL W B (.slice am L.length dm) L) := fun W hW => row_block HOL.out (fun b _ hb _ => (hW.block b (by omega)).trans (HB5.out.block b hb))
        have HSP : Hid (∀ (W : World) (a7 : Option Addr) (c7 : Nat), SrcS W (fun b => w5.heap.size ≤ b) a7 c7 (ns ++ [nx]) → SrcS W (fun b => some b ≠ (Value.slice am L.length dm).ownBlock) a7 c7 (ns ++ [nx])) := fun W a7 c7 hs => hs.keep (fun _ _ _ => rfl) (fun b hb _ e => by have := own_lt HOL.out e; omega) (Nat.le_refl _)
        have HCALL : Hid (∀ (W : World) (a7 : Option Addr) (c7 : Nat), Below w5.heap.size w5 W → SrcS W (fun b => w5.heap.size ≤ b) a7 c7 (ns ++ [nx]) → Calls Tryd.prog 58 #[.agg #[.int .i64 x.kind, .int .i64 x.num, .string x.text, .slice an' x.names.length cn', .slice ak' x.kids.length ck'], .slice a7 (ns.length + 1) c7, .slice am L.length dm] W fun e w' => ∃ lv', e = .returned lv' ∧ OwnsL w' B lv' (L ++ x.paths (pathL (ns ++ [nx]))) ∧ W.grownBy w' (Value.slice am L.length dm).ownBlock ∧ Moved W.heap.size (Value.slice am L.length dm) lv') := fun W a7 c7 hW hs => by
          have := HS.out _ (.slice am L.length dm) a7 c7 (ns ++ [nx]) L B W (HTP.out W hW) HXN.out HXS.out (HSP.out W a7 c7 hs) (HOP.out W hW) (by have := hW.size; have := HG.out.size; omega) (by omega) (by simp; omega) HNL.out
          rw [List.length_append] at this
          exact this
        go_region_held3 (fun w' => w'.cell? ⟨wr.heap.size, 0, none⟩ = some (.int .i64 x.kind) ∧ w'.cell? ⟨wr.heap.size, 1, none⟩ = some (.int .i64 x.num) ∧ w'.cell? ⟨wr.heap.size, 2, none⟩ = some (.string x.text) ∧ w'.cell? ⟨wr.heap.size, 3, none⟩ = some (.slice an' x.names.length cn') ∧ w'.cell? ⟨wr.heap.size, 4, none⟩ = some (.slice ak' x.kids.length ck')) (first | go_keep | exact K6 | exact K6.alloc hs6 _ | exact K7 | exact K8 | fail) (first | (go_at_call 58; refine (HCALL.out w7 a7 c7 HB7.out HS7.out).mono ?_; rintro e w8 ⟨lv2, rfl, ho2, hg2', hm2⟩; have K8 : Copy w8 wr.heap.size x an' ak' cn' ck' := K7.grown hg2' (Nat.lt_of_lt_of_le (by omega) HB7.out.size) hne8) | (refine step_append_src (S := fun b => some b ≠ (Value.slice am L.length dm).ownBlock) (by rfl) _ _ (by rfl) w5.heap.size (.slice (some ⟨w5.heap.size, 0, none⟩) 0 0) 0 [] (by rfl) (lit0 w5.drew w5.heap.size (Nat.le_refl _)) a c ns (by rfl) HSA.out (by omega) HBA.out.size ?_; intro v6 w6 hown6 hg6; have HB6 : Hid (Below w5.heap.size w5 w6) := grown_below HBA.out HBA.out.size (lit0 w5.drew w5.heap.size (Nat.le_refl _)) hg6; have K6 : Copy w6 wr.heap.size x an' ak' cn' ck' := HC5.out.below HB6.out (by omega); have hs6 : wr.heap.size < w6.heap.size := Nat.lt_of_lt_of_le (by omega) HB6.out.size) | (refine step_append_src (S := fun b => some b ≠ (Value.slice am L.length dm).ownBlock) (by rfl) _ _ (by rfl) w5.heap.size (.slice (some ⟨w5.heap.size, 0, none⟩) 0 0) 0 [] (by rfl) (World.ownsRow.alloc (lit0 w5.drew w5.heap.size (Nat.le_refl _)) _) a c ns (by rfl) HSB.out (by omega) HBB.out.size ?_; intro v6 w6 hown6 hg6; have HB6 : Hid (Below w5.heap.size w5 w6) := grown_below HBB.out HBB.out.size (World.ownsRow.alloc (lit0 w5.drew w5.heap.size (Nat.le_refl _)) _) hg6; have K6 : Copy w6 wr.heap.size x an' ak' cn' ck' := HC5.out.below HB6.out (by omega); have hs6 : wr.heap.size < w6.heap.size := Nat.lt_of_lt_of_le (by omega) HB6.out.size; have HN6 : Hid (SrcS w6 (fun _ => True) (some ⟨w5.heap.size + 1, 0, none⟩) 1 [nx]) := SrcS.keep (S := fun b => some b ≠ some w5.heap.size) (S' := fun _ => True) (fun b' h1 h2 => hg6.block b' h2 h1) (fun _ _ _ => trivial) hg6.size HNB.out) | (refine step_append_src (S := fun b => some b ≠ (Value.slice am L.length dm).ownBlock) (by rfl) _ _ (by rfl) w5.heap.size (.slice (some ⟨w5.heap.size + 1, 0, none⟩) 0 0) 0 [] (by rfl) HLC.out a c ns (by rfl) HSC.out (by omega) HBC.out.size ?_; intro v6 w6 hown6 hg6; have HB6 : Hid (Below w5.heap.size w5 w6) := grown_below HBC.out HBC.out.size HLC.out hg6; have K6 : Copy w6 wr.heap.size x an' ak' cn' ck' := HC5.out.below HB6.out (by omega); have hs6 : wr.heap.size < w6.heap.size := Nat.lt_of_lt_of_le (by omega) HB6.out.size; have HN6 : Hid (SrcS w6 (fun _ => True) (some ⟨w5.heap.size, 0, none⟩) 1 [nx]) := SrcS.keep (S := fun b => some b ≠ some (w5.heap.size + 1)) (S' := fun _ => True) (fun b' h1 h2 => hg6.block b' h2 h1) (fun _ _ _ => trivial) hg6.size HNC.out) | (refine step_append_src (S := fun _ => True) (by rfl) _ _ (by rfl) w5.heap.size v6 (0 + ns.length) ([] ++ nmCells ns) (by rfl) (World.ownsRow.alloc hown6 _) _ 1 [nx] (by rfl) (src_new w6 nx _) (by simp; omega) (by have := HB6.out.size; simp; omega) ?_; intro v7 w7 hown7 hg7; have HB7 : Hid (Below w5.heap.size w5 w7) := grown_below (HB6.out.alloc HB6.out.size _) (by have := HB6.out.size; simp; omega) (World.ownsRow.alloc hown6 _) hg7; have K7 : Copy w7 wr.heap.size x an' ak' cn' ck' := HC5.out.below HB7.out (by omega); obtain ⟨a7, c7, rfl, hs7⟩ := src_row1 hown7; have HS7 : Hid (SrcS w7 (fun b => w5.heap.size ≤ b) a7 c7 (ns ++ [nx])) := hs7; clear hown7 hg7 hs7) | (refine step_append_src (S := fun _ => True) (by rfl) _ _ (by rfl) w5.heap.size v6 (0 + ns.length) ([] ++ nmCells ns) (by rfl) hown6 _ 1 [nx] (by rfl) HN6.out (by simp; omega) HB6.out.size ?_; intro v7 w7 hown7 hg7; have HB7 : Hid (Below w5.heap.size w5 w7) := grown_below HB6.out HB6.out.size hown6 hg7; have K7 : Copy w7 wr.heap.size x an' ak' cn' ck' := HC5.out.below HB7.out (by omega); obtain ⟨a7, c7, rfl, hs7⟩ := src_row1 hown7; have HS7 : Hid (SrcS w7 (fun b => w5.heap.size ≤ b) a7 c7 (ns ++ [nx])) := hs7; clear hown7 hg7 hs7))
        all_goals
          have hL8 : L ++ x.paths (pathL (ns ++ [nx])) = L1 ++ Tr.pathsK (ks.take (m + 1)) 7 nm P 0 := by rw [HST.out, HNF.out, pathL_snoc, ← HP.out]; rfl
          rw [hL8] at ho2
          obtain ⟨L2, hL2⟩ : ∃ L2 : List (List UInt8), L2 = L1 ++ Tr.pathsK (ks.take (m + 1)) 7 nm P 0 := ⟨_, rfl⟩
          rw [← hL2] at ho2
          have HL2 : Hid (L2 = L1 ++ Tr.pathsK (ks.take (m + 1)) 7 nm P 0) := hL2
          obtain ⟨a2, d2, rfl⟩ := ho2.form
          have hgr : wr.grownBy w8 (Value.slice am L.length dm).ownBlock := ⟨hg2'.os.trans (HB7.out.os.trans HB5.out.os), hg2'.tape.trans (HB7.out.tape.trans HB5.out.tape), hg2'.output.trans (HB7.out.output.trans HB5.out.output), Nat.le_trans HB5.out.size (Nat.le_trans HB7.out.size hg2'.size), fun b' hb' hn' => (hg2'.block b' (Nat.lt_of_lt_of_le hb' (Nat.le_trans HB5.out.size HB7.out.size)) hn').trans ((HB7.out.block b' (Nat.lt_of_lt_of_le hb' HB5.out.size)).trans (HB5.out.block b' hb'))⟩
          have HG2 : Hid (w.grownBy w8 (Value.slice la l.length lc).ownBlock) := grown_on HG.out (by rcases HM.out with h | ⟨g', h, hg'⟩; exact .inl h; exact .inr ⟨g', h, by omega⟩) hgr
          have HM2 : Hid (Moved (w.heap.size + 1) (Value.slice la l.length lc) (.slice a2 L2.length d2)) := by
            rcases hm2 with h | ⟨g', h, hg'⟩
            · rcases HM.out with h3 | ⟨g3, h3, hg3⟩
              · exact .inl (h.trans h3)
              · exact .inr ⟨g3, h.trans h3, hg3⟩
            · exact .inr ⟨g', h, by have := HB7.out.size; omega⟩
          have HO2 : Hid (OwnsL w8 B (.slice a2 L2.length d2) L2) := ho2
          have zz2 : w.heap.size < w8.heap.size := Nat.lt_of_lt_of_le hzw hgr.size
          have p0 : w8.cell? ⟨w.heap.size, 0, none⟩ = some (.int .i64 7) := (hgr.cell_far ⟨w.heap.size, 0, none⟩ hzw hnq).trans u0
          have p3 := (hgr.cell_far ⟨w.heap.size, 3, none⟩ hzw hnq).trans u3
          have p4 := (hgr.cell_far ⟨w.heap.size, 4, none⟩ hzw hnq).trans u4
          clear ho2 hg2' hm2 hL2 hgr hL8
          go_wp2_with fail
          go_roundw
          case rel => exact ⟨m + 1, a2, d2, L2, by omega, by go_num, rfl, HL2, HO2, HG2, HM2, zz2, p0, p3, p4⟩
          case measure => simp [intOf]; omega
      · have h7' : (k == 7) = false := by simpa using h7
        have HNF : Hid (nameI k nm m = strL (Lib.decDigits m)) := by show _ = _; unfold nameI; rw [if_neg h7]
        obtain ⟨nx, hnx⟩ : ∃ nx, nx = strL (Lib.decDigits m) := ⟨_, rfl⟩
        rw [← hnx] at HNF ⊢
        have hnx24 : nx.size ≤ 24 := by rw [hnx, strL_size]; exact digits_len m hm20
        clear hnx
        go_wp2_with fail
        have hne8 : some wr.heap.size ≠ (Value.slice am L.length dm).ownBlock := fun e => by have := own_lt HOL.out e; omega
        have HC5 : Hid (Copy w5 wr.heap.size x an' ak' cn' ck') := ⟨y0, y1, y2, y3, y4⟩
        have HNL : Hid (∀ y ∈ ns ++ [nx], y.size ≤ 24) := fun y hy => by
          rcases List.mem_append.1 hy with h | h
          · exact HNS.out y h
          · simp at h; subst h; exact hnx24
        have HBA : Hid (Below w5.heap.size w5 (w5.drew.alloc (.cells #[] 9))) := ((Below.refl _ w5).drew).alloc (Nat.le_refl _) _
        have HBB : Hid (Below w5.heap.size w5 ((w5.drew.alloc (.cells #[] 9)).alloc (.cells #[.string nx] 9))) := (((Below.refl _ w5).drew).alloc (Nat.le_refl _) _).alloc (by simp) _
        have HBC : Hid (Below w5.heap.size w5 ((w5.drew.alloc (.cells #[.string nx] 9)).alloc (.cells #[] 9))) := (((Below.refl _ w5).drew).alloc (Nat.le_refl _) _).alloc (by simp) _
        have HSP0 : Hid (∀ W, Below w5.heap.size w5 W → SrcS W (fun b => some b ≠ (Value.slice am L.length dm).ownBlock) a c ns) := fun W hW => HSW.out.keep (fun b _ hb => (hW.block b (by omega)).trans (HB5.out.block b hb)) (fun _ h _ => h) (Nat.le_trans HB5.out.size hW.size)
        have HSA : Hid (SrcS (w5.drew.alloc (.cells #[] 9)) (fun b => some b ≠ (Value.slice am L.length dm).ownBlock) a c ns) := HSP0.out _ HBA.out
        have HSB : Hid (SrcS ((w5.drew.alloc (.cells #[] 9)).alloc (.cells #[.string nx] 9)) (fun b => some b ≠ (Value.slice am L.length dm).ownBlock) a c ns) := HSP0.out _ HBB.out
        have HSC : Hid (SrcS ((w5.drew.alloc (.cells #[.string nx] 9)).alloc (.cells #[] 9)) (fun b => some b ≠ (Value.slice am L.length dm).ownBlock) a c ns) := HSP0.out _ HBC.out
        have HNB : Hid (SrcS ((w5.drew.alloc (.cells #[] 9)).alloc (.cells #[.string nx] 9)) (fun b => some b ≠ some w5.heap.size) (some ⟨w5.heap.size + 1, 0, none⟩) 1 [nx]) := src_newB _ nx _ _ _ (by simp) (by simp)
        have HNC : Hid (SrcS ((w5.drew.alloc (.cells #[.string nx] 9)).alloc (.cells #[] 9)) (fun b => some b ≠ some (w5.heap.size + 1)) (some ⟨w5.heap.size, 0, none⟩) 1 [nx]) := src_past _ nx _ _ _ (src_newB _ nx _ _ _ rfl (by simp))
        have HLC : Hid (((w5.drew.alloc (.cells #[.string nx] 9)).alloc (.cells #[] 9)).ownsRow w5.heap.size 9 1 (.slice (some ⟨w5.heap.size + 1, 0, none⟩) 0 0) 0 []) := by
          have h := lit0 (w5.drew.alloc (.cells #[.string nx] 9)) w5.heap.size (by simp)
          rw [show (w5.drew.alloc (.cells #[.string nx] 9)).heap.size = w5.heap.size + 1 by simp] at h
          exact h
        have HTP : Hid (∀ W, Below w5.heap.size w5 W → TreeIs W (fun b => some b ≠ (Value.slice am L.length dm).ownBlock) x (.agg #[.int .i64 x.kind, .int .i64 x.num, .string x.text, .slice an' x.names.length cn', .slice ak' x.kids.length ck'])) := fun W hW => TreeIs.keep (fun b _ hb => (hW.block b (by omega)).trans (HB5.out.block b hb)) (fun _ h _ => h) (Nat.le_trans HB5.out.size hW.size) _ _ HTR.out
        have HOP : Hid (∀ W, Below w5.heap.size w5 W → OwnsL W B (.slice am L.length dm) L) := fun W hW => row_block HOL.out (fun b _ hb _ => (hW.block b (by omega)).trans (HB5.out.block b hb))
        have HSP : Hid (∀ (W : World) (a7 : Option Addr) (c7 : Nat), SrcS W (fun b => w5.heap.size ≤ b) a7 c7 (ns ++ [nx]) → SrcS W (fun b => some b ≠ (Value.slice am L.length dm).ownBlock) a7 c7 (ns ++ [nx])) := fun W a7 c7 hs => hs.keep (fun _ _ _ => rfl) (fun b hb _ e => by have := own_lt HOL.out e; omega) (Nat.le_refl _)
        have HCALL : Hid (∀ (W : World) (a7 : Option Addr) (c7 : Nat), Below w5.heap.size w5 W → SrcS W (fun b => w5.heap.size ≤ b) a7 c7 (ns ++ [nx]) → Calls Tryd.prog 58 #[.agg #[.int .i64 x.kind, .int .i64 x.num, .string x.text, .slice an' x.names.length cn', .slice ak' x.kids.length ck'], .slice a7 (ns.length + 1) c7, .slice am L.length dm] W fun e w' => ∃ lv', e = .returned lv' ∧ OwnsL w' B lv' (L ++ x.paths (pathL (ns ++ [nx]))) ∧ W.grownBy w' (Value.slice am L.length dm).ownBlock ∧ Moved W.heap.size (Value.slice am L.length dm) lv') := fun W a7 c7 hW hs => by
          have := HS.out _ (.slice am L.length dm) a7 c7 (ns ++ [nx]) L B W (HTP.out W hW) HXN.out HXS.out (HSP.out W a7 c7 hs) (HOP.out W hW) (by have := hW.size; have := HG.out.size; omega) (by omega) (by simp; omega) HNL.out
          rw [List.length_append] at this
          exact this
        go_region_held3 (fun w' => w'.cell? ⟨wr.heap.size, 0, none⟩ = some (.int .i64 x.kind) ∧ w'.cell? ⟨wr.heap.size, 1, none⟩ = some (.int .i64 x.num) ∧ w'.cell? ⟨wr.heap.size, 2, none⟩ = some (.string x.text) ∧ w'.cell? ⟨wr.heap.size, 3, none⟩ = some (.slice an' x.names.length cn') ∧ w'.cell? ⟨wr.heap.size, 4, none⟩ = some (.slice ak' x.kids.length ck')) (first | go_keep | exact K6 | exact K6.alloc hs6 _ | exact K7 | exact K8 | fail) (first | (go_at_call 58; refine (HCALL.out w7 a7 c7 HB7.out HS7.out).mono ?_; rintro e w8 ⟨lv2, rfl, ho2, hg2', hm2⟩; have K8 : Copy w8 wr.heap.size x an' ak' cn' ck' := K7.grown hg2' (Nat.lt_of_lt_of_le (by omega) HB7.out.size) hne8) | (refine step_append_src (S := fun b => some b ≠ (Value.slice am L.length dm).ownBlock) (by rfl) _ _ (by rfl) w5.heap.size (.slice (some ⟨w5.heap.size, 0, none⟩) 0 0) 0 [] (by rfl) (lit0 w5.drew w5.heap.size (Nat.le_refl _)) a c ns (by rfl) HSA.out (by omega) HBA.out.size ?_; intro v6 w6 hown6 hg6; have HB6 : Hid (Below w5.heap.size w5 w6) := grown_below HBA.out HBA.out.size (lit0 w5.drew w5.heap.size (Nat.le_refl _)) hg6; have K6 : Copy w6 wr.heap.size x an' ak' cn' ck' := HC5.out.below HB6.out (by omega); have hs6 : wr.heap.size < w6.heap.size := Nat.lt_of_lt_of_le (by omega) HB6.out.size) | (refine step_append_src (S := fun b => some b ≠ (Value.slice am L.length dm).ownBlock) (by rfl) _ _ (by rfl) w5.heap.size (.slice (some ⟨w5.heap.size, 0, none⟩) 0 0) 0 [] (by rfl) (World.ownsRow.alloc (lit0 w5.drew w5.heap.size (Nat.le_refl _)) _) a c ns (by rfl) HSB.out (by omega) HBB.out.size ?_; intro v6 w6 hown6 hg6; have HB6 : Hid (Below w5.heap.size w5 w6) := grown_below HBB.out HBB.out.size (World.ownsRow.alloc (lit0 w5.drew w5.heap.size (Nat.le_refl _)) _) hg6; have K6 : Copy w6 wr.heap.size x an' ak' cn' ck' := HC5.out.below HB6.out (by omega); have hs6 : wr.heap.size < w6.heap.size := Nat.lt_of_lt_of_le (by omega) HB6.out.size; have HN6 : Hid (SrcS w6 (fun _ => True) (some ⟨w5.heap.size + 1, 0, none⟩) 1 [nx]) := SrcS.keep (S := fun b => some b ≠ some w5.heap.size) (S' := fun _ => True) (fun b' h1 h2 => hg6.block b' h2 h1) (fun _ _ _ => trivial) hg6.size HNB.out) | (refine step_append_src (S := fun b => some b ≠ (Value.slice am L.length dm).ownBlock) (by rfl) _ _ (by rfl) w5.heap.size (.slice (some ⟨w5.heap.size + 1, 0, none⟩) 0 0) 0 [] (by rfl) HLC.out a c ns (by rfl) HSC.out (by omega) HBC.out.size ?_; intro v6 w6 hown6 hg6; have HB6 : Hid (Below w5.heap.size w5 w6) := grown_below HBC.out HBC.out.size HLC.out hg6; have K6 : Copy w6 wr.heap.size x an' ak' cn' ck' := HC5.out.below HB6.out (by omega); have hs6 : wr.heap.size < w6.heap.size := Nat.lt_of_lt_of_le (by omega) HB6.out.size; have HN6 : Hid (SrcS w6 (fun _ => True) (some ⟨w5.heap.size, 0, none⟩) 1 [nx]) := SrcS.keep (S := fun b => some b ≠ some (w5.heap.size + 1)) (S' := fun _ => True) (fun b' h1 h2 => hg6.block b' h2 h1) (fun _ _ _ => trivial) hg6.size HNC.out) | (refine step_append_src (S := fun _ => True) (by rfl) _ _ (by rfl) w5.heap.size v6 (0 + ns.length) ([] ++ nmCells ns) (by rfl) (World.ownsRow.alloc hown6 _) _ 1 [nx] (by rfl) (src_new w6 nx _) (by simp; omega) (by have := HB6.out.size; simp; omega) ?_; intro v7 w7 hown7 hg7; have HB7 : Hid (Below w5.heap.size w5 w7) := grown_below (HB6.out.alloc HB6.out.size _) (by have := HB6.out.size; simp; omega) (World.ownsRow.alloc hown6 _) hg7; have K7 : Copy w7 wr.heap.size x an' ak' cn' ck' := HC5.out.below HB7.out (by omega); obtain ⟨a7, c7, rfl, hs7⟩ := src_row1 hown7; have HS7 : Hid (SrcS w7 (fun b => w5.heap.size ≤ b) a7 c7 (ns ++ [nx])) := hs7; clear hown7 hg7 hs7) | (refine step_append_src (S := fun _ => True) (by rfl) _ _ (by rfl) w5.heap.size v6 (0 + ns.length) ([] ++ nmCells ns) (by rfl) hown6 _ 1 [nx] (by rfl) HN6.out (by simp; omega) HB6.out.size ?_; intro v7 w7 hown7 hg7; have HB7 : Hid (Below w5.heap.size w5 w7) := grown_below HB6.out HB6.out.size hown6 hg7; have K7 : Copy w7 wr.heap.size x an' ak' cn' ck' := HC5.out.below HB7.out (by omega); obtain ⟨a7, c7, rfl, hs7⟩ := src_row1 hown7; have HS7 : Hid (SrcS w7 (fun b => w5.heap.size ≤ b) a7 c7 (ns ++ [nx])) := hs7; clear hown7 hg7 hs7))
        all_goals
          have hL8 : L ++ x.paths (pathL (ns ++ [nx])) = L1 ++ Tr.pathsK (ks.take (m + 1)) k nm P 0 := by rw [HST.out, HNF.out, pathL_snoc, ← HP.out]; rfl
          rw [hL8] at ho2
          obtain ⟨L2, hL2⟩ : ∃ L2 : List (List UInt8), L2 = L1 ++ Tr.pathsK (ks.take (m + 1)) k nm P 0 := ⟨_, rfl⟩
          rw [← hL2] at ho2
          have HL2 : Hid (L2 = L1 ++ Tr.pathsK (ks.take (m + 1)) k nm P 0) := hL2
          obtain ⟨a2, d2, rfl⟩ := ho2.form
          have hgr : wr.grownBy w8 (Value.slice am L.length dm).ownBlock := ⟨hg2'.os.trans (HB7.out.os.trans HB5.out.os), hg2'.tape.trans (HB7.out.tape.trans HB5.out.tape), hg2'.output.trans (HB7.out.output.trans HB5.out.output), Nat.le_trans HB5.out.size (Nat.le_trans HB7.out.size hg2'.size), fun b' hb' hn' => (hg2'.block b' (Nat.lt_of_lt_of_le hb' (Nat.le_trans HB5.out.size HB7.out.size)) hn').trans ((HB7.out.block b' (Nat.lt_of_lt_of_le hb' HB5.out.size)).trans (HB5.out.block b' hb'))⟩
          have HG2 : Hid (w.grownBy w8 (Value.slice la l.length lc).ownBlock) := grown_on HG.out (by rcases HM.out with h | ⟨g', h, hg'⟩; exact .inl h; exact .inr ⟨g', h, by omega⟩) hgr
          have HM2 : Hid (Moved (w.heap.size + 1) (Value.slice la l.length lc) (.slice a2 L2.length d2)) := by
            rcases hm2 with h | ⟨g', h, hg'⟩
            · rcases HM.out with h3 | ⟨g3, h3, hg3⟩
              · exact .inl (h.trans h3)
              · exact .inr ⟨g3, h.trans h3, hg3⟩
            · exact .inr ⟨g', h, by have := HB7.out.size; omega⟩
          have HO2 : Hid (OwnsL w8 B (.slice a2 L2.length d2) L2) := ho2
          have zz2 : w.heap.size < w8.heap.size := Nat.lt_of_lt_of_le hzw hgr.size
          have p0 : w8.cell? ⟨w.heap.size, 0, none⟩ = some (.int .i64 k) := (hgr.cell_far ⟨w.heap.size, 0, none⟩ hzw hnq).trans u0
          have p3 := (hgr.cell_far ⟨w.heap.size, 3, none⟩ hzw hnq).trans u3
          have p4 := (hgr.cell_far ⟨w.heap.size, 4, none⟩ hzw hnq).trans u4
          clear ho2 hg2' hm2 hL2 hgr hL8
          go_wp2_with fail
          go_roundw
          case rel => exact ⟨m + 1, a2, d2, L2, by omega, by go_num, rfl, HL2, HO2, HG2, HM2, zz2, p0, p3, p4⟩
          case measure => simp [intOf]; omega
    · obtain rfl : m = ks.length := by omega
      rw [List.take_length] at HL
      clear hct hLl
      go_wp2
      go_ret
      refine ⟨_, rfl, ?_, HG.out, ?_⟩
      · rw [← HP.out, HF.out, show l ++ P :: Tr.pathsK ks k nm P 0 = L by rw [HL.out, HL1.out, List.append_assoc]; rfl]
        exact HOL.out
      · rcases HM.out with h | ⟨g', h, hg'⟩
        · exact .inl h
        · exact .inr ⟨g', h, by omega⟩

theorem l3Paths_any (t : Tr) : PathsSaid t := Tr.ind (P := PathsSaid) (fun k n t nm ks ih => l3Paths_step k n t nm ks ih) t

end Go.Proofs.YthgjelbhhdomdaaDoor
