/- What a filter matches, told on trees. No program in this text. Rows of terms while they are built, kept away from some blocks. One term without kids put behind others: the program's appendTerms at a row of one. How clauses lie in memory. Rows of clauses while they are built. The program's clauseAt: the clause of a filter's term. The program's plainOf, turnedOf and eachOf: clauses turned. The program's plainOf and turnedOf. The program's appendKids and appendClause: a clause told as terms. The program's appendClause. -/
import Derived.Test.YtjohocnfcnjciaaGreatDoorQPlN
import Derived.Test.YtjohocnfcnjciaaGreatDoorQGoodOk
import Derived.Test.YtjohocnfcnjciaaGreatDoorQClT
import Derived.Test.YtjohocnfcnjciaaGreatDoorQuote
namespace Go.Proofs.YtjohocnfcnjciaaGreatDoor
open Go.RowKit
set_option linter.unusedVariables false

/-- A term that stands alone, asked of a tree. -/
def leafM (x : Tm) (t : Tr) : Bool :=
  match getT t (nmsL x.path) with
  | none => false
  | some y =>
    if x.kind = 4 then true
    else if x.kind = 5 then (tree x.N x.n 0).kids.any fun p => y.cmp p == 0
    else if y.kind ≠ (tree x.N x.n 0).kind then false
    else if x.kind = 2 then decide (y.cmp (tree x.N x.n 0) < 0)
    else if x.kind = 3 then decide (0 < y.cmp (tree x.N x.n 0))
    else y.cmp (tree x.N x.n 0) == 0
mutual
/-- A clause, asked of a tree. -/
def Cl.hits (t : Tr) : Cl → Bool
  | .leaf x => leafM x t
  | .all l => Cl.hitsAll t l
  | .any l => Cl.hitsAny t l
  | .neg c => !(c.hits t)
def Cl.hitsAll (t : Tr) : List Cl → Bool
  | [] => true
  | c :: l => c.hits t && Cl.hitsAll t l
def Cl.hitsAny (t : Tr) : List Cl → Bool
  | [] => false
  | c :: l => c.hits t || Cl.hitsAny t l
end
theorem hitsAll_is (t : Tr) : ∀ l : List Cl, Cl.hitsAll t l = l.all (Cl.hits t)
  | [] => by simp [Cl.hitsAll]
  | c :: l => by simp [Cl.hitsAll, hitsAll_is t l]
theorem hitsAny_is (t : Tr) : ∀ l : List Cl, Cl.hitsAny t l = l.any (Cl.hits t)
  | [] => by simp [Cl.hitsAny]
  | c :: l => by simp [Cl.hitsAny, hitsAny_is t l]
theorem all_fails {l : List Cl} {t : Tr} {j : Nat} {c : Cl} (h : l[j]? = some c) (hc : c.hits t = false) : (Cl.all l).hits t = false := by
  rw [Cl.hits, hitsAll_is]
  rw [List.all_eq_false]
  exact ⟨c, List.mem_of_getElem? h, by simp [hc]⟩
theorem all_holds {l : List Cl} {t : Tr} (h : ∀ (j : Nat) (c : Cl), j < l.length → l[j]? = some c → c.hits t = true) : (Cl.all l).hits t = true := by
  rw [Cl.hits, hitsAll_is]
  rw [List.all_eq_true]
  intro c hc
  obtain ⟨j, hj, e⟩ := List.mem_iff_getElem.1 hc
  exact h j c hj (by rw [List.getElem?_eq_getElem hj, e])
theorem any_holds {l : List Cl} {t : Tr} {j : Nat} {c : Cl} (h : l[j]? = some c) (hc : c.hits t = true) : (Cl.any l).hits t = true := by
  rw [Cl.hits, hitsAny_is]
  rw [List.any_eq_true]
  exact ⟨c, List.mem_of_getElem? h, hc⟩
theorem any_fails {l : List Cl} {t : Tr} (h : ∀ (j : Nat) (c : Cl), j < l.length → l[j]? = some c → c.hits t = false) : (Cl.any l).hits t = false := by
  rw [Cl.hits, hitsAny_is]
  rw [List.any_eq_false]
  intro c hc
  obtain ⟨j, hj, e⟩ := List.mem_iff_getElem.1 hc
  simp [h j c hj (by rw [List.getElem?_eq_getElem hj, e])]

theorem or2_zero_iff {a b : Int} : or2 a b = 0 ↔ a = 0 ∧ b = 0 := by
  unfold or2
  by_cases h : a = 0
  · simp [h]
  · simp [h]
theorem ndCmp_zero {x y : Nd} : ndCmp x y = 0 ↔ x = y := by
  unfold ndCmp
  rw [or2_zero_iff, or2_zero_iff, or2_zero_iff, or2_zero_iff, intCmp_zero, intCmp_zero, intCmp_zero]
  constructor
  · rintro ⟨h1, h2, h3, h4, h5⟩
    have e2 := txtCmp_zero h2
    have e5 := txtCmp_zero h5
    cases x; cases y
    simp_all
  · rintro rfl
    exact ⟨rfl, txtCmp_self _, rfl, rfl, txtCmp_self _⟩
theorem lexN_zero : ∀ {a b : List Nd}, lexN a b = 0 ↔ a = b
  | [], [] => by simp [lexN]
  | [], _ :: _ => by simp [lexN]
  | _ :: _, [] => by simp [lexN]
  | x :: a, y :: b => by
    rw [lexN, or2_zero_iff, ndCmp_zero, lexN_zero (a := a) (b := b)]
    simp
/-- Trees in a place are the same row of nodes just where they are the same. -/
theorem flat_same {a b : Tr} (ha : a.ok) (hb : b.ok) (up p : Nat) (hup : up < p) : a.flat ByteArray.empty (up : Int) p = b.flat ByteArray.empty (up : Int) p ↔ a.cmp b = 0 := by
  have := (cmp_flat a b ha hb).1 ByteArray.empty ByteArray.empty (up : Int) p [] [] (by omega) (fun x h => by simp at h) (fun x h => by simp at h)
  rw [List.append_nil, List.append_nil, txtCmp_self, or2_zero] at this
  rw [← lexN_zero, this]
  rw [or2_zero_iff]
  simp [lexN]
theorem cmp_kind {a b : Tr} (h : a.cmp b = 0) : a.kind = b.kind := by
  obtain ⟨k, n, t, nm, ks⟩ := a
  rw [Tr.cmp, or2_zero_iff, intCmp_zero] at h
  exact h.1
/-- The nodes of a part of a good value, as a part of another, are its tree in that place. -/
theorem sub_part {N : Nat → Nd} {n k e : Nat} (h : GoodV N n) (hk : k < n) (he : IsEnd N n k e) (p : Nat) : partL (fun i => (subTo N k e).getD i ⟨0, 0, ⟨#[]⟩, ⟨#[]⟩, 0⟩) (subTo N k e).length p 0 ⟨#[]⟩ = (tree N n k).flat ByteArray.empty ((0 : Nat) : Int) p := by
  rw [flat_tree (good_pre h) (good_noNames h) (n - k) k rfl hk e he]
  have hl : (subTo N k e).length = (e - (k + 1)) + 1 := subTo_len N k e
  unfold partL
  rw [hl, List.range_succ_eq_map, List.map_cons, List.map_map]
  congr 1
  unfold seg
  rw [List.range'_eq_map_range, List.map_map]
  refine List.map_congr_left fun i hi => ?_
  have hi' : i < e - (k + 1) := by simpa using hi
  show partN _ p 0 _ (i + 1) = { N (k + 1 + i) with up := (N (k + 1 + i)).up - ((k : Int) - p) }
  unfold partN
  rw [if_neg (by omega)]
  have hg : (subTo N k e).getD (i + 1) ⟨0, 0, ⟨#[]⟩, ⟨#[]⟩, 0⟩ = { N (k + 1 + i) with up := (N (k + 1 + i)).up - k } := by
    unfold subTo seg
    rw [List.getD_eq_getElem?_getD, List.getElem?_cons_succ, List.getElem?_map, List.getElem?_range' hi']
    simp
  dsimp only at hg ⊢
  rw [hg]
  dsimp only
  congr 1
  omega
/-- The nodes of a part of a list are its tree in its place. -/
theorem part_place {X : Nat → Nd} {m p e : Nat} (h : GoodV X m) (h6 : (X 0).kind = 6) (hp : p ∈ kidsTo X 0 m) (he : IsEnd X m p e) : (List.range' p (e - p)).map X = (tree X m p).flat ByteArray.empty ((0 : Nat) : Int) p := by
  obtain ⟨h1, h2, h3⟩ := kidsTo_mem hp
  rw [flat_tree (good_pre h) (good_noNames h) (m - p) p rfl h2 e he]
  have hpar : par X p = 0 := by unfold par; rw [h3]; rfl
  have hn : (X p).name = ByteArray.empty := good_noNames h p h1 h2 (by rw [hpar, h6]; decide)
  have he1 := he.1
  rw [show e - p = (e - (p + 1)) + 1 by omega, List.range'_succ, List.map_cons]
  congr 1
  · have : X p = ⟨(X p).kind, (X p).num, (X p).text, (X p).name, (X p).up⟩ := rfl
    rw [this, hn, h3]
  · unfold seg
    refine List.map_congr_left fun i hi => ?_
    simp
theorem part_hit {N X : Nat → Nd} {n k e m p q : Nat} (h : GoodV N n) (hk : k < n) (he : IsEnd N n k e) (hX : GoodV X m) (h6 : (X 0).kind = 6) (hp : p ∈ kidsTo X 0 m) (hq : IsEnd X m p q) :
    (List.range' p (q - p)).map X = partL (fun i => (subTo N k e).getD i ⟨0, 0, ⟨#[]⟩, ⟨#[]⟩, 0⟩) (subTo N k e).length p 0 ⟨#[]⟩ ↔ (tree N n k).cmp (tree X m p) = 0 := by
  obtain ⟨h1, h2, h3⟩ := kidsTo_mem hp
  rw [sub_part h hk he p, part_place hX h6 hp hq, ← flat_same (good_okAt h hk) (good_okAt hX h2) 0 p h1]
  exact eq_comm
theorem tree_kids {X : Nat → Nd} {m : Nat} (h0 : 0 < m) : (tree X m 0).kids = (kidsTo X 0 m).map (tree X m) := by
  rw [tree_eq h0]
  rfl

end Go.Proofs.YtjohocnfcnjciaaGreatDoor
namespace Go.Proofs.YtjohocnfcnjciaaGreatDoor
open Go.RowKit
set_option linter.unusedVariables false

theorem grown_after {w w1 w3 : World} {o : Option Nat} (hb : Below w.heap.size w w1) (hg : w1.grownBy w3 o) : w.grownBy w3 o := by
  have z := hb.size
  have z2 := hg.size
  exact ⟨hg.os.trans hb.os, hg.tape.trans hb.tape, hg.output.trans hb.output, by omega, fun b hlt hne => (hg.block b (by omega) hne).trans (hb.block b hlt)⟩
theorem grown_chain {w w1 w3 : World} {o o' : Option Nat} (hg1 : w.grownBy w1 o) (ho : ∀ g, o' = some g → o = some g ∨ w.heap.size ≤ g) (hg : w1.grownBy w3 o') : w.grownBy w3 o := by
  have z := hg1.size
  have z2 := hg.size
  refine ⟨hg.os.trans hg1.os, hg.tape.trans hg1.tape, hg.output.trans hg1.output, by omega, fun b hlt hne => (hg.block b (by omega) ?_).trans (hg1.block b hlt hne)⟩
  intro e
  rcases ho b e.symm with h | h
  · exact hne h.symm
  · omega
/-- v' is a row that goes on where v was, or lies in a new block. -/
def Onward (w : World) (v v' : Value) : Prop := ∀ g, v'.ownBlock = some g → v.ownBlock = some g ∨ w.heap.size ≤ g

/-- A row of k terms F, of its own from B on, none of its blocks in X. -/
def TBldX (w : World) (B : Nat) (X : Nat → Prop) (v : Value) (k : Nat) (F : Nat → Tm) (R : Nat → Tc) : Prop := ∃ (P Q : Nat → Nat), w.ownsRow B 90 4 v k (termL R k) ∧ (∀ i, i < k → TermOwn w (P i) (Q i) (R i) (F i)) ∧
  (∀ i, i < k → B ≤ P i ∧ Q i ≤ w.heap.size ∧ ∀ g, v.ownBlock = some g → g < P i ∨ Q i ≤ g) ∧ (∀ i j, i < j → j < k → Q i ≤ P j ∨ Q j ≤ P i) ∧ (∀ g, v.ownBlock = some g → ¬ X g) ∧ ∀ i, i < k → ∀ g, X g → g < P i ∨ Q i ≤ g
theorem TBldX.row {w : World} {B : Nat} {X : Nat → Prop} {v : Value} {k : Nat} {F : Nat → Tm} {R : Nat → Tc} (h : TBldX w B X v k F R) : w.ownsRow B 90 4 v k (termL R k) := by
  obtain ⟨P, Q, h1, _⟩ := h
  exact h1
theorem TBldX.bld {w : World} {B : Nat} {X : Nat → Prop} {v : Value} {k : Nat} {F : Nat → Tm} {R : Nat → Tc} (h : TBldX w B X v k F R) : TBld w B v k F := by
  obtain ⟨P, Q, h1, h2, h3, h4, _⟩ := h
  exact ⟨R, P, Q, h1, h2, h3, h4⟩
theorem TBldX.nil (w : World) (B : Nat) (X : Nat → Prop) (F : Nat → Tm) : TBldX w B X (.slice none 0 0) 0 F (fun _ => zeroTc) := ⟨fun _ => 0, fun _ => 0, World.ownsRow_nil _ _ _ _, fun i h => by omega, fun i h => by omega, fun i j _ h => by omega, fun g h => by simp [Value.ownBlock] at h, fun i h => by omega⟩
theorem TBldX.away {w : World} {B : Nat} {X : Nat → Prop} {v : Value} {k : Nat} {F : Nat → Tm} {R : Nat → Tc} (h : TBldX w B X v k F R) : ∀ g, v.ownBlock = some g → ¬ X g := by
  obtain ⟨P, Q, h1, h2, h3, h4, h5, h6⟩ := h
  exact h5
theorem TBldX.old {w : World} {B : Nat} {X : Nat → Prop} {v : Value} {k : Nat} {F : Nat → Tm} {R : Nat → Tc} (h : TBldX w B X v k F R) : ∀ q, v.ownBlock = some q → B ≤ q ∧ q < w.heap.size := fun q hq => by
  rcases row_open h.row with ⟨rfl, _⟩ | ⟨g', cap', rfl, g1, g2, _⟩
  · simp [Value.ownBlock] at hq
  · simp [Value.ownBlock] at hq; omega
theorem TBldX.below {w w' : World} {B : Nat} {X : Nat → Prop} {v : Value} {k : Nat} {F : Nat → Tm} {R : Nat → Tc} (h : TBldX w B X v k F R) (hb : Below w.heap.size w w') : TBldX w' B X v k F R := by
  obtain ⟨P, Q, h1, h2, h3, h4, h5, h6⟩ := h
  exact ⟨P, Q, row_keep h1 hb, fun i hi => (h2 i hi).below hb, fun i hi => ⟨(h3 i hi).1, Nat.le_trans (h3 i hi).2.1 hb.size, (h3 i hi).2.2⟩, h4, h5, h6⟩
/-- Blocks that are not there yet are away. -/
theorem TBldX.more {w : World} {B : Nat} {X Y : Nat → Prop} {v : Value} {k : Nat} {F : Nat → Tm} {R : Nat → Tc} (h : TBldX w B X v k F R) (hY : ∀ g, Y g → X g ∨ w.heap.size ≤ g) : TBldX w B Y v k F R := by
  have hold := h.old
  obtain ⟨P, Q, h1, h2, h3, h4, h5, h6⟩ := h
  refine ⟨P, Q, h1, h2, h3, h4, fun g hg hy => ?_, fun i hi g hy => ?_⟩
  · rcases hY g hy with h | h
    · exact h5 g hg h
    · have := hold g hg; omega
  · rcases hY g hy with h | h
    · exact h6 i hi g h
    · have := h3 i hi; omega
theorem row_far {w w' : World} {B : Nat} {e : TypeId} {z : Nat} {v : Value} {n : Nat} {xs : List Value} {o : Option Nat} (h : w.ownsRow B e z v n xs) (hg : w.grownBy w' o) (hne : ∀ g, o = some g → v.ownBlock ≠ some g) : w'.ownsRow B e z v n xs := by
  refine ⟨h.1, ?_⟩
  rcases h.2 with hn | ⟨g, cap, cur, rfl, hB, hgg, rest⟩
  · exact .inl hn
  · refine .inr ⟨g, cap, cur, rfl, hB, (hg.block g (Array.getElem?_eq_some_iff.1 hgg).1 (fun e => ?_)).trans hgg, rest⟩
    exact hne g e.symm rfl
/-- What is written into blocks of X, or is new, leaves them. -/
theorem TBldX.far {w w' : World} {B : Nat} {X : Nat → Prop} {v : Value} {k : Nat} {F : Nat → Tm} {R : Nat → Tc} {o : Option Nat} (h : TBldX w B X v k F R) (hg : w.grownBy w' o) (ho : ∀ g, o = some g → X g) : TBldX w' B X v k F R := by
  obtain ⟨P, Q, h1, h2, h3, h4, h5, h6⟩ := h
  exact ⟨P, Q, row_far h1 hg (fun g hg hv => h5 g hv (ho g hg)), fun i hi => grown_term (h2 i hi) hg (fun g e => h6 i hi g (ho g e)), fun i hi => ⟨(h3 i hi).1, Nat.le_trans (h3 i hi).2.1 hg.size, (h3 i hi).2.2⟩, h4, h5, h6⟩
/-- A term of its own is put to the row: in new blocks, or in one of X. -/
theorem TBldX.next {w w1 w3 : World} {B lo hi : Nat} {X Y : Nat → Prop} {v : Value} {k g cap : Nat} {F : Nat → Tm} {R : Nat → Tc} {x : Tc} {y : Tm} {u : Value} (h : TBldX w B X v k F R) (hB : B ≤ lo) (hb : Below w.heap.size w w1) (hy : TermOwn w1 lo hi x y) (hhi : hi ≤ w1.heap.size)
    (hap : w.heap.size ≤ lo ∨ (hi = lo + 1 ∧ X lo)) (hYX : ∀ q, Y q → X q ∧ (q < lo ∨ hi ≤ q)) (hXw : ∀ q, X q → q < w.heap.size)
    (hg : w1.grownBy w3 v.ownBlock) (hat : v.ownBlock = some g ∨ w1.heap.size ≤ g) (hu : u = .slice (some ⟨g, 0, none⟩) (k + 1) cap)
    (hown : w3.ownsRow B 90 4 u (k + 1) (termL R k ++ tcC x)) :
    TBldX w3 B Y u (k + 1) (fun i => if i = k then y else F i) (fun i => if i = k then x else R i) := by
  have hold := h.old
  obtain ⟨P, Q, h1, h2, h3, h4, h5, h6⟩ := h
  have z1 := hb.size
  have z2 := hg.size
  have hvin : ∀ q, v.ownBlock = some q → q < lo ∨ hi ≤ q := fun q hq => by
    have := hold q hq
    rcases hap with h | ⟨h, hx⟩
    · omega
    · by_cases e : q = lo
      · subst e; exact absurd hx (h5 q hq)
      · omega
  have hapart : ∀ i, i < k → hi ≤ P i ∨ Q i ≤ lo := fun i hi' => by
    have h0 := (h3 i hi').2.1
    rcases hap with h | ⟨h, hx⟩
    · omega
    · have := h6 i hi' lo hx; omega
  have hub : u.ownBlock = some g := by rw [hu]; rfl
  refine ⟨fun i => if i = k then lo else P i, fun i => if i = k then hi else Q i, ?_, fun i hi' => ?_, fun i hi' => ?_, fun i j hij hj => ?_, fun q hq hy' => ?_, fun i hi' q hq => ?_⟩
  · have e : termL (fun i => if i = k then x else R i) (k + 1) = termL R k ++ tcC x := by
      unfold termL
      rw [rowL]
      simp only [if_true]
      rw [rowL_same k (g := fun i => tcC (R i)) (fun i hi => by simp only [if_neg (show ¬ i = k by omega)])]
    rw [e]
    exact hown
  · by_cases e : i = k
    · subst e
      simp only [if_true]
      exact grown_term hy hg hvin
    · simp only [if_neg e]
      exact grown_term ((h2 i (by omega)).below hb) hg (h3 i (by omega)).2.2
  · rw [hub]
    by_cases e : i = k
    · subst e
      simp only [if_true]
      refine ⟨hB, by omega, fun q hq => ?_⟩
      injection hq with hq
      subst hq
      rcases hat with h | h
      · exact hvin _ h
      · exact .inr (by omega)
    · simp only [if_neg e]
      obtain ⟨p1, p2, p3⟩ := h3 i (by omega)
      refine ⟨p1, by omega, fun q hq => ?_⟩
      injection hq with hq
      subst hq
      rcases hat with h | h
      · exact p3 _ h
      · omega
  · have e : i ≠ k := by omega
    simp only [if_neg e]
    by_cases e2 : j = k
    · simp only [if_pos e2]
      have := hapart i (by omega)
      omega
    · simp only [if_neg e2]
      exact h4 i j hij (by omega)
  · rw [hub] at hq
    injection hq with hq
    subst hq
    have := hYX _ hy'
    rcases hat with h | h
    · exact h5 _ h this.1
    · have := hXw _ this.1; omega
  · have hx := hYX q hq
    by_cases e : i = k
    · subst e
      simp only [if_true]
      exact hx.2
    · simp only [if_neg e]
      exact h6 i (by omega) q hx.1

end Go.Proofs.YtjohocnfcnjciaaGreatDoor
namespace Go.Proofs.YtjohocnfcnjciaaGreatDoor
open Go.RowKit
set_option linter.unusedVariables false

set_option maxRecDepth 100000 in
set_option maxHeartbeats 4000000 in
theorem appendTerms_one (B : Nat) (w w1 : World) (v : Value) (k : Nat) (F : Nat → Tm) (b : Nat) (kd : Int) (p : ByteArray) (va' : Option Addr) (n vc' : Nat) (N : Nat → Nd) (ka : Option Addr) (kc : Nat) (X : Nat → Prop) (R : Nat → Tc) (hT : TBldX w B X v k F R) (hX : ∀ q, X q → q < w.heap.size) (hB : B ≤ w.heap.size) (hk : k ≤ 2 ^ 22) (hb : Below w.heap.size w w1) (hbl : b < w1.heap.size)
    (a0 : w1.cell? ⟨b, 0, none⟩ = some (.int .i64 kd)) (a1 : w1.cell? ⟨b, 1, none⟩ = some (.string p)) (a2 : w1.cell? ⟨b, 2, none⟩ = some (.slice va' n vc')) (a3 : w1.cell? ⟨b, 3, none⟩ = some (.slice ka 0 kc)) (hn : ArgIs w1 va' n N) (hn20 : n ≤ 2 ^ 20) :
    Calls Tryz.prog 70 #[v, .slice (some ⟨b, 0, none⟩) 1 1] w1 fun e w' => ∃ v' R', e = .returned v' ∧ TBldX w' B X v' (k + 1) (fun i => if i = k then ⟨kd, p, n, N, 0, fun _ => 0⟩ else F i) R' ∧ w1.grownBy w' v.ownBlock ∧ Onward w1 v v' := by
  obtain ⟨va, vc, rfl⟩ := hT.bld.form
  have HT : Hid (TBldX w B X (.slice va k vc) k F R) := hT
  have HX : Hid (∀ q, X q → q < w.heap.size) := hX
  have HB : Hid (Below w.heap.size w w1) := hb
  have HV : Hid (ArgIs w1 va' n N) := hn
  have zB := hb.size
  clear hT hb hn hX
  obtain ⟨iT, hi, hz0, hz1, hz2⟩ := info_parts infoTerm
  have HIT : Hid (Tryz.prog.info? 90 = some iT ∧ iT.zero = some (.agg #[.int .i64 0, .string ⟨#[]⟩, .slice none 0 0, .slice none 0 0]) ∧ iT.size = 4 ∧ iT.bytes = 72) := ⟨hi, hz0, hz1, hz2⟩
  clear hi hz0 hz1 hz2
  go_enter Tryz.func70, Tryz.ntmps70
  go_wp2_with fail
  go_loopw [0, 16] (fun v i wr => (v = .slice va k vc ∧ i = .int .i64 0 ∧ wr = w1) ∨ ∃ (va2 : Option Addr) (vc2 : Nat), v = .slice va2 (k + 1) vc2 ∧ i = .int .i64 1 ∧ (w1.grownBy wr (Value.slice va k vc).ownBlock ∧ Onward w1 (.slice va k vc) (.slice va2 (k + 1) vc2)) ∧ Hid (∃ R', TBldX wr B X (.slice va2 (k + 1) vc2) (k + 1) (fun i => if i = k then ⟨kd, p, n, N, 0, fun _ => 0⟩ else F i) R')) (fun _ i _ => 1 - (intOf i).toNat)
  case atStart => exact .inl ⟨rfl, rfl, rfl⟩
  case round =>
    rcases hrel with ⟨rfl, rfl, rfl⟩ | ⟨va2, vc2, rfl, rfl, hnx, HT2⟩
    · rename World => x0
      go_wp2_with fail
      obtain ⟨X1, hX1⟩ : ∃ X1, X1 = x0.alloc (.cells #[.int .i64 kd, .string p, .slice va' n vc', .slice ka 0 kc] 90) := ⟨_, rfl⟩
      have zX : x0.heap.size < X1.heap.size := by rw [hX1]; simp
      have bX : Below x0.heap.size x0 X1 := by rw [hX1]; exact (Below.refl _ _).alloc (Nat.le_refl _) _
      have t0 : X1.cell? ⟨x0.heap.size, 0, none⟩ = some (.int .i64 kd) := by rw [hX1]; simp [World.cell?_alloc_new]
      have t1 : X1.cell? ⟨x0.heap.size, 1, none⟩ = some (.string p) := by rw [hX1]; simp [World.cell?_alloc_new]
      have t2 : X1.cell? ⟨x0.heap.size, 2, none⟩ = some (.slice va' n vc') := by rw [hX1]; simp [World.cell?_alloc_new]
      have t3 : X1.cell? ⟨x0.heap.size, 3, none⟩ = some (.slice ka 0 kc) := by rw [hX1]; simp [World.cell?_alloc_new]
      rw [← hX1]
      clear hX1 a0 a1 a2 a3
      go_loopw [8, 23] (fun kv i wr => kv = .slice none 0 0 ∧ i = .int .i64 0 ∧ wr = X1) (fun _ _ _ => 0)
      case atStart => exact ⟨rfl, rfl, rfl⟩
      case round =>
        obtain ⟨rfl, rfl, rfl⟩ := hrel
        rename World => X1
        have HAN : Hid (ArgIs X1 va' n N) := HV.out.below bX
        go_wp2_with (first | (at_builtin; refine wpList_append_nodes rfl _ _ rfl X1.heap.size (.slice none 0 0) rfl (World.ownsRow_nil _ _ _ _) va' n vc' N rfl HAN.out (by omega) (Nat.le_refl _) ?_))
        intro v2 w2 hown2 hg2
        have z3 := hg2.size
        have n30 : n ≤ 2 ^ 30 := by omega
        obtain ⟨av, cv, gv, rfl, hcv, hgv, hov⟩ := own_nodeL hown2 n30
        have r0 : w2.cell? ⟨x0.heap.size, 0, none⟩ = some (.int .i64 kd) := (hg2.cell_far _ (by show x0.heap.size < _; omega) (by simp [Value.ownBlock])).trans t0
        have r1 : w2.cell? ⟨x0.heap.size, 1, none⟩ = some (.string p) := (hg2.cell_far _ (by show x0.heap.size < _; omega) (by simp [Value.ownBlock])).trans t1
        have bw2 : Below X1.heap.size X1 w2 := (Below.refl _ _).grown hg2 (Nat.le_refl _) (fun k hk => by simp [Value.ownBlock] at hk)
        have HBx : Hid (Below x0.heap.size x0 w2) := bX.trans (bw2.mono (by omega))
        have HB2 : Hid (Below w.heap.size w w2) := HB.out.trans (HBx.out.mono zB)
        have HTO : Hid (TermOwn w2 w.heap.size w2.heap.size ⟨kd, p, av, n, cv, none, 0, 0⟩ ⟨kd, p, n, N, 0, fun _ => 0⟩) :=
          ⟨rfl, rfl, hcv, Nat.le_refl _, gv, gv + 1, fun h => ⟨by have := hgv h; omega, by have := hgv h; omega⟩, fun h => absurd rfl h, fun _ h => absurd rfl h, hov, none, 0, rfl, Nat.zero_le _, .inl rfl⟩
        clear hown2 hg2 hov bw2 t0 t1 t2 t3 HAN hgv
        have hR := HT.out
        have HR : Hid (TBldX w B X (.slice va k vc) k F R) := hR
        have HRW : Hid (w2.ownsRow B 90 4 (.slice va k vc) k (termL R k)) := row_keep hR.row HB2.out
        have HTN := tc_news w2 ⟨kd, p, av, n, cv, none, 0, 0⟩ 90
        clear hR
        go_wp2_with (first | (at_builtin; refine wpList_append_lies _ rfl _ _ 32 rfl B 90 iT _ 4 72 Tryz.underlying32 HIT.out.1 HIT.out.2.1 HIT.out.2.2.1 HIT.out.2.2.2 rfl (by decide) _ _ _ rfl (HRW.out.alloc _) ⟨w2.heap.size, 0, none⟩ 1 1 (tcC ⟨kd, p, av, n, cv, none, 0, 0⟩) rfl rfl HTN (tc_ones _) (by decide) ?c3 ?c4 ?c5 (w2.heap.size + 1) ?c6 ?_))
        case c3 => unfold maxLen; omega
        case c4 => omega
        case c5 => omega
        intro g cap w3 hown3 hg3 hat3 hlt3
        have hal2 : Below w.heap.size w (w2.alloc (.cells #[.int .i64 kd, .string p, .slice av n cv, .slice none 0 0] 90)) := HB2.out.trans ((Below.refl _ _).alloc HB2.out.size _)
        have hrow := HRW.out
        have HT3 : Hid (∃ R', TBldX w3 B X (.slice (some ⟨g, 0, none⟩) (k + 1) cap) (k + 1) (fun i => if i = k then ⟨kd, p, n, N, 0, fun _ => 0⟩ else F i) R') := ⟨_, TBldX.next (lo := w.heap.size) (hi := w2.heap.size) (u := .slice (some ⟨g, 0, none⟩) (k + 1) cap) HR.out hB hal2 (HTO.out.below ((Below.refl _ _).alloc (Nat.le_refl _) _)) (by simp) (.inl (Nat.le_refl _)) (fun q hq => ⟨hq, .inl (HX.out q hq)⟩) HX.out hg3 (by simp; rcases hat3 with h | h; exact .inl h; exact .inr (by omega)) rfl hown3⟩
        have HB3 : Hid (x0.grownBy w3 (Value.slice va k vc).ownBlock ∧ Onward x0 (.slice va k vc) (.slice (some ⟨g, 0, none⟩) (k + 1) cap)) := by
          refine ⟨grown_after (HBx.out.trans ((Below.refl _ _).alloc HBx.out.size _)) hg3, fun q hq => ?_⟩
          have hq' : q = g := by simp [Value.ownBlock] at hq; exact hq.symm
          subst hq'
          rcases hat3 with h | h
          · exact .inl h
          · exact .inr (by have := HBx.out.size; omega)
        clear hown3 hg3 hat3 hal2 hrow HTN HRW HR HTO HB2 HBx r0 r1
        go_wp2
        go_roundw
        case rel => exact .inr ⟨_, cap, rfl, rfl, HB3.out, HT3⟩
        case measure => simp [intOf]
    · go_wp2
      go_ret
      obtain ⟨R', hR'⟩ := HT2.out
      exact ⟨_, R', rfl, hR', hnx.1, hnx.2⟩

set_option maxRecDepth 100000 in
set_option maxHeartbeats 2000000 in
theorem appendAbove_fr (B : Nat) (w : World) (X Y : Nat → Prop) (v : Value) (k : Nat) (F : Nat → Tm) (R : Nat → Tc) (kind : Int) (a : Option Addr) (c m gk : Nat) (K : Nat → Int) (hT : TBldX w B X v k F R) (hX : ∀ q, X q → q < w.heap.size) (hB : B ≤ w.heap.size) (hk : k ≤ 2 ^ 22) (hm : m ≤ c) (hK : OwnK w gk (.slice a m c) m K) (hg : m ≠ 0 → B ≤ gk ∧ X gk) (hY : ∀ q, Y q → X q ∧ (m ≠ 0 → q ≠ gk)) :
    Calls Tryz.prog 91 #[v, .int .i64 kind, .slice a m c] w fun e w' => ∃ v' R', e = .returned v' ∧ TBldX w' B Y v' (k + 1) (fun i => if i = k then aboveT kind m K else F i) R' ∧ w.grownBy w' v.ownBlock ∧ Onward w v v' := by
  obtain ⟨va, vc, rfl⟩ := hT.bld.form
  obtain ⟨iT, hi, hz0, hz1, hz2⟩ := info_parts infoTerm
  obtain ⟨lo, hl⟩ : ∃ lo, lo = if m = 0 then w.heap.size else gk := ⟨_, rfl⟩
  obtain ⟨hh, hhl⟩ : ∃ hh, hh = if m = 0 then w.heap.size else gk + 1 := ⟨_, rfl⟩
  have HR : Hid (TBldX w B X (.slice va k vc) k F R) := hT
  have HX : Hid (∀ q, X q → q < w.heap.size) := hX
  have HL : Hid (B ≤ lo ∧ hh ≤ w.heap.size ∧ (w.heap.size ≤ lo ∨ (hh = lo + 1 ∧ X lo)) ∧ ∀ q, Y q → X q ∧ (q < lo ∨ hh ≤ q)) := by
    by_cases e : m = 0
    · rw [if_pos e] at hl hhl
      subst hl hhl
      exact ⟨hB, Nat.le_refl _, .inl (Nat.le_refl _), fun q hq => ⟨(hY q hq).1, .inl (hX q (hY q hq).1)⟩⟩
    · rw [if_neg e] at hl hhl
      subst hl hhl
      have h1 := hg e
      have h2 := hX _ h1.2
      exact ⟨h1.1, by omega, .inr ⟨rfl, h1.2⟩, fun q hq => ⟨(hY q hq).1, by have := (hY q hq).2 e; omega⟩⟩
  have HTO : Hid (TermOwn w lo hh ⟨kind, ⟨#[]⟩, none, 0, 0, a, m, c⟩ (aboveT kind m K)) := ⟨rfl, rfl, Nat.zero_le _, hm, gk + 1, gk, fun h => absurd rfl h, fun h => by
    have e : m ≠ 0 := h
    rw [if_neg e] at hl hhl
    omega, fun h => absurd rfl h, ⟨none, 0, 0, rfl, Nat.zero_le _, .inl rfl⟩, hK⟩
  have HRW : Hid (w.ownsRow B 90 4 (.slice va k vc) k (termL R k)) := hT.row
  have HTN := tc_news w ⟨kind, ⟨#[]⟩, none, 0, 0, a, m, c⟩ 90
  have HIT : Hid (Tryz.prog.info? 90 = some iT ∧ iT.zero = some (.agg #[.int .i64 0, .string ⟨#[]⟩, .slice none 0 0, .slice none 0 0]) ∧ iT.size = 4 ∧ iT.bytes = 72) := ⟨hi, hz0, hz1, hz2⟩
  clear hi hz0 hz1 hz2 hT hK hg hY hX hl hhl
  go_enter Tryz.func91, Tryz.ntmps91
  go_wp2_with (first | (at_builtin; refine wpList_append_lies _ rfl _ _ 32 rfl B 90 iT _ 4 72 Tryz.underlying32 HIT.out.1 HIT.out.2.1 HIT.out.2.2.1 HIT.out.2.2.2 rfl (by decide) _ _ _ rfl (HRW.out.alloc _) ⟨w.heap.size, 0, none⟩ 1 1 (tcC ⟨kind, ⟨#[]⟩, none, 0, 0, a, m, c⟩) rfl rfl HTN (tc_ones _) (by decide) ?c3 ?c4 ?c5 (w.heap.size + 1) ?c6 ?_))
  case c3 => unfold maxLen; omega
  case c4 => omega
  case c5 => omega
  intro g cap w3 hown3 hg3 hat3 hlt3
  have hal : ∀ o, Below w.heap.size w (w.alloc o) := fun o => (Below.refl _ _).alloc (Nat.le_refl _) o
  have HT3 : Hid (∃ R', TBldX w3 B Y (.slice (some ⟨g, 0, none⟩) (k + 1) cap) (k + 1) (fun i => if i = k then aboveT kind m K else F i) R') := ⟨_, TBldX.next (lo := lo) (hi := hh) (u := .slice (some ⟨g, 0, none⟩) (k + 1) cap) HR.out HL.out.1 (hal _) (HTO.out.below (hal _)) (by have := HL.out.2.1; simp; omega) HL.out.2.2.1 HL.out.2.2.2 HX.out hg3 (by simp; rcases hat3 with h | h; exact .inl h; exact .inr (by omega)) rfl hown3⟩
  have HB3 : Hid (w.grownBy w3 (Value.slice va k vc).ownBlock ∧ Onward w (.slice va k vc) (.slice (some ⟨g, 0, none⟩) (k + 1) cap)) := by
    refine ⟨grown_after (hal _) hg3, fun q hq => ?_⟩
    have hq' : q = g := by simp [Value.ownBlock] at hq; exact hq.symm
    subst hq'
    rcases hat3 with h | h
    · exact .inl h
    · exact .inr (by omega)
  clear hown3 hg3 hat3 hal HTN HRW HR HTO
  go_wp2
  go_ret
  obtain ⟨R', hR'⟩ := HT3.out
  exact ⟨_, R', rfl, hR', HB3.out.1, HB3.out.2⟩

end Go.Proofs.YtjohocnfcnjciaaGreatDoor
namespace Go.Proofs.YtjohocnfcnjciaaGreatDoor
open Go.RowKit
set_option linter.unusedVariables false

/-- The cells are the term, and its value's slice has room for its nodes. -/
def TermC (w : World) (c : Tc) (x : Tm) : Prop := TermIs w c x ∧ c.vn ≤ c.vc
/-- Every term's value has room for its nodes. -/
def CapF (w : World) (a : Option Addr) (t : Nat) : Prop := ∀ b off, a = some ⟨b, off, none⟩ → ∀ i, i < t → ∀ va vn vc, w.cell? ⟨b, off + i * 4 + 2, none⟩ = some (.slice va vn vc) → vn ≤ vc
theorem CapF.below {w w' : World} {a : Option Addr} {t : Nat} {F : Nat → Tm} (h : CapF w a t) (hF : FArg w a t F) (hb : Below w.heap.size w w') : CapF w' a t := fun b off e i hi va vn vc hc => by
  rcases hF with h0 | ⟨b', off', R, e', hlt, _⟩
  · omega
  · rw [e] at e'
    injection e' with e'
    injection e' with e1 e2
    subst e1 e2
    exact h b off e i hi va vn vc (by rw [← hc, hb.cell hlt])
theorem FOwn.caps {w : World} {b : Nat} {a : Option Addr} {t : Nat} {F : Nat → Tm} {P Q : Nat → Nat} (h : FOwn w b a t F P Q) : CapF w a t := fun b' off e i hi va vn vc hc => by
  obtain ⟨_, h2, _, _⟩ := h
  rcases h2 with h0 | ⟨e', hlt, R, h5, h6, h7⟩
  · omega
  · rw [e] at e'
    injection e' with e'
    injection e' with e1 e2
    subst e1 e2
    have h8 := (h5 i hi).2.2.1
    rw [hc] at h8
    injection h8 with h8
    injection h8 with _ e4 e5
    have h9 := (h7 i hi)
    obtain ⟨_, _, h10, _, h11⟩ := h9
    have h12 := (h7 i hi).is.2.2.1
    omega

mutual
/-- The value v is the clause: its terms as they came in (w0), its rows in blocks of S. -/
def ClIs (w0 w : World) (S : Nat → Prop) : Cl → Value → Prop
  | .leaf x, v => ∃ c : Tc, v = .iface 112 (.agg #[.int .i64 c.kind, .string c.path, .slice c.va c.vn c.vc, .slice c.ka c.km c.kc]) ∧ TermC w0 c x
  | .all l, v => ∃ a c, v = .iface 116 (.agg #[.slice a l.length c]) ∧ (l = [] ∨ ∃ g, a = some ⟨g, 0, none⟩ ∧ S g ∧ g < w.heap.size ∧ ClsAt w0 w S l g 0)
  | .any l, v => ∃ a c, v = .iface 118 (.agg #[.slice a l.length c]) ∧ (l = [] ∨ ∃ g, a = some ⟨g, 0, none⟩ ∧ S g ∧ g < w.heap.size ∧ ClsAt w0 w S l g 0)
  | .neg c, v => ∃ u, v = .iface 120 (.agg #[u]) ∧ ClIs w0 w S c u
def ClsAt (w0 w : World) (S : Nat → Prop) : List Cl → Nat → Nat → Prop
  | [], _, _ => True
  | c :: l, g, j => (∃ u, w.cell? ⟨g, j, none⟩ = some u ∧ ClIs w0 w S c u) ∧ ClsAt w0 w S l g (j + 1)
end

mutual
theorem ClIs.keep {w0 w w' : World} {S S' : Nat → Prop} (hk : ∀ b, S b → b < w.heap.size → w'.heap[b]? = w.heap[b]?) (hS : ∀ b, S b → b < w.heap.size → S' b) (hz : w.heap.size ≤ w'.heap.size) : ∀ (c : Cl) (v : Value), ClIs w0 w S c v → ClIs w0 w' S' c v
  | .leaf x, v, h => by rw [ClIs] at h ⊢; exact h
  | .all l, v, h => by
    rw [ClIs] at h ⊢
    obtain ⟨a, c, e, h0 | ⟨g, ea, h1, h2, h3⟩⟩ := h
    · exact ⟨a, c, e, .inl h0⟩
    · exact ⟨a, c, e, .inr ⟨g, ea, hS g h1 h2, by omega, ClsAt.keep hk hS hz l g 0 h1 h2 h3⟩⟩
  | .any l, v, h => by
    rw [ClIs] at h ⊢
    obtain ⟨a, c, e, h0 | ⟨g, ea, h1, h2, h3⟩⟩ := h
    · exact ⟨a, c, e, .inl h0⟩
    · exact ⟨a, c, e, .inr ⟨g, ea, hS g h1 h2, by omega, ClsAt.keep hk hS hz l g 0 h1 h2 h3⟩⟩
  | .neg c, v, h => by
    rw [ClIs] at h ⊢
    obtain ⟨u, e, h1⟩ := h
    exact ⟨u, e, ClIs.keep hk hS hz c u h1⟩
theorem ClsAt.keep {w0 w w' : World} {S S' : Nat → Prop} (hk : ∀ b, S b → b < w.heap.size → w'.heap[b]? = w.heap[b]?) (hS : ∀ b, S b → b < w.heap.size → S' b) (hz : w.heap.size ≤ w'.heap.size) : ∀ (l : List Cl) (g j : Nat), S g → g < w.heap.size → ClsAt w0 w S l g j → ClsAt w0 w' S' l g j
  | [], g, j, _, _, _ => by rw [ClsAt]; trivial
  | c :: l, g, j, h1, h2, h => by
    rw [ClsAt] at h ⊢
    obtain ⟨⟨u, hu, hc⟩, hl⟩ := h
    exact ⟨⟨u, (World.cell?_of_block (hk g h1 h2)).trans hu, ClIs.keep hk hS hz c u hc⟩, ClsAt.keep hk hS hz l g (j + 1) h1 h2 hl⟩
end

theorem clsAt_iff {w0 w : World} {S : Nat → Prop} {g : Nat} : ∀ {l : List Cl} {j : Nat}, ClsAt w0 w S l g j ↔ ∀ i c, l[i]? = some c → ∃ u, w.cell? ⟨g, j + i, none⟩ = some u ∧ ClIs w0 w S c u := by
  intro l
  induction l with
  | nil => intro j; simp [ClsAt]
  | cons a l ih =>
    intro j
    rw [ClsAt, ih]
    constructor
    · rintro ⟨h, hs⟩ i c hc
      cases i with
      | zero =>
        simp at hc
        subst hc
        exact h
      | succ i =>
        have := hs i c (by simpa using hc)
        rwa [show j + 1 + i = j + (i + 1) by omega] at this
    · intro h
      refine ⟨h 0 a (by simp), fun i c hc => ?_⟩
      have := h (i + 1) c (by simpa using hc)
      rwa [show j + (i + 1) = j + 1 + i by omega] at this

end Go.Proofs.YtjohocnfcnjciaaGreatDoor
namespace Go.Proofs.YtjohocnfcnjciaaGreatDoor
open Go.RowKit
set_option linter.unusedVariables false

/-- A clause is of one cell. -/
theorem ClIs.one {w0 w : World} {S : Nat → Prop} {c : Cl} {v : Value} (h : ClIs w0 w S c v) : v.oneCell' = true := by
  cases c with
  | leaf x => rw [ClIs] at h; obtain ⟨c, rfl, _⟩ := h; rfl
  | all l => rw [ClIs] at h; obtain ⟨a, c, rfl, _⟩ := h; rfl
  | any l => rw [ClIs] at h; obtain ⟨a, c, rfl, _⟩ := h; rfl
  | neg c => rw [ClIs] at h; obtain ⟨u, rfl, _⟩ := h; rfl

theorem ClIs.form {w0 w : World} {S : Nat → Prop} {c : Cl} {v : Value} (h : ClIs w0 w S c v) : ∃ T u, v = .iface T u := by
  cases c with
  | leaf x => rw [ClIs] at h; obtain ⟨c, rfl, _⟩ := h; exact ⟨_, _, rfl⟩
  | all l => rw [ClIs] at h; obtain ⟨a, c, rfl, _⟩ := h; exact ⟨_, _, rfl⟩
  | any l => rw [ClIs] at h; obtain ⟨a, c, rfl, _⟩ := h; exact ⟨_, _, rfl⟩
  | neg c => rw [ClIs] at h; obtain ⟨u, rfl, _⟩ := h; exact ⟨_, _, rfl⟩

/-- A row of clauses l, of its own from B on, while it is built; its cells told. -/
def CBldR (w0 w : World) (B : Nat) (v : Value) (l : List Cl) (xs : List Value) : Prop := xs.length = l.length ∧ w.ownsRow B 72 1 v l.length xs ∧ ∀ (i : Nat) (c : Cl) (u : Value), l[i]? = some c → xs[i]? = some u → ClIs w0 w (fun b => B ≤ b ∧ v.ownBlock ≠ some b) c u
def CBld (w0 w : World) (B : Nat) (v : Value) (l : List Cl) : Prop := ∃ xs, CBldR w0 w B v l xs
theorem CBld.nil (w0 w : World) (B : Nat) : CBld w0 w B (.slice none 0 0) [] := ⟨[], rfl, World.ownsRow_nil _ _ _ _, fun i c u h => by simp at h⟩
theorem CBld.form {w0 w : World} {B : Nat} {v : Value} {l : List Cl} (h : CBld w0 w B v l) : ∃ a c, v = .slice a l.length c := by
  obtain ⟨xs, _, h1, _⟩ := h
  rcases row_open h1 with ⟨rfl, h0⟩ | ⟨g, cap, rfl, _⟩
  · exact ⟨_, _, by rw [h0]⟩
  · exact ⟨_, _, rfl⟩
theorem CBldR.old {w0 w : World} {B : Nat} {v : Value} {l : List Cl} {xs : List Value} (h : CBldR w0 w B v l xs) : ∀ q, v.ownBlock = some q → B ≤ q ∧ q < w.heap.size := fun q hq => by
  rcases row_open h.2.1 with ⟨rfl, _⟩ | ⟨g', cap', rfl, g1, g2, _⟩
  · simp [Value.ownBlock] at hq
  · simp [Value.ownBlock] at hq; omega
theorem CBldR.below {w0 w w' : World} {B : Nat} {v : Value} {l : List Cl} {xs : List Value} (h : CBldR w0 w B v l xs) (hb : Below w.heap.size w w') : CBldR w0 w' B v l xs :=
  ⟨h.1, row_keep h.2.1 hb, fun i c u h1 h2 => ClIs.keep (fun b _ hlt => hb.block b hlt) (fun b hS _ => hS) hb.size c u (h.2.2 i c u h1 h2)⟩
theorem CBld.below {w0 w w' : World} {B : Nat} {v : Value} {l : List Cl} (h : CBld w0 w B v l) (hb : Below w.heap.size w w') : CBld w0 w' B v l := by
  obtain ⟨xs, h⟩ := h
  exact ⟨xs, h.below hb⟩

/-- A clause is put to the row. -/
theorem CBldR.next {w0 w w1 w2 w3 : World} {B : Nat} {v : Value} {l : List Cl} {xs : List Value} {c : Cl} {x u : Value} {g cap : Nat} (h : CBldR w0 w B v l xs) (hB : B ≤ w.heap.size) (hb : Below w.heap.size w w1) (hc : ClIs w0 w1 (fun b => w.heap.size ≤ b) c x) (hb2 : Below w1.heap.size w1 w2)
    (hg : w2.grownBy w3 v.ownBlock) (hat : v.ownBlock = some g ∨ w2.heap.size ≤ g) (hu : u = .slice (some ⟨g, 0, none⟩) (l.length + 1) cap)
    (hown : w3.ownsRow B 72 1 u (l.length + 1) (xs ++ [x])) : CBldR w0 w3 B u (l ++ [c]) (xs ++ [x]) := by
  have z1 := hb.size
  have z2 := hb2.size
  have z3 := hg.size
  have hold := h.old
  obtain ⟨h0, h1, h2⟩ := h
  have hblk : ∀ b, b < w2.heap.size → v.ownBlock ≠ some b → w3.heap[b]? = w2.heap[b]? := fun b hlt hne => hg.block b hlt (fun e => hne e.symm)
  have hown' : u.ownBlock = some g := by rw [hu]; rfl
  refine ⟨by simp [h0], by simpa using hown, fun i c' u' hi hx => ?_⟩
  by_cases hlt : i < l.length
  · rw [List.getElem?_append_left hlt] at hi
    rw [List.getElem?_append_left (by omega)] at hx
    refine ClIs.keep (fun b hS hbl => ?_) (fun b hS hbl => ⟨hS.1, ?_⟩) (by omega) c' u' (h2 i c' u' hi hx)
    · rw [hblk b (by omega) hS.2, hb2.block b (by omega), hb.block b hbl]
    · rw [hown']
      intro e
      injection e with e
      rcases hat with h | h
      · exact hS.2 (by rw [h, e])
      · omega
  · obtain rfl : i = l.length := by
      have := (List.getElem?_eq_some_iff.1 hi).1
      simp at this
      omega
    rw [List.getElem?_append_right (Nat.le_refl _)] at hi
    rw [List.getElem?_append_right (by omega)] at hx
    simp at hi
    simp [h0] at hx
    subst hi hx
    refine ClIs.keep (fun b hS hbl => ?_) (fun b hS hbl => ⟨by omega, ?_⟩) (by omega) c x hc
    · rw [hblk b (by omega) (fun e => by have := (hold b e).2; omega), hb2.block b hbl]
    · rw [hown']
      intro e
      injection e with e
      rcases hat with h | h
      · have := (hold g h).2; omega
      · omega

/-- The row as a clause's own. -/
theorem CBld.kids {w0 w : World} {B : Nat} {a : Option Addr} {n c : Nat} {l : List Cl} (h : CBld w0 w B (.slice a n c) l) {S : Nat → Prop} (hS : ∀ b, B ≤ b → S b) : n = l.length ∧ (l = [] ∨ ∃ g, a = some ⟨g, 0, none⟩ ∧ S g ∧ g < w.heap.size ∧ ClsAt w0 w S l g 0) := by
  obtain ⟨xs, h0, h1, h2⟩ := h
  rcases row_open h1 with ⟨e, h3⟩ | ⟨g, cap, e, g1, g2, g3, g4, g5⟩
  · injection e with e1 e2 e3
    exact ⟨by omega, .inl (by cases l with | nil => rfl | cons => simp at h3)⟩
  · injection e with e1 e2 e3
    refine ⟨e2, .inr ⟨g, e1, hS g g1, g2, clsAt_iff.2 fun i c' hi => ?_⟩⟩
    have hlt := (List.getElem?_eq_some_iff.1 hi).1
    obtain ⟨u, hu⟩ : ∃ u, xs[i]? = some u := ⟨_, List.getElem?_eq_getElem (by omega)⟩
    refine ⟨u, ?_, ClIs.keep (fun b _ _ => rfl) (fun b hb _ => hS b hb.1) (Nat.le_refl _) c' u (h2 i c' u hi hu)⟩
    rw [Nat.zero_add, g4 i (by omega), hu]

end Go.Proofs.YtjohocnfcnjciaaGreatDoor
namespace Go.Proofs.YtjohocnfcnjciaaGreatDoor
open Go.RowKit
set_option linter.unusedVariables false

/-- The clauses of the first j kids of term k. -/
def kidsC (F : Nat → Tm) (k j : Nat) : List Cl := (List.range j).map fun i => clF F k ((F k).K i).toNat
theorem kidsC_len (F : Nat → Tm) (k j : Nat) : (kidsC F k j).length = j := by simp [kidsC]
theorem kidsC_succ (F : Nat → Tm) (k j : Nat) : kidsC F k (j + 1) = kidsC F k j ++ [clF F k ((F k).K j).toNat] := by simp [kidsC, List.range_succ]

/-- Every kid lies ahead, and a turned term has one. -/
def Ahead (F : Nat → Tm) (t : Nat) : Prop := (∀ i, i < t → ∀ j, j < (F i).m → 0 ≤ (F i).K j ∧ (F i).K j < i) ∧ (∀ i, i < t → (F i).kind = 8 → 0 < (F i).m) ∧ ∀ i, i < t → (F i).m ≤ 2 ^ 20

theorem infoClause : (Tryz.prog.info? 72).map (fun i => (i.zero, i.size, i.bytes)) = some (some .nilIface, 1, 16) := by kernel_rfl

def ClSaid (w0 : World) (a : Option Addr) (c t : Nat) (F : Nat → Tm) (k : Nat) : Prop := ∀ w, Below w0.heap.size w0 w →
    Calls Tryz.prog 66 #[.slice a t c, .int .i64 k] w fun e w' => ∃ v, e = .returned v ∧ ClIs w0 w' (fun b => w.heap.size ≤ b) (clF F (k + 1) k) v ∧ Below w.heap.size w w'

set_option maxRecDepth 100000 in
set_option maxHeartbeats 4000000 in
theorem clauseAt_step (w0 : World) (a : Option Addr) (c t : Nat) (F : Nat → Tm) (hF : FArg w0 a t F) (hCF : CapF w0 a t) (hA : Ahead F t) (ht : t ≤ 2 ^ 20) (k : Nat) (hk : k < t) (ih : ∀ p, p < k → ClSaid w0 a c t F p) : ClSaid w0 a c t F k := by
  intro w hw
  have HF : Hid (FArg w0 a t F) := hF
  have HA : Hid (Ahead F t) := hA
  have HI : Hid (∀ p, p < k → ClSaid w0 a c t F p) := ih
  have HW : Hid (Below w0.heap.size w0 w) := hw
  obtain ⟨b, off, va, vc, ka, kc, rfl, hb, a0, a1, a2, a3, hv, hkk⟩ := hF.at hk
  have HCP : Hid ((F k).n ≤ vc) := hCF b off rfl k hk _ _ _ a2
  have zW := hw.size
  replace a0 := (hw.cell hb).trans a0
  replace a1 := (hw.cell hb).trans a1
  replace a2 := (hw.cell hb).trans a2
  replace a3 := (hw.cell hb).trans a3
  have m20 : (F k).m ≤ 2 ^ 20 := hA.2.2 k hk
  have HV : Hid (ArgIs w0 va (F k).n (F k).N ∧ ArgI w0 ka (F k).m (F k).K) := ⟨hv, hkk⟩
  have i0 : (0 : Int) ≤ (k : Int) := by omega
  have i1 : (k : Int) < (t : Int) := by omega
  have hbw : b < w.heap.size := by omega
  obtain ⟨iC, hi, hz0, hz1, hz2⟩ := info_parts infoClause
  have HIC : Hid (Tryz.prog.info? 72 = some iC ∧ iC.zero = some .nilIface ∧ iC.size = 1 ∧ iC.bytes = 16) := ⟨hi, hz0, hz1, hz2⟩
  clear hi hz0 hz1 hz2 hF hA ih hw hv hkk
  obtain ⟨m, hm⟩ : ∃ m, m = (F k).m := ⟨_, rfl⟩
  rw [← hm] at a3 m20
  have HM : Hid (m = (F k).m) := hm
  obtain ⟨kd, hkd⟩ : ∃ kd, kd = (F k).kind := ⟨_, rfl⟩
  rw [← hkd] at a0
  have HKD : Hid (kd = (F k).kind) := hkd
  clear hm hkd
  go_enter Tryz.func66, Tryz.ntmps66
  go_wp2_with fail
  go_loopw [5, 14] (fun v i wr => ∃ (j : Nat) (av : Option Addr) (cv : Nat), j ≤ m ∧ i = .int .i64 (j : Int) ∧ v = .slice av j cv ∧ Below w.heap.size w wr ∧ Hid (CBld w0 wr w.heap.size (.slice av j cv) (kidsC F k j))) (fun _ i _ => m - (intOf i).toNat)
  case atStart => exact ⟨0, none, 0, Nat.zero_le _, rfl, rfl, Below.refl _ _, CBld.nil _ _ _⟩
  case round =>
    obtain ⟨j, av, cv, hj, rfl, rfl, hnx, HT⟩ := hrel
    have zr := hnx.size
    by_cases hlt : j < m
    · rcases HV.out.2 with h0 | ⟨b', off', rfl, hb', hat⟩
      · have := HM.out; omega
      have hjm : j < (F k).m := by have := HM.out; omega
      have hB0 : Below w0.heap.size w0 wr := HW.out.trans (hnx.mono zW)
      have d0 := (hB0.cell hb').trans (hat j hjm)
      obtain ⟨k0, k1⟩ := HA.out.1 k hk j hjm
      obtain ⟨p, hp⟩ : ∃ p : Nat, (F k).K j = (p : Int) := ⟨((F k).K j).toNat, by omega⟩
      have hpk : p < k := by omega
      rw [hp] at d0
      have HKS : Hid (kidsC F k (j + 1) = kidsC F k j ++ [clF F (p + 1) p]) := by
        show _ = _
        rw [kidsC_succ, hp, Int.toNat_natCast, clF_same HA.out.1 HA.out.2.1 p (by omega) k (p + 1) hpk (by omega)]
      have j0 : (0 : Int) ≤ (j : Int) := by omega
      have j1 : (j : Int) < (m : Int) := by omega
      have hbw' : b' < wr.heap.size := by omega
      have HB0 : Hid (Below w0.heap.size w0 wr) := hB0
      have HNX : Hid (Below w.heap.size w wr) := hnx
      clear hat hB0 hp k0 k1 hnx
      go_wp2_with fail
      refine (HI.out p hpk wr HB0.out).mono ?_
      rintro e w2 ⟨x, rfl, hc, hb2⟩
      obtain ⟨T, y, rfl⟩ := hc.form
      have z2 := hb2.size
      have hone := hc.one
      obtain ⟨xs, hT⟩ := HT.out
      have hlen := kidsC_len F k j
      have HC2 : Hid (ClIs w0 w2 (fun b => wr.heap.size ≤ b) (clF F (p + 1) p) (.iface T y)) := hc
      have HB2 : Hid (Below wr.heap.size wr w2) := hb2
      have HTR : Hid (CBldR w0 wr w.heap.size (.slice av j cv) (kidsC F k j) xs) := hT
      have HRW : Hid (w2.ownsRow w.heap.size 72 1 (.slice av j cv) j xs) := by
        have := (hT.below hb2).2.1
        rw [hlen] at this
        exact this
      have HONE : Hid (∀ u ∈ [Value.iface T y], u.oneCell' = true) := fun u hu => by simp at hu; rw [hu]; exact hone
      clear hc hb2 hT HT hone hlen
      go_wp2_with (first | (at_builtin; refine wpList_append_lies _ rfl _ _ 114 rfl w.heap.size 72 iC _ 1 16 Tryz.underlying114 HIC.out.1 HIC.out.2.1 HIC.out.2.2.1 HIC.out.2.2.2 rfl (by decide) _ _ _ rfl (HRW.out.alloc _) ⟨w2.heap.size, 0, none⟩ 1 1 [.iface T y] rfl rfl (one_news _ _ _) HONE.out (by decide) ?c3 ?c4 ?c5 (w2.heap.size + 1) ?c6 ?_))
      case c3 => unfold maxLen; omega
      case c4 => omega
      case c5 => simp; omega
      case c6 => simp
      intro g cap w3 hown3 hg3 hat3 hlt3
      have hold := HTR.out.old
      have HT3 : Hid (CBld w0 w3 w.heap.size (.slice (some ⟨g, 0, none⟩) (j + 1) cap) (kidsC F k (j + 1))) := by
        show CBld _ _ _ _ _
        rw [HKS.out]
        refine ⟨xs ++ [.iface T y], CBldR.next (g := g) (cap := cap) HTR.out zr HB2.out HC2.out ((Below.refl _ _).alloc (Nat.le_refl _) _) hg3 ?_ ?_ ?_⟩
        · rcases hat3 with h | h
          · exact .inl h
          · exact .inr (by simp; omega)
        · rw [kidsC_len]
        · rw [kidsC_len]; exact hown3
      have HB3 : Hid (Below w.heap.size w w3) := (HNX.out.trans ((HB2.out.mono zr).trans ((Below.refl _ _).alloc (by omega) _))).grown hg3 (by simp; omega) (fun b hb => (hold b hb).1)
      clear hown3 hg3 hat3 hlt3 hold HTR HRW HC2 HB2 HONE HKS d0
      go_wp2
      go_roundw
      case rel => exact ⟨j + 1, _, cap, by omega, by go_num, rfl, HB3.out, HT3⟩
      case measure => simp [intOf]; omega
    · obtain rfl : j = m := by omega
      replace a0 := (hnx.cell hbw).trans a0
      replace a1 := (hnx.cell hbw).trans a1
      replace a2 := (hnx.cell hbw).trans a2
      replace a3 := (hnx.cell hbw).trans a3
      have hbr : b < wr.heap.size := by omega
      have HNX : Hid (Below w.heap.size w wr) := hnx
      have HCE : Hid (clF F (k + 1) k = if kd = 6 then .all (kidsC F k j) else if kd = 7 then .any (kidsC F k j) else if kd = 8 then .neg (clF F k ((F k).K 0).toNat) else .leaf (F k)) := by
        show _ = _
        rw [HKD.out, HM.out]
        rfl
      clear hnx
      by_cases h6 : kd = 6
      · have HC6 : Hid (clF F (k + 1) k = .all (kidsC F k j)) := HCE.out.trans (if_pos h6)
        clear HCE
        subst h6
        go_wp2_with fail
        go_ret
        refine ⟨_, rfl, ?_, HNX.out⟩
        rw [HC6.out, ClIs]
        have hk2 := HT.out.kids (S := fun b => w.heap.size ≤ b) (fun b hb => hb)
        exact ⟨av, cv, by rw [kidsC_len]; rfl, hk2.2⟩
      · have e6 : (kd == 6) = false := by simpa using h6
        have HC6 : Hid (clF F (k + 1) k = if kd = 7 then .any (kidsC F k j) else if kd = 8 then .neg (clF F k ((F k).K 0).toNat) else .leaf (F k)) := HCE.out.trans (if_neg h6)
        clear HCE
        by_cases h7 : kd = 7
        · have HC7 : Hid (clF F (k + 1) k = .any (kidsC F k j)) := HC6.out.trans (if_pos h7)
          clear HC6
          subst h7
          go_wp2_with fail
          go_ret
          refine ⟨_, rfl, ?_, HNX.out⟩
          rw [HC7.out, ClIs]
          have hk2 := HT.out.kids (S := fun b => w.heap.size ≤ b) (fun b hb => hb)
          exact ⟨av, cv, by rw [kidsC_len]; rfl, hk2.2⟩
        · have e7 : (kd == 7) = false := by simpa using h7
          have HC7 : Hid (clF F (k + 1) k = if kd = 8 then .neg (clF F k ((F k).K 0).toNat) else .leaf (F k)) := HC6.out.trans (if_neg h7)
          clear HC6
          by_cases h8 : kd = 8
          · have HC8 : Hid (clF F (k + 1) k = .neg (clF F k ((F k).K 0).toNat)) := HC7.out.trans (if_pos h8)
            clear HC7
            have hj0 : 0 < j := by rw [HM.out]; exact HA.out.2.1 k hk (by rw [← HKD.out]; exact h8)
            subst h8
            obtain ⟨xs, x0, x1, x2⟩ := HT.out
            have hl0 : (kidsC F k j)[0]? = some (clF F k ((F k).K 0).toNat) := by simp [kidsC, hj0]
            rw [kidsC_len] at x0 x1
            obtain ⟨u, hu⟩ : ∃ u, xs[0]? = some u := ⟨_, List.getElem?_eq_getElem (by omega)⟩
            have hcu := x2 0 _ u hl0 hu
            rcases row_open x1 with ⟨_, h0⟩ | ⟨g, cap, e, g1, g2, g3, g4, g5⟩
            · omega
            injection e with e1 e2 e3
            subst e1 e3
            have c0 := (g4 0 (by omega)).trans hu
            obtain ⟨T, y, rfl⟩ := hcu.form
            have HCU : Hid (ClIs w0 wr (fun b => w.heap.size ≤ b) (clF F k ((F k).K 0).toNat) (.iface T y)) := ClIs.keep (fun b _ _ => rfl) (fun b hb _ => hb.1) (Nat.le_refl _) _ _ hcu
            clear x0 x1 x2 hl0 hu hcu g3 g4 g5 HT
            have j1 : (0 : Int) < (j : Int) := by omega
            go_wp2_with fail
            go_ret
            refine ⟨_, rfl, ?_, HNX.out⟩
            rw [HC8.out, ClIs]
            exact ⟨_, rfl, HCU.out⟩
          · have e8 : (kd == 8) = false := by simpa using h8
            have HC8 : Hid (clF F (k + 1) k = .leaf (F k)) := HC7.out.trans (if_neg h8)
            clear HC7
            go_wp2_with fail
            go_ret
            refine ⟨_, rfl, ?_, HNX.out⟩
            rw [HC8.out, ClIs]
            exact ⟨⟨kd, (F k).path, va, (F k).n, vc, ka, j, kc⟩, rfl, ⟨HKD.out, rfl, rfl, HM.out, HV.out.1, HV.out.2⟩, HCP.out⟩

theorem clauseAt_any (w0 : World) (a : Option Addr) (c t : Nat) (F : Nat → Tm) (hF : FArg w0 a t F) (hCF : CapF w0 a t) (hA : Ahead F t) (ht : t ≤ 2 ^ 20) : ∀ k, k < t → ClSaid w0 a c t F k := by
  intro k
  induction k using Nat.strongRecOn with
  | ind k ih => exact fun hk => clauseAt_step w0 a c t F hF hCF hA ht k hk fun p hp => ih p hp (by omega)

end Go.Proofs.YtjohocnfcnjciaaGreatDoor
namespace Go.Proofs.YtjohocnfcnjciaaGreatDoor
open Go.RowKit
set_option linter.unusedVariables false

/-- What a function of clauses answers: a clause whose rows are new. -/
def TurnSaid (w0 : World) (f : Nat) (c c' : Cl) : Prop := ∀ (w : World) (S : Nat → Prop) (v : Value), Below w0.heap.size w0 w → ClIs w0 w S c v →
    Calls Tryz.prog f #[v] w fun e w' => ∃ v', e = .returned v' ∧ ClIs w0 w' (fun b => w.heap.size ≤ b) c' v' ∧ Below w.heap.size w w'
theorem plains_map : ∀ l : List Cl, Cl.plains l = l.map Cl.plain
  | [] => by simp [Cl.plains]
  | c :: l => by simp [Cl.plains, plains_map l]
theorem turns_map : ∀ l : List Cl, Cl.turns l = l.map Cl.turn
  | [] => by simp [Cl.turns]
  | c :: l => by simp [Cl.turns, turns_map l]
theorem take_next {l : List Cl} {f : Cl → Cl} {j : Nat} {c : Cl} (h : l[j]? = some c) : (l.take (j + 1)).map f = (l.take j).map f ++ [f c] := by
  rw [List.take_add_one, h, List.map_append]
  rfl

set_option maxRecDepth 100000 in
set_option maxHeartbeats 4000000 in
theorem eachOf_plain (w0 w : World) (S : Nat → Prop) (a : Option Addr) (l : List Cl) (n cc : Nat) (hn : n = l.length) (hl : n ≤ 2 ^ 21) (hw : Below w0.heap.size w0 w) (h : l = [] ∨ ∃ g, a = some ⟨g, 0, none⟩ ∧ S g ∧ g < w.heap.size ∧ ClsAt w0 w S l g 0) (ih : ∀ c ∈ l, TurnSaid w0 43 c c.plain) :
    Calls Tryz.prog 72 #[.slice a n cc, .func (.func 43) #[] #[]] w fun e w' => ∃ av cv, e = .returned (.slice av n cv) ∧ CBld w0 w' w.heap.size (.slice av n cv) (l.map Cl.plain) ∧ Below w.heap.size w w' := by
  have HS : Hid (l = [] ∨ ∃ g, a = some ⟨g, 0, none⟩ ∧ S g ∧ g < w.heap.size ∧ ClsAt w0 w S l g 0) := h
  have HI : Hid (∀ c ∈ l, TurnSaid w0 43 c c.plain) := ih
  have HW : Hid (Below w0.heap.size w0 w) := hw
  have zW := hw.size
  obtain ⟨iC, hi, hz0, hz1, hz2⟩ := info_parts infoClause
  have HIC : Hid (Tryz.prog.info? 72 = some iC ∧ iC.zero = some .nilIface ∧ iC.size = 1 ∧ iC.bytes = 16) := ⟨hi, hz0, hz1, hz2⟩
  have HN : Hid (n = l.length) := hn
  clear hi hz0 hz1 hz2 h ih hw hn
  go_enter Tryz.func72, Tryz.ntmps72
  go_wp2_with fail
  go_loopw [5, 10] (fun v i wr => ∃ (j : Nat) (av : Option Addr) (cv : Nat), j ≤ n ∧ i = .int .i64 (j : Int) ∧ v = .slice av j cv ∧ Below w.heap.size w wr ∧ Hid (CBld w0 wr w.heap.size (.slice av j cv) ((l.take j).map Cl.plain))) (fun _ i _ => n - (intOf i).toNat)
  case atStart => exact ⟨0, none, 0, Nat.zero_le _, rfl, rfl, Below.refl _ _, CBld.nil _ _ _⟩
  case round =>
    obtain ⟨j, av, cv, hj, rfl, rfl, hnx, HT⟩ := hrel
    have zr := hnx.size
    by_cases hlt : j < n
    · have hjl : j < l.length := by have := HN.out; omega
      rcases HS.out with h0 | ⟨g0, rfl, hS0, hg0, hat⟩
      · rw [h0] at hjl; simp at hjl
      obtain ⟨c, hc⟩ : ∃ c, l[j]? = some c := ⟨_, List.getElem?_eq_getElem hjl⟩
      have hcm : c ∈ l := List.mem_of_getElem? hc
      obtain ⟨u, hu, hcu⟩ := clsAt_iff.1 hat j c hc
      rw [Nat.zero_add] at hu
      obtain ⟨T0, y0, rfl⟩ := hcu.form
      have d0 := (hnx.cell hg0).trans hu
      have HCU : Hid (ClIs w0 wr S c (.iface T0 y0)) := ClIs.keep (fun b _ hb => hnx.block b hb) (fun b hb _ => hb) hnx.size _ _ hcu
      have HIc : Hid (TurnSaid w0 43 c c.plain) := HI.out c hcm
      have HKS : Hid ((l.take (j + 1)).map Cl.plain = (l.take j).map Cl.plain ++ [c.plain]) := take_next hc
      have HLN : Hid (((l.take j).map Cl.plain).length = j) := by show _ = _; simp; omega
      have j0 : (0 : Int) ≤ (j : Int) := by omega
      have j1 : (j : Int) < (n : Int) := by omega
      have hgw : g0 < wr.heap.size := by omega
      have HB0 : Hid (Below w0.heap.size w0 wr) := HW.out.trans (hnx.mono zW)
      have HNX : Hid (Below w.heap.size w wr) := hnx
      clear hat hc hcm hu hcu hnx
      go_wp2_with fail
      refine (HIc.out wr S _ HB0.out HCU.out).mono ?_
      rintro e w2 ⟨x, rfl, hc, hb2⟩
      obtain ⟨T, y, rfl⟩ := hc.form
      have z2 := hb2.size
      have hone := hc.one
      obtain ⟨xs, hT⟩ := HT.out
      have HC2 : Hid (ClIs w0 w2 (fun b => wr.heap.size ≤ b) c.plain (.iface T y)) := hc
      have HB2 : Hid (Below wr.heap.size wr w2) := hb2
      have HTR : Hid (CBldR w0 wr w.heap.size (.slice av j cv) ((l.take j).map Cl.plain) xs) := hT
      have HRW : Hid (w2.ownsRow w.heap.size 72 1 (.slice av j cv) j xs) := by
        have := (hT.below hb2).2.1
        rw [HLN.out] at this
        exact this
      have HONE : Hid (∀ u ∈ [Value.iface T y], u.oneCell' = true) := fun u hu => by simp at hu; rw [hu]; exact hone
      clear hc hb2 hT HT hone
      go_wp2_with (first | (at_builtin; refine wpList_append_lies _ rfl _ _ 114 rfl w.heap.size 72 iC _ 1 16 Tryz.underlying114 HIC.out.1 HIC.out.2.1 HIC.out.2.2.1 HIC.out.2.2.2 rfl (by decide) _ _ _ rfl (HRW.out.alloc _) ⟨w2.heap.size, 0, none⟩ 1 1 [.iface T y] rfl rfl (one_news _ _ _) HONE.out (by decide) ?c3 ?c4 ?c5 (w2.heap.size + 1) ?c6 ?_))
      case c3 => unfold maxLen; omega
      case c4 => omega
      case c5 => simp; omega
      case c6 => simp
      intro g cap w3 hown3 hg3 hat3 hlt3
      have hold := HTR.out.old
      have HT3 : Hid (CBld w0 w3 w.heap.size (.slice (some ⟨g, 0, none⟩) (j + 1) cap) ((l.take (j + 1)).map Cl.plain)) := by
        show CBld _ _ _ _ _
        rw [HKS.out]
        refine ⟨xs ++ [.iface T y], CBldR.next (g := g) (cap := cap) HTR.out zr HB2.out HC2.out ((Below.refl _ _).alloc (Nat.le_refl _) _) hg3 ?_ ?_ ?_⟩
        · rcases hat3 with h | h
          · exact .inl h
          · exact .inr (by simp; omega)
        · rw [HLN.out]
        · rw [HLN.out]; exact hown3
      have HB3 : Hid (Below w.heap.size w w3) := (HNX.out.trans ((HB2.out.mono zr).trans ((Below.refl _ _).alloc (by omega) _))).grown hg3 (by simp; omega) (fun b hb => (hold b hb).1)
      clear hown3 hg3 hat3 hlt3 hold HTR HRW HC2 HB2 HONE HKS d0
      go_wp2
      go_roundw
      case rel => exact ⟨j + 1, _, cap, by omega, by go_num, rfl, HB3.out, HT3⟩
      case measure => simp [intOf]; omega
    · obtain rfl : j = n := by omega
      have HT2 : Hid (CBld w0 wr w.heap.size (.slice av j cv) (l.map Cl.plain)) := by
        have := HT.out
        rw [HN.out, List.take_length] at this
        show CBld _ _ _ _ _
        rw [HN.out]
        exact this
      go_wp2
      go_ret
      exact ⟨av, cv, rfl, HT2.out, hnx⟩

set_option maxRecDepth 100000 in
set_option maxHeartbeats 4000000 in
theorem eachOf_turn (w0 w : World) (S : Nat → Prop) (a : Option Addr) (l : List Cl) (n cc : Nat) (hn : n = l.length) (hl : n ≤ 2 ^ 21) (hw : Below w0.heap.size w0 w) (h : l = [] ∨ ∃ g, a = some ⟨g, 0, none⟩ ∧ S g ∧ g < w.heap.size ∧ ClsAt w0 w S l g 0) (ih : ∀ c ∈ l, TurnSaid w0 73 c c.turn) :
    Calls Tryz.prog 72 #[.slice a n cc, .func (.func 73) #[] #[]] w fun e w' => ∃ av cv, e = .returned (.slice av n cv) ∧ CBld w0 w' w.heap.size (.slice av n cv) (l.map Cl.turn) ∧ Below w.heap.size w w' := by
  have HS : Hid (l = [] ∨ ∃ g, a = some ⟨g, 0, none⟩ ∧ S g ∧ g < w.heap.size ∧ ClsAt w0 w S l g 0) := h
  have HI : Hid (∀ c ∈ l, TurnSaid w0 73 c c.turn) := ih
  have HW : Hid (Below w0.heap.size w0 w) := hw
  have zW := hw.size
  obtain ⟨iC, hi, hz0, hz1, hz2⟩ := info_parts infoClause
  have HIC : Hid (Tryz.prog.info? 72 = some iC ∧ iC.zero = some .nilIface ∧ iC.size = 1 ∧ iC.bytes = 16) := ⟨hi, hz0, hz1, hz2⟩
  have HN : Hid (n = l.length) := hn
  clear hi hz0 hz1 hz2 h ih hw hn
  go_enter Tryz.func72, Tryz.ntmps72
  go_wp2_with fail
  go_loopw [5, 10] (fun v i wr => ∃ (j : Nat) (av : Option Addr) (cv : Nat), j ≤ n ∧ i = .int .i64 (j : Int) ∧ v = .slice av j cv ∧ Below w.heap.size w wr ∧ Hid (CBld w0 wr w.heap.size (.slice av j cv) ((l.take j).map Cl.turn))) (fun _ i _ => n - (intOf i).toNat)
  case atStart => exact ⟨0, none, 0, Nat.zero_le _, rfl, rfl, Below.refl _ _, CBld.nil _ _ _⟩
  case round =>
    obtain ⟨j, av, cv, hj, rfl, rfl, hnx, HT⟩ := hrel
    have zr := hnx.size
    by_cases hlt : j < n
    · have hjl : j < l.length := by have := HN.out; omega
      rcases HS.out with h0 | ⟨g0, rfl, hS0, hg0, hat⟩
      · rw [h0] at hjl; simp at hjl
      obtain ⟨c, hc⟩ : ∃ c, l[j]? = some c := ⟨_, List.getElem?_eq_getElem hjl⟩
      have hcm : c ∈ l := List.mem_of_getElem? hc
      obtain ⟨u, hu, hcu⟩ := clsAt_iff.1 hat j c hc
      rw [Nat.zero_add] at hu
      obtain ⟨T0, y0, rfl⟩ := hcu.form
      have d0 := (hnx.cell hg0).trans hu
      have HCU : Hid (ClIs w0 wr S c (.iface T0 y0)) := ClIs.keep (fun b _ hb => hnx.block b hb) (fun b hb _ => hb) hnx.size _ _ hcu
      have HIc : Hid (TurnSaid w0 73 c c.turn) := HI.out c hcm
      have HKS : Hid ((l.take (j + 1)).map Cl.turn = (l.take j).map Cl.turn ++ [c.turn]) := take_next hc
      have HLN : Hid (((l.take j).map Cl.turn).length = j) := by show _ = _; simp; omega
      have j0 : (0 : Int) ≤ (j : Int) := by omega
      have j1 : (j : Int) < (n : Int) := by omega
      have hgw : g0 < wr.heap.size := by omega
      have HB0 : Hid (Below w0.heap.size w0 wr) := HW.out.trans (hnx.mono zW)
      have HNX : Hid (Below w.heap.size w wr) := hnx
      clear hat hc hcm hu hcu hnx
      go_wp2_with fail
      refine (HIc.out wr S _ HB0.out HCU.out).mono ?_
      rintro e w2 ⟨x, rfl, hc, hb2⟩
      obtain ⟨T, y, rfl⟩ := hc.form
      have z2 := hb2.size
      have hone := hc.one
      obtain ⟨xs, hT⟩ := HT.out
      have HC2 : Hid (ClIs w0 w2 (fun b => wr.heap.size ≤ b) c.turn (.iface T y)) := hc
      have HB2 : Hid (Below wr.heap.size wr w2) := hb2
      have HTR : Hid (CBldR w0 wr w.heap.size (.slice av j cv) ((l.take j).map Cl.turn) xs) := hT
      have HRW : Hid (w2.ownsRow w.heap.size 72 1 (.slice av j cv) j xs) := by
        have := (hT.below hb2).2.1
        rw [HLN.out] at this
        exact this
      have HONE : Hid (∀ u ∈ [Value.iface T y], u.oneCell' = true) := fun u hu => by simp at hu; rw [hu]; exact hone
      clear hc hb2 hT HT hone
      go_wp2_with (first | (at_builtin; refine wpList_append_lies _ rfl _ _ 114 rfl w.heap.size 72 iC _ 1 16 Tryz.underlying114 HIC.out.1 HIC.out.2.1 HIC.out.2.2.1 HIC.out.2.2.2 rfl (by decide) _ _ _ rfl (HRW.out.alloc _) ⟨w2.heap.size, 0, none⟩ 1 1 [.iface T y] rfl rfl (one_news _ _ _) HONE.out (by decide) ?c3 ?c4 ?c5 (w2.heap.size + 1) ?c6 ?_))
      case c3 => unfold maxLen; omega
      case c4 => omega
      case c5 => simp; omega
      case c6 => simp
      intro g cap w3 hown3 hg3 hat3 hlt3
      have hold := HTR.out.old
      have HT3 : Hid (CBld w0 w3 w.heap.size (.slice (some ⟨g, 0, none⟩) (j + 1) cap) ((l.take (j + 1)).map Cl.turn)) := by
        show CBld _ _ _ _ _
        rw [HKS.out]
        refine ⟨xs ++ [.iface T y], CBldR.next (g := g) (cap := cap) HTR.out zr HB2.out HC2.out ((Below.refl _ _).alloc (Nat.le_refl _) _) hg3 ?_ ?_ ?_⟩
        · rcases hat3 with h | h
          · exact .inl h
          · exact .inr (by simp; omega)
        · rw [HLN.out]
        · rw [HLN.out]; exact hown3
      have HB3 : Hid (Below w.heap.size w w3) := (HNX.out.trans ((HB2.out.mono zr).trans ((Below.refl _ _).alloc (by omega) _))).grown hg3 (by simp; omega) (fun b hb => (hold b hb).1)
      clear hown3 hg3 hat3 hlt3 hold HTR HRW HC2 HB2 HONE HKS d0
      go_wp2
      go_roundw
      case rel => exact ⟨j + 1, _, cap, by omega, by go_num, rfl, HB3.out, HT3⟩
      case measure => simp [intOf]; omega
    · obtain rfl : j = n := by omega
      have HT2 : Hid (CBld w0 wr w.heap.size (.slice av j cv) (l.map Cl.turn)) := by
        have := HT.out
        rw [HN.out, List.take_length] at this
        show CBld _ _ _ _ _
        rw [HN.out]
        exact this
      go_wp2
      go_ret
      exact ⟨av, cv, rfl, HT2.out, hnx⟩

end Go.Proofs.YtjohocnfcnjciaaGreatDoor
namespace Go.Proofs.YtjohocnfcnjciaaGreatDoor
open Go.RowKit
set_option linter.unusedVariables false

theorem ClsKept {w0 w w' : World} {S : Nat → Prop} {a : Option Addr} {l : List Cl} (h : l = [] ∨ ∃ g, a = some ⟨g, 0, none⟩ ∧ S g ∧ g < w.heap.size ∧ ClsAt w0 w S l g 0) (hb : Below w.heap.size w w') : l = [] ∨ ∃ g, a = some ⟨g, 0, none⟩ ∧ S g ∧ g < w'.heap.size ∧ ClsAt w0 w' S l g 0 := by
  rcases h with h | ⟨g, e, h1, h2, h3⟩
  · exact .inl h
  · exact .inr ⟨g, e, h1, Nat.lt_of_lt_of_le h2 hb.size, ClsAt.keep (fun b _ hl => hb.block b hl) (fun b hs _ => hs) hb.size l g 0 h1 h2 h3⟩

theorem as_alone_alone (v : Value) (w : World) : (Instr.typeAssert (.iface 112 v) 72 112 true).run Tryz.prog w = .ok (.tuple #[v, .bool true]) w := by kernel_rfl
theorem as_alone_allOf (v : Value) (w : World) : (Instr.typeAssert (.iface 112 v) 72 116 true).run Tryz.prog w = .ok (.tuple #[.agg #[.slice none 0 0], .bool false]) w := by kernel_rfl
theorem as_alone_anyOf (v : Value) (w : World) : (Instr.typeAssert (.iface 112 v) 72 118 true).run Tryz.prog w = .ok (.tuple #[.agg #[.slice none 0 0], .bool false]) w := by kernel_rfl
theorem as_alone_notOf (v : Value) (w : World) : (Instr.typeAssert (.iface 112 v) 72 120 true).run Tryz.prog w = .ok (.tuple #[.agg #[.nilIface], .bool false]) w := by kernel_rfl
theorem as_allOf_alone (v : Value) (w : World) : (Instr.typeAssert (.iface 116 v) 72 112 true).run Tryz.prog w = .ok (.tuple #[.agg #[.int .i64 0, .string ⟨#[]⟩, .slice none 0 0, .slice none 0 0], .bool false]) w := by kernel_rfl
theorem as_allOf_allOf (v : Value) (w : World) : (Instr.typeAssert (.iface 116 v) 72 116 true).run Tryz.prog w = .ok (.tuple #[v, .bool true]) w := by kernel_rfl
theorem as_allOf_anyOf (v : Value) (w : World) : (Instr.typeAssert (.iface 116 v) 72 118 true).run Tryz.prog w = .ok (.tuple #[.agg #[.slice none 0 0], .bool false]) w := by kernel_rfl
theorem as_allOf_notOf (v : Value) (w : World) : (Instr.typeAssert (.iface 116 v) 72 120 true).run Tryz.prog w = .ok (.tuple #[.agg #[.nilIface], .bool false]) w := by kernel_rfl
theorem as_anyOf_alone (v : Value) (w : World) : (Instr.typeAssert (.iface 118 v) 72 112 true).run Tryz.prog w = .ok (.tuple #[.agg #[.int .i64 0, .string ⟨#[]⟩, .slice none 0 0, .slice none 0 0], .bool false]) w := by kernel_rfl
theorem as_anyOf_allOf (v : Value) (w : World) : (Instr.typeAssert (.iface 118 v) 72 116 true).run Tryz.prog w = .ok (.tuple #[.agg #[.slice none 0 0], .bool false]) w := by kernel_rfl
theorem as_anyOf_anyOf (v : Value) (w : World) : (Instr.typeAssert (.iface 118 v) 72 118 true).run Tryz.prog w = .ok (.tuple #[v, .bool true]) w := by kernel_rfl
theorem as_anyOf_notOf (v : Value) (w : World) : (Instr.typeAssert (.iface 118 v) 72 120 true).run Tryz.prog w = .ok (.tuple #[.agg #[.nilIface], .bool false]) w := by kernel_rfl
theorem as_notOf_alone (v : Value) (w : World) : (Instr.typeAssert (.iface 120 v) 72 112 true).run Tryz.prog w = .ok (.tuple #[.agg #[.int .i64 0, .string ⟨#[]⟩, .slice none 0 0, .slice none 0 0], .bool false]) w := by kernel_rfl
theorem as_notOf_allOf (v : Value) (w : World) : (Instr.typeAssert (.iface 120 v) 72 116 true).run Tryz.prog w = .ok (.tuple #[.agg #[.slice none 0 0], .bool false]) w := by kernel_rfl
theorem as_notOf_anyOf (v : Value) (w : World) : (Instr.typeAssert (.iface 120 v) 72 118 true).run Tryz.prog w = .ok (.tuple #[.agg #[.slice none 0 0], .bool false]) w := by kernel_rfl
theorem as_notOf_notOf (v : Value) (w : World) : (Instr.typeAssert (.iface 120 v) 72 120 true).run Tryz.prog w = .ok (.tuple #[v, .bool true]) w := by kernel_rfl

set_option maxRecDepth 100000 in
set_option maxHeartbeats 4000000 in
theorem plainOf_leaf (w0 : World) (x : Tm) : TurnSaid w0 43 (.leaf x) (Cl.leaf x).plain := by
  intro w S v hw h
  rw [ClIs] at h
  obtain ⟨c, rfl, hc⟩ := h
  have HC : Hid (TermC w0 c x) := hc
  clear hc
  obtain ⟨kd, p, va, vn, vc, ka, km, kc⟩ := c
  have a0 := as_alone_allOf
  have a1 := as_alone_anyOf
  have a2 := as_alone_notOf
  go_enter Tryz.func43, Tryz.ntmps43
  go_wp2
  go_ret
  refine ⟨_, rfl, ?_, Below.refl _ _⟩
  rw [Cl.plain, ClIs]
  exact ⟨⟨kd, p, va, vn, vc, ka, km, kc⟩, rfl, HC.out⟩

set_option maxRecDepth 100000 in
set_option maxHeartbeats 4000000 in
theorem plainOf_all (w0 : World) (l : List Cl) (hl : l.length ≤ 2 ^ 21) (ih : ∀ c ∈ l, TurnSaid w0 43 c c.plain) : TurnSaid w0 43 (.all l) (Cl.all l).plain := by
  intro w S v hw h
  rw [ClIs] at h
  obtain ⟨a, cc, rfl, hk⟩ := h
  have HW : Hid (Below w0.heap.size w0 w) := hw
  have HI : Hid (∀ c ∈ l, TurnSaid w0 43 c c.plain) := ih
  have HK : Hid (l = [] ∨ ∃ g, a = some ⟨g, 0, none⟩ ∧ S g ∧ g < w.heap.size ∧ ClsAt w0 w S l g 0) := hk
  obtain ⟨n, hn⟩ : ∃ n, n = l.length := ⟨_, rfl⟩
  have HN : Hid (n = l.length) := hn
  rw [← hn] at hl ⊢
  clear hn hw ih hk
  have a0 := as_allOf_allOf
  have a1 := as_allOf_anyOf
  have a2 := as_allOf_notOf
  go_enter Tryz.func43, Tryz.ntmps43
  go_wp2_with fail
  have hal : ∀ o, Below w.heap.size w (w.alloc o) := fun o => (Below.refl _ _).alloc (Nat.le_refl _) o
  refine (eachOf_plain w0 _ S a l n cc HN.out hl (HW.out.trans ((hal _).mono HW.out.size)) (ClsKept HK.out (hal _)) HI.out).mono ?_
  rintro e w1 ⟨av, cv, rfl, hT, hb1⟩
  have HT : Hid (CBld w0 w1 (w.alloc (.cells #[.slice a n cc] 116)).heap.size (.slice av n cv) (l.map Cl.plain)) := hT
  have HB : Hid (Below w.heap.size w w1) := (hal _).trans (hb1.mono (by simp))
  clear hT hb1 hal
  go_wp2
  go_ret
  refine ⟨_, rfl, ?_, HB.out⟩
  rw [Cl.plain, ClIs]
  have hk2 := HT.out.kids (S := fun b => w.heap.size ≤ b) (fun b hb => by simp at hb; omega)
  rw [plains_map]
  exact ⟨av, cv, by rw [← hk2.1]; rfl, hk2.2⟩

set_option maxRecDepth 100000 in
set_option maxHeartbeats 4000000 in
theorem plainOf_any (w0 : World) (l : List Cl) (hl : l.length ≤ 2 ^ 21) (ih : ∀ c ∈ l, TurnSaid w0 43 c c.plain) : TurnSaid w0 43 (.any l) (Cl.any l).plain := by
  intro w S v hw h
  rw [ClIs] at h
  obtain ⟨a, cc, rfl, hk⟩ := h
  have HW : Hid (Below w0.heap.size w0 w) := hw
  have HI : Hid (∀ c ∈ l, TurnSaid w0 43 c c.plain) := ih
  have HK : Hid (l = [] ∨ ∃ g, a = some ⟨g, 0, none⟩ ∧ S g ∧ g < w.heap.size ∧ ClsAt w0 w S l g 0) := hk
  obtain ⟨n, hn⟩ : ∃ n, n = l.length := ⟨_, rfl⟩
  have HN : Hid (n = l.length) := hn
  rw [← hn] at hl ⊢
  clear hn hw ih hk
  have a0 := as_anyOf_allOf
  have a1 := as_anyOf_anyOf
  have a2 := as_anyOf_notOf
  go_enter Tryz.func43, Tryz.ntmps43
  go_wp2_with fail
  have hal : ∀ o, Below w.heap.size w (w.alloc o) := fun o => (Below.refl _ _).alloc (Nat.le_refl _) o
  refine (eachOf_plain w0 _ S a l n cc HN.out hl (HW.out.trans ((hal _).mono HW.out.size)) (ClsKept HK.out (hal _)) HI.out).mono ?_
  rintro e w1 ⟨av, cv, rfl, hT, hb1⟩
  have HT : Hid (CBld w0 w1 (w.alloc (.cells #[.slice a n cc] 118)).heap.size (.slice av n cv) (l.map Cl.plain)) := hT
  have HB : Hid (Below w.heap.size w w1) := (hal _).trans (hb1.mono (by simp))
  clear hT hb1 hal
  go_wp2
  go_ret
  refine ⟨_, rfl, ?_, HB.out⟩
  rw [Cl.plain, ClIs]
  have hk2 := HT.out.kids (S := fun b => w.heap.size ≤ b) (fun b hb => by simp at hb; omega)
  rw [plains_map]
  exact ⟨av, cv, by rw [← hk2.1]; rfl, hk2.2⟩

set_option maxRecDepth 100000 in
set_option maxHeartbeats 4000000 in
theorem plainOf_neg (w0 : World) (c : Cl) (ih : TurnSaid w0 73 c c.turn) : TurnSaid w0 43 (.neg c) (Cl.neg c).plain := by
  intro w S v hw h
  rw [ClIs] at h
  obtain ⟨u, rfl, hc⟩ := h
  obtain ⟨T, y, rfl⟩ := hc.form
  have HW : Hid (Below w0.heap.size w0 w) := hw
  have HI : Hid (TurnSaid w0 73 c c.turn) := ih
  have HC : Hid (ClIs w0 w S c (.iface T y)) := hc
  clear hw ih hc
  have a0 := as_notOf_allOf
  have a1 := as_notOf_anyOf
  have a2 := as_notOf_notOf
  go_enter Tryz.func43, Tryz.ntmps43
  go_wp2_with fail
  have hal : ∀ o, Below w.heap.size w (w.alloc o) := fun o => (Below.refl _ _).alloc (Nat.le_refl _) o
  refine (HI.out _ S _ (HW.out.trans ((hal _).mono HW.out.size)) (ClIs.keep (fun b _ hb => (hal _).block b hb) (fun b hb _ => hb) (by simp) _ _ HC.out)).mono ?_
  rintro e w1 ⟨v1, rfl, hc1, hb1⟩
  obtain ⟨T1, y1, rfl⟩ := hc1.form
  have HC1 : Hid (ClIs w0 w1 (fun b => w.heap.size ≤ b) c.turn (.iface T1 y1)) := ClIs.keep (fun b _ hb => rfl) (fun b hb _ => by simp at hb; omega) (Nat.le_refl _) _ _ hc1
  have HB : Hid (Below w.heap.size w w1) := (hal _).trans (hb1.mono (by simp))
  clear hc1 hb1 hal
  go_wp2
  go_ret
  refine ⟨_, rfl, ?_, HB.out⟩
  rw [Cl.plain]
  exact HC1.out

set_option maxRecDepth 100000 in
set_option maxHeartbeats 4000000 in
theorem turnedOf_leaf (w0 : World) (x : Tm) : TurnSaid w0 73 (.leaf x) (Cl.leaf x).turn := by
  intro w S v hw h
  rw [ClIs] at h
  obtain ⟨c, rfl, hc⟩ := h
  have HC : Hid (TermC w0 c x) := hc
  clear hc
  obtain ⟨kd, p, va, vn, vc, ka, km, kc⟩ := c
  have a0 := as_alone_allOf
  have a1 := as_alone_anyOf
  have a2 := as_alone_notOf
  go_enter Tryz.func73, Tryz.ntmps73
  go_wp2
  go_ret
  refine ⟨_, rfl, ?_, Below.refl _ _⟩
  rw [Cl.turn, ClIs]
  refine ⟨_, rfl, ?_⟩
  rw [ClIs]
  exact ⟨⟨kd, p, va, vn, vc, ka, km, kc⟩, rfl, HC.out⟩

set_option maxRecDepth 100000 in
set_option maxHeartbeats 4000000 in
theorem turnedOf_all (w0 : World) (l : List Cl) (hl : l.length ≤ 2 ^ 21) (ih : ∀ c ∈ l, TurnSaid w0 73 c c.turn) : TurnSaid w0 73 (.all l) (Cl.all l).turn := by
  intro w S v hw h
  rw [ClIs] at h
  obtain ⟨a, cc, rfl, hk⟩ := h
  have HW : Hid (Below w0.heap.size w0 w) := hw
  have HI : Hid (∀ c ∈ l, TurnSaid w0 73 c c.turn) := ih
  have HK : Hid (l = [] ∨ ∃ g, a = some ⟨g, 0, none⟩ ∧ S g ∧ g < w.heap.size ∧ ClsAt w0 w S l g 0) := hk
  obtain ⟨n, hn⟩ : ∃ n, n = l.length := ⟨_, rfl⟩
  have HN : Hid (n = l.length) := hn
  rw [← hn] at hl ⊢
  clear hn hw ih hk
  have a0 := as_allOf_allOf
  have a1 := as_allOf_anyOf
  have a2 := as_allOf_notOf
  go_enter Tryz.func73, Tryz.ntmps73
  go_wp2_with fail
  have hal : ∀ o, Below w.heap.size w (w.alloc o) := fun o => (Below.refl _ _).alloc (Nat.le_refl _) o
  refine (eachOf_turn w0 _ S a l n cc HN.out hl (HW.out.trans ((hal _).mono HW.out.size)) (ClsKept HK.out (hal _)) HI.out).mono ?_
  rintro e w1 ⟨av, cv, rfl, hT, hb1⟩
  have HT : Hid (CBld w0 w1 (w.alloc (.cells #[.slice a n cc] 116)).heap.size (.slice av n cv) (l.map Cl.turn)) := hT
  have HB : Hid (Below w.heap.size w w1) := (hal _).trans (hb1.mono (by simp))
  clear hT hb1 hal
  go_wp2
  go_ret
  refine ⟨_, rfl, ?_, HB.out⟩
  rw [Cl.turn, ClIs]
  have hk2 := HT.out.kids (S := fun b => w.heap.size ≤ b) (fun b hb => by simp at hb; omega)
  rw [turns_map]
  exact ⟨av, cv, by rw [← hk2.1]; rfl, hk2.2⟩

set_option maxRecDepth 100000 in
set_option maxHeartbeats 4000000 in
theorem turnedOf_any (w0 : World) (l : List Cl) (hl : l.length ≤ 2 ^ 21) (ih : ∀ c ∈ l, TurnSaid w0 73 c c.turn) : TurnSaid w0 73 (.any l) (Cl.any l).turn := by
  intro w S v hw h
  rw [ClIs] at h
  obtain ⟨a, cc, rfl, hk⟩ := h
  have HW : Hid (Below w0.heap.size w0 w) := hw
  have HI : Hid (∀ c ∈ l, TurnSaid w0 73 c c.turn) := ih
  have HK : Hid (l = [] ∨ ∃ g, a = some ⟨g, 0, none⟩ ∧ S g ∧ g < w.heap.size ∧ ClsAt w0 w S l g 0) := hk
  obtain ⟨n, hn⟩ : ∃ n, n = l.length := ⟨_, rfl⟩
  have HN : Hid (n = l.length) := hn
  rw [← hn] at hl ⊢
  clear hn hw ih hk
  have a0 := as_anyOf_allOf
  have a1 := as_anyOf_anyOf
  have a2 := as_anyOf_notOf
  go_enter Tryz.func73, Tryz.ntmps73
  go_wp2_with fail
  have hal : ∀ o, Below w.heap.size w (w.alloc o) := fun o => (Below.refl _ _).alloc (Nat.le_refl _) o
  refine (eachOf_turn w0 _ S a l n cc HN.out hl (HW.out.trans ((hal _).mono HW.out.size)) (ClsKept HK.out (hal _)) HI.out).mono ?_
  rintro e w1 ⟨av, cv, rfl, hT, hb1⟩
  have HT : Hid (CBld w0 w1 (w.alloc (.cells #[.slice a n cc] 118)).heap.size (.slice av n cv) (l.map Cl.turn)) := hT
  have HB : Hid (Below w.heap.size w w1) := (hal _).trans (hb1.mono (by simp))
  clear hT hb1 hal
  go_wp2
  go_ret
  refine ⟨_, rfl, ?_, HB.out⟩
  rw [Cl.turn, ClIs]
  have hk2 := HT.out.kids (S := fun b => w.heap.size ≤ b) (fun b hb => by simp at hb; omega)
  rw [turns_map]
  exact ⟨av, cv, by rw [← hk2.1]; rfl, hk2.2⟩

set_option maxRecDepth 100000 in
set_option maxHeartbeats 4000000 in
theorem turnedOf_neg (w0 : World) (c : Cl) (ih : TurnSaid w0 43 c c.plain) : TurnSaid w0 73 (.neg c) (Cl.neg c).turn := by
  intro w S v hw h
  rw [ClIs] at h
  obtain ⟨u, rfl, hc⟩ := h
  obtain ⟨T, y, rfl⟩ := hc.form
  have HW : Hid (Below w0.heap.size w0 w) := hw
  have HI : Hid (TurnSaid w0 43 c c.plain) := ih
  have HC : Hid (ClIs w0 w S c (.iface T y)) := hc
  clear hw ih hc
  have a0 := as_notOf_allOf
  have a1 := as_notOf_anyOf
  have a2 := as_notOf_notOf
  go_enter Tryz.func73, Tryz.ntmps73
  go_wp2_with fail
  have hal : ∀ o, Below w.heap.size w (w.alloc o) := fun o => (Below.refl _ _).alloc (Nat.le_refl _) o
  refine (HI.out _ S _ (HW.out.trans ((hal _).mono HW.out.size)) (ClIs.keep (fun b _ hb => (hal _).block b hb) (fun b hb _ => hb) (by simp) _ _ HC.out)).mono ?_
  rintro e w1 ⟨v1, rfl, hc1, hb1⟩
  obtain ⟨T1, y1, rfl⟩ := hc1.form
  have HC1 : Hid (ClIs w0 w1 (fun b => w.heap.size ≤ b) c.plain (.iface T1 y1)) := ClIs.keep (fun b _ hb => rfl) (fun b hb _ => by simp at hb; omega) (Nat.le_refl _) _ _ hc1
  have HB : Hid (Below w.heap.size w w1) := (hal _).trans (hb1.mono (by simp))
  clear hc1 hb1 hal
  go_wp2
  go_ret
  refine ⟨_, rfl, ?_, HB.out⟩
  rw [Cl.turn]
  exact HC1.out

theorem turn_any (w0 : World) : ∀ (s : Nat) (c : Cl), c.size ≤ s → c.size ≤ 2 ^ 21 → TurnSaid w0 43 c c.plain ∧ TurnSaid w0 73 c c.turn := by
  intro s
  induction s with
  | zero => intro c h; have := Cl.size_one c; omega
  | succ s ih =>
    intro c hs h21
    cases c with
    | leaf x => exact ⟨plainOf_leaf w0 x, turnedOf_leaf w0 x⟩
    | all l =>
      simp only [Cl.size] at hs h21
      have hl := Cl.len_sizes l
      have hk : ∀ c ∈ l, TurnSaid w0 43 c c.plain ∧ TurnSaid w0 73 c c.turn := fun c hc => by
        have := Cl.size_in hc
        exact ih c (by omega) (by omega)
      exact ⟨plainOf_all w0 l (by omega) fun c hc => (hk c hc).1, turnedOf_all w0 l (by omega) fun c hc => (hk c hc).2⟩
    | any l =>
      simp only [Cl.size] at hs h21
      have hl := Cl.len_sizes l
      have hk : ∀ c ∈ l, TurnSaid w0 43 c c.plain ∧ TurnSaid w0 73 c c.turn := fun c hc => by
        have := Cl.size_in hc
        exact ih c (by omega) (by omega)
      exact ⟨plainOf_any w0 l (by omega) fun c hc => (hk c hc).1, turnedOf_any w0 l (by omega) fun c hc => (hk c hc).2⟩
    | neg c =>
      simp only [Cl.size] at hs h21
      have hk := ih c (by omega) (by omega)
      exact ⟨plainOf_neg w0 c hk.2, turnedOf_neg w0 c hk.1⟩

end Go.Proofs.YtjohocnfcnjciaaGreatDoor
namespace Go.Proofs.YtjohocnfcnjciaaGreatDoor
open Go.RowKit
set_option linter.unusedVariables false

/-- The terms of a list. -/
def TL (L : List Tm) (i : Nat) : Tm := atL L i
theorem TL_snoc (L : List Tm) (y : Tm) : (fun i => if i = L.length then y else TL L i) = TL (L ++ [y]) := by
  funext i
  unfold TL atL
  rw [List.getD_eq_getElem?_getD, List.getD_eq_getElem?_getD]
  by_cases e : i = L.length
  · subst e; simp
  · rw [if_neg e]
    by_cases h : i < L.length
    · rw [List.getElem?_append_left h]
    · rw [List.getElem?_eq_none (by omega), List.getElem?_eq_none (by simp; omega)]
/-- The kids' numbers. -/
def numK (l : List Cl) (n i : Nat) : Int := (((Cl.nums l n).getD i 0 : Nat) : Int)
theorem nums_at : ∀ (l : List Cl) (n j : Nat) (c : Cl), l[j]? = some c → (Cl.nums l n).getD j 0 = n + Cl.sizes (l.take j) + c.size - 1
  | [], n, j, c, h => by simp at h
  | d :: l, n, 0, c, h => by
    simp at h
    subst h
    simp [Cl.nums, Cl.sizes]
  | d :: l, n, j + 1, c, h => by
    have := nums_at l (n + d.size) j c (by simpa using h)
    simp only [Cl.nums, List.getD_cons_succ, List.take_succ_cons, Cl.sizes]
    rw [this]
    omega
theorem emits_take : ∀ (l : List Cl) (n j : Nat) (c : Cl), l[j]? = some c → Cl.emits (l.take (j + 1)) n = Cl.emits (l.take j) n ++ c.emit (n + Cl.sizes (l.take j))
  | [], n, j, c, h => by simp at h
  | d :: l, n, 0, c, h => by
    simp at h
    subst h
    simp [Cl.emits, Cl.sizes]
  | d :: l, n, j + 1, c, h => by
    have := emits_take l (n + d.size) j c (by simpa using h)
    simp only [List.take_succ_cons, Cl.emits, Cl.sizes]
    rw [this, List.append_assoc]
    congr 3
    omega
theorem sizes_take : ∀ (l : List Cl) (j : Nat) (c : Cl), l[j]? = some c → Cl.sizes (l.take (j + 1)) = Cl.sizes (l.take j) + c.size
  | [], j, c, h => by simp at h
  | d :: l, 0, c, h => by
    simp at h
    subst h
    simp [Cl.sizes]
  | d :: l, j + 1, c, h => by
    have := sizes_take l j c (by simpa using h)
    simp only [List.take_succ_cons, Cl.sizes]
    rw [this]
    omega
theorem sizes_le : ∀ (l : List Cl) (j : Nat), Cl.sizes (l.take j) ≤ Cl.sizes l
  | [], j => by simp
  | d :: l, 0 => by simp [Cl.sizes]
  | d :: l, j + 1 => by
    have := sizes_le l j
    simp only [List.take_succ_cons, Cl.sizes]
    omega

/-- What appendClause answers. -/
def EmSaid (w0 w1 : World) (c : Cl) : Prop := ∀ (S : Nat → Prop) (vc : Value) (w : World) (X : Nat → Prop) (v : Value) (L : List Tm) (k : Nat) (R : Nat → Tc), k = L.length → ClIs w0 w1 S c vc → Below w1.heap.size w1 w → TBldX w w1.heap.size X v k (TL L) R → (∀ q, X q → q < w.heap.size) → k + c.size ≤ 2 ^ 22 →
    Calls Tryz.prog 42 #[v, vc] w fun e w' => ∃ v' R', e = .returned v' ∧ TBldX w' w1.heap.size X v' (k + c.size) (TL (L ++ c.emit k)) R' ∧ w.grownBy w' v.ownBlock ∧ Onward w v v'

theorem own_kidB {w : World} {B : Nat} {v : Value} {n : Nat} {K : Nat → Int} (h : w.ownsRow B 3 1 v n (kidL K n)) (hn : n ≤ 2 ^ 30) : ∃ a c g, v = .slice a n c ∧ n ≤ c ∧ (n ≠ 0 → B ≤ g ∧ v.ownBlock = some g) ∧ OwnK w g v n K := by
  rcases row_open h with ⟨rfl, rfl⟩ | ⟨g, cap, rfl, h1, h2, h3, h4, h5⟩
  · exact ⟨none, 0, 0, rfl, Nat.le_refl _, fun h => absurd rfl h, none, 0, rfl, hn, .inl rfl⟩
  · refine ⟨_, cap, g, rfl, h3, fun _ => ⟨h1, rfl⟩, _, cap, rfl, hn, .inr ⟨rfl, h2, fun i hi => ⟨?_, h5 i⟩⟩⟩
    have := h4 i (by omega)
    rw [this]
    have q := rowL_get (f := fun i => [Value.int .i64 (K i)]) (k := 1) (fun _ => rfl) n i 0 hi (by omega)
    simpa [kidL] using q
theorem row_in {w : World} {B : Nat} {e : TypeId} {z : Nat} {v : Value} {n : Nat} {xs : List Value} (h : w.ownsRow B e z v n xs) : ∀ q, v.ownBlock = some q → B ≤ q ∧ q < w.heap.size := fun q hq => by
  rcases row_open h with ⟨rfl, _⟩ | ⟨g', cap', rfl, g1, g2, _⟩
  · simp [Value.ownBlock] at hq
  · simp [Value.ownBlock] at hq; omega

/-- What appendKids holds behind j kids. -/
def KSt (w1 w : World) (X : Nat → Prop) (v0 : Value) (l : List Cl) (L : List Tm) (k j s : Nat) (v nv : Value) (wr : World) : Prop := s = k + Cl.sizes (l.take j) ∧ (∃ R, TBldX wr w1.heap.size (fun q => X q ∨ nv.ownBlock = some q) v s (TL (L ++ Cl.emits (l.take j) k)) R) ∧ wr.ownsRow w.heap.size 3 1 nv j (kidL (numK l k) j) ∧ w.grownBy wr v0.ownBlock ∧ Onward w v0 v ∧ (j = 0 → wr = w)

set_option maxRecDepth 100000 in
set_option maxHeartbeats 4000000 in
theorem appendKids_any (w0 w1 w : World) (S : Nat → Prop) (kind : Int) (a : Option Addr) (l : List Cl) (n cc : Nat) (hn : n = l.length) (X : Nat → Prop) (v : Value) (L : List Tm) (k : Nat) (R : Nat → Tc) (hkL : k = L.length) (hw1 : Below w1.heap.size w1 w) (hT : TBldX w w1.heap.size X v k (TL L) R) (hX : ∀ q, X q → q < w.heap.size) (hz : k + Cl.sizes l + 1 ≤ 2 ^ 22)
    (hread : n ≠ 0 → ∃ g, a = some ⟨g, 0, none⟩ ∧ ∀ (j : Nat) (c : Cl), l[j]? = some c → ∀ wr, (j = 0 → wr = w) → Below w1.heap.size w1 wr → g < wr.heap.size ∧ ∃ u, wr.cell? ⟨g, j, none⟩ = some u ∧ ClIs w0 w1 S c u) (ih : ∀ c ∈ l, EmSaid w0 w1 c) :
    Calls Tryz.prog 71 #[v, .int .i64 kind, .slice a n cc] w fun e w' => ∃ v' R', e = .returned v' ∧ TBldX w' w1.heap.size X v' (k + Cl.sizes l + 1) (TL (L ++ Cl.emits l k ++ [overT kind (Cl.nums l k)])) R' ∧ w.grownBy w' v.ownBlock ∧ Onward w v v' := by
  obtain ⟨va, vc, rfl⟩ := hT.bld.form
  have HRD : Hid (n ≠ 0 → ∃ g, a = some ⟨g, 0, none⟩ ∧ ∀ (j : Nat) (c : Cl), l[j]? = some c → ∀ wr, (j = 0 → wr = w) → Below w1.heap.size w1 wr → g < wr.heap.size ∧ ∃ u, wr.cell? ⟨g, j, none⟩ = some u ∧ ClIs w0 w1 S c u) := hread
  have HI : Hid (∀ c ∈ l, EmSaid w0 w1 c) := ih
  have HT : Hid (TBldX w w1.heap.size X (.slice va k vc) k (TL L) R) := hT
  have HX : Hid (∀ q, X q → q < w.heap.size) := hX
  have HW : Hid (Below w1.heap.size w1 w) := hw1
  have HN : Hid (n = l.length ∧ k = L.length) := ⟨hn, hkL⟩
  have zW := hw1.size
  have hnl : n ≤ 2 ^ 22 := by have := Cl.len_sizes l; omega
  clear hread ih hT hX hw1 hn hkL
  obtain ⟨iI, hi, hz0, hz1, hz2⟩ := info_parts infoInt
  have HII : Hid (Tryz.prog.info? 3 = some iI ∧ iI.zero = some (.int .i64 0) ∧ iI.size = 1 ∧ iI.bytes = 8) := ⟨hi, hz0, hz1, hz2⟩
  clear hi hz0 hz1 hz2
  go_enter Tryz.func71, Tryz.ntmps71
  go_wp2_with fail
  go_loopw [0, 7, 12] (fun v nv i wr => ∃ (j s : Nat) (va2 : Option Addr) (vc2 : Nat) (an : Option Addr) (cn : Nat), j ≤ n ∧ i = .int .i64 (j : Int) ∧ v = .slice va2 s vc2 ∧ nv = .slice an j cn ∧ Hid (KSt w1 w X (.slice va k vc) l L k j s (.slice va2 s vc2) (.slice an j cn) wr)) (fun _ _ i _ => n - (intOf i).toNat)
  case atStart =>
    refine ⟨0, k, va, vc, none, 0, Nat.zero_le _, rfl, rfl, rfl, by simp [Cl.sizes], ⟨R, ?_⟩, World.ownsRow_nil _ _ _ _, ⟨rfl, rfl, rfl, Nat.le_refl _, fun _ _ _ => rfl⟩, fun g hg => .inl hg, fun _ => rfl⟩
    have := HT.out.more (Y := fun q => X q ∨ (Value.slice none 0 0).ownBlock = some q) (fun g hg => by rcases hg with h | h; exact .inl h; simp [Value.ownBlock] at h)
    simpa [Cl.emits] using this
  case round =>
    obtain ⟨j, s, va2, vc2, an, cn, hj, rfl, rfl, rfl, HK⟩ := hrel
    obtain ⟨hs, ⟨R2, hTX⟩, hrow, hgr, hon, hj0⟩ := HK.out
    have hold0 := HT.out.old
    have hsle := sizes_le l j
    have s22 : s + 1 ≤ 2 ^ 22 := by omega
    have zr := hgr.size
    have hBw : Below w1.heap.size w1 wr := HW.out.grown hgr zW (fun b hb => (hold0 b hb).1)
    have hrin := row_in hrow
    have hX' : ∀ q, (X q ∨ (Value.slice an j cn).ownBlock = some q) → q < wr.heap.size := fun q hq => by
      rcases hq with h | h
      · have := HX.out q h; omega
      · exact (hrin q h).2
    have HX' : Hid (∀ q, (X q ∨ (Value.slice an j cn).ownBlock = some q) → q < wr.heap.size) := hX'
    have HTX : Hid (TBldX wr w1.heap.size (fun q => X q ∨ (Value.slice an j cn).ownBlock = some q) (.slice va2 s vc2) s (TL (L ++ Cl.emits (l.take j) k)) R2) := hTX
    have HROW : Hid (wr.ownsRow w.heap.size 3 1 (.slice an j cn) j (kidL (numK l k) j)) := hrow
    have HGR : Hid (w.grownBy wr (Value.slice va k vc).ownBlock ∧ Onward w (.slice va k vc) (.slice va2 s vc2)) := ⟨hgr, hon⟩
    have HBW : Hid (Below w1.heap.size w1 wr) := hBw
    have HSZ : Hid (s = k + Cl.sizes (l.take j)) := hs
    by_cases hlt : j < n
    · have hjl : j < l.length := by have := HN.out.1; omega
      obtain ⟨c, hc⟩ : ∃ c, l[j]? = some c := ⟨_, List.getElem?_eq_getElem hjl⟩
      obtain ⟨g0, rfl, hrd⟩ := HRD.out (by omega)
      obtain ⟨hgw, u, hu, hcu⟩ := hrd j c hc wr hj0 hBw
      obtain ⟨T0, y0, rfl⟩ := hcu.form
      have hst := sizes_take l j c hc
      have hsl2 := sizes_le l (j + 1)
      have hcp := Cl.size_one c
      obtain ⟨cs, hcs⟩ : ∃ cs, cs = c.size := ⟨_, rfl⟩
      have hll : s = (L ++ Cl.emits (l.take j) k).length := by rw [List.length_append, Cl.emits_len, ← HN.out.2]; exact hs
      have HEM : Hid (Calls Tryz.prog 42 #[.slice va2 s vc2, .iface T0 y0] wr fun e w' => ∃ v' R', e = .returned v' ∧ TBldX w' w1.heap.size (fun q => X q ∨ (Value.slice an j cn).ownBlock = some q) v' (s + cs) (TL (L ++ Cl.emits (l.take (j + 1)) k)) R' ∧ wr.grownBy w' (Value.slice va2 s vc2).ownBlock ∧ Onward wr (.slice va2 s vc2) v') := by
        have h1 := HI.out c (List.mem_of_getElem? hc) S (.iface T0 y0) wr (fun q => X q ∨ (Value.slice an j cn).ownBlock = some q) (.slice va2 s vc2) (L ++ Cl.emits (l.take j) k) s R2 hll hcu hBw hTX hX' (by omega)
        show Calls _ _ _ _ _
        rw [emits_take l k j c hc, ← List.append_assoc, hcs, ← hs]
        exact h1
      have HNU : Hid (kidL (numK l k) (j + 1) = kidL (numK l k) j ++ [.int .i64 ((s : Int) + cs - 1)]) := by
        show _ = _
        have e1 : numK l k j = (s : Int) + cs - 1 := by
          unfold numK
          rw [nums_at l k j c hc]
          omega
        rw [← e1]
        rfl
      have HS2 : Hid (s + cs = k + Cl.sizes (l.take (j + 1))) := by show _ = _; omega
      have cs22 : s + cs + 1 ≤ 2 ^ 22 := by omega
      have cs0 : 1 ≤ cs := by omega
      have j0 : (0 : Int) ≤ (j : Int) := by omega
      have j1 : (j : Int) < (n : Int) := by omega
      clear hs hrd hc hcu hst hsl2 hcp hcs hll hTX hrow hgr hon hj0 hX' hBw hrin HK hsle hold0
      go_wp2_with fail
      refine HEM.out.mono ?_
      rintro e w2 ⟨v2, R3, rfl, hT2, hg2, ho2⟩
      obtain ⟨va3, vc3, rfl⟩ := hT2.bld.form
      have z2 := hg2.size
      have HT2 : Hid (TBldX w2 w1.heap.size (fun q => X q ∨ (Value.slice an j cn).ownBlock = some q) (.slice va3 (s + cs) vc3) (s + cs) (TL (L ++ Cl.emits (l.take (j + 1)) k)) R3) := hT2
      have HG2 : Hid (wr.grownBy w2 (Value.slice va2 s vc2).ownBlock ∧ Onward wr (.slice va2 s vc2) (.slice va3 (s + cs) vc3)) := ⟨hg2, ho2⟩
      have HRW : Hid (w2.ownsRow w.heap.size 3 1 (.slice an j cn) j (kidL (numK l k) j)) := row_far HROW.out hg2 (fun g hg e => HTX.out.away g hg (.inr e))
      clear hT2 hg2 ho2
      go_wp2_with (first | (at_builtin; refine wpList_append_lies _ rfl _ _ 49 rfl w.heap.size 3 iI _ 1 8 Tryz.underlying49 HII.out.1 HII.out.2.1 HII.out.2.2.1 HII.out.2.2.2 rfl (by decide) _ _ _ rfl (HRW.out.alloc _) ⟨w2.heap.size, 0, none⟩ 1 1 [.int .i64 ((s : Int) + cs - 1)] rfl rfl (one_news _ _ _) ?c2 (by decide) ?c3 ?c4 ?c5 (w2.heap.size + 1) ?c6 ?_))
      case c2 => intro u hu; simp at hu; subst hu; rfl
      case c3 => unfold maxLen; omega
      case c4 => omega
      case c5 => simp; omega
      case c6 => simp
      intro g cap w3 hown3 hg3 hat3 hlt3
      have hrin := row_in HRW.out
      have hon2 : Onward w (.slice va k vc) (.slice va3 (s + cs) vc3) := fun q hq => by
        rcases HG2.out.2 q hq with h | h
        · exact HGR.out.2 q h
        · exact .inr (by omega)
      have hgr2 : w.grownBy w2 (Value.slice va k vc).ownBlock := grown_chain HGR.out.1 HGR.out.2 HG2.out.1
      have hal : ∀ o, Below w2.heap.size w2 (w2.alloc o) := fun o => (Below.refl _ _).alloc (Nat.le_refl _) o
      have HK3 : Hid (KSt w1 w X (.slice va k vc) l L k (j + 1) (s + cs) (.slice va3 (s + cs) vc3) (.slice (some ⟨g, 0, none⟩) (j + 1) cap) w3) := by
        refine ⟨HS2.out, ⟨R3, ?_⟩, by rw [HNU.out]; exact hown3, grown_chain hgr2 (fun q hq => .inr (hrin q hq).1) (grown_after (hal _) hg3), hon2, fun h => by omega⟩
        have t1 := (HT2.out.below (hal (.cells #[.int .i64 ((s : Int) + cs - 1)] 3))).more (Y := fun q => X q ∨ (Value.slice an j cn).ownBlock = some q ∨ q = g) (fun q hq => by
          rcases hq with h | h | h
          · exact .inl (.inl h)
          · exact .inl (.inr h)
          · subst h
            rcases hat3 with h | h
            · exact .inl (.inr h)
            · exact .inr (by simp; omega))
        have t2 := t1.far hg3 (fun q hq => .inr (.inl hq))
        exact t2.more (fun q hq => by
          rcases hq with h | h
          · exact .inl (.inl h)
          · have : q = g := by simp [Value.ownBlock] at h; exact h.symm
            exact .inl (.inr (.inr this)))
      clear hown3 hg3 hat3 hlt3 hrin hon2 hgr2 hal HT2 HG2 HRW HNU HS2 HEM HTX HROW HGR HBW HX' HSZ hu
      go_wp2
      go_roundw
      case rel => exact ⟨j + 1, s + cs, va3, vc3, _, cap, by omega, by go_num, rfl, rfl, HK3⟩
      case measure => simp [intOf]; omega
    · obtain rfl : j = n := by omega
      have hst : s = k + Cl.sizes l := by rw [hs, HN.out.1, List.take_length]
      have HST : Hid (s = k + Cl.sizes l) := hst
      have hj30 : j ≤ 2 ^ 30 := by omega
      obtain ⟨an', cn', gk, ek, hck, hgk, hok⟩ := own_kidB hrow hj30
      injection ek with e1 _ e3
      subst e1 e3
      have HAB : Hid (Calls Tryz.prog 91 #[.slice va2 s vc2, .int .i64 kind, .slice an j cn] wr fun e w' => ∃ v' R', e = .returned v' ∧ TBldX w' w1.heap.size X v' (s + 1) (fun i => if i = s then aboveT kind j (numK l k) else TL (L ++ Cl.emits (l.take j) k) i) R' ∧ wr.grownBy w' (Value.slice va2 s vc2).ownBlock ∧ Onward wr (.slice va2 s vc2) v') :=
        appendAbove_fr w1.heap.size wr (fun q => X q ∨ (Value.slice an j cn).ownBlock = some q) X (.slice va2 s vc2) s _ R2 kind an cn j gk (numK l k) hTX hX' (by omega) (by omega) hck hok (fun h => ⟨by have := (hgk h).1; omega, .inr (hgk h).2⟩) (fun q hq => ⟨.inl hq, fun h e => by have := HX.out q hq; have := (hgk h).1; omega⟩)
      have HFN : Hid ((fun i => if i = s then aboveT kind j (numK l k) else TL (L ++ Cl.emits (l.take j) k) i) = TL (L ++ Cl.emits l k ++ [overT kind (Cl.nums l k)])) := by
        have e1 : l.take j = l := by rw [HN.out.1, List.take_length]
        have e2 : s = (L ++ Cl.emits l k).length := by rw [List.length_append, Cl.emits_len, ← HN.out.2]; exact hst
        have e3 : aboveT kind j (numK l k) = overT kind (Cl.nums l k) := by
          unfold overT
          rw [Cl.nums_len, ← HN.out.1]
          rfl
        show _ = _
        rw [e1, e3, e2]
        exact TL_snoc _ _
      clear hs hst hTX hrow hgr hon hj0 hX' hBw hrin HK hsle hold0 hgk hok hck
      go_wp2_with fail
      refine HAB.out.mono ?_
      rintro e w2 ⟨v2, R3, rfl, hT2, hg2, ho2⟩
      rw [HFN.out] at hT2
      obtain ⟨va3, vc3, rfl⟩ := hT2.bld.form
      have HT2 : Hid (TBldX w2 w1.heap.size X (.slice va3 (s + 1) vc3) (s + 1) (TL (L ++ Cl.emits l k ++ [overT kind (Cl.nums l k)])) R3) := hT2
      have HG2 : Hid (w.grownBy w2 (Value.slice va k vc).ownBlock ∧ Onward w (.slice va k vc) (.slice va3 (s + 1) vc3)) := by
        refine ⟨grown_chain HGR.out.1 HGR.out.2 hg2, fun q hq => ?_⟩
        rcases ho2 q hq with h | h
        · exact HGR.out.2 q h
        · exact .inr (by omega)
      clear hT2 hg2 ho2
      go_wp2
      go_ret
      refine ⟨_, R3, rfl, ?_, HG2.out.1, HG2.out.2⟩
      have := HT2.out
      rw [HST.out] at this ⊢
      exact this

end Go.Proofs.YtjohocnfcnjciaaGreatDoor
namespace Go.Proofs.YtjohocnfcnjciaaGreatDoor
open Go.RowKit
set_option linter.unusedVariables false

theorem leaf_small {x : Tm} (h : LeafOK x) : x.m = 0 ∧ x.n ≤ 80 := by
  obtain ⟨hf, hk⟩ := h
  unfold FieldsOK at hf
  rcases hf with ⟨_, _, hg, hm⟩ | ⟨_, _, hn, hm⟩ | ⟨_, _, ⟨hg, _⟩, hm⟩ | ⟨h6, _⟩ | ⟨h8, _⟩
  · exact ⟨hm, by have := hg.1.2.1; omega⟩
  · exact ⟨hm, by omega⟩
  · exact ⟨hm, by have := hg.1.2.1; omega⟩
  · omega
  · omega

set_option maxRecDepth 100000 in
set_option maxHeartbeats 4000000 in
theorem appendClause_leaf (w0 w1 : World) (h01 : Below w0.heap.size w0 w1) (x : Tm) (hx : LeafOK x) : EmSaid w0 w1 (.leaf x) := by
  intro S vc w X v L k R hkL hc hw hT hX hz
  rw [ClIs] at hc
  obtain ⟨⟨kd, p, va', vn, vc', ka, km, kc⟩, rfl, ⟨e0, e1, e2, e3, hva, _⟩, _⟩ := hc
  obtain ⟨hm, hn⟩ := leaf_small hx
  dsimp only at e0 e1 e2 e3 hva
  obtain ⟨va, vcc, rfl⟩ := hT.bld.form
  rw [hm] at e3
  have HE : Hid (kd = x.kind ∧ p = x.path ∧ vn = x.n) := ⟨e0, e1, e2⟩
  rw [← e2] at hn
  have HV : Hid (ArgIs w va' vn x.N) := by rw [e2]; exact (hva.below h01).below hw
  have HT : Hid (TBldX w w1.heap.size X (.slice va k vcc) k (TL L) R) := hT
  have HX : Hid (∀ q, X q → q < w.heap.size) := hX
  have HW : Hid (Below w1.heap.size w1 w) := hw
  have HKL : Hid (k = L.length) := hkL
  subst e3
  clear hva hT hX hw hkL e0 e1 e2 hx hm h01
  simp only [Cl.size] at hz
  have a0 := as_alone_alone
  go_enter Tryz.func42, Tryz.ntmps42
  go_wp2_with fail
  have hal : ∀ o o', Below w.heap.size w ((w.alloc o).alloc o') := fun o o' => ((Below.refl _ _).alloc (Nat.le_refl _) o).alloc (by simp) o'
  refine (appendTerms_one w1.heap.size w _ (.slice va k vcc) k (TL L) (w.heap.size + 1) kd p va' vn vc' x.N ka kc X R HT.out HX.out HW.out.size (by omega) (hal _ _) (by simp) (by simp [go_sem]) (by simp [go_sem]) (by simp [go_sem]) (by simp [go_sem]) (HV.out.below (hal _ _)) (by omega)).mono ?_
  rintro e w2 ⟨v2, R3, rfl, hT2, hg2, ho2⟩
  obtain ⟨va3, vc3, rfl⟩ := hT2.bld.form
  have HT2 : Hid (TBldX w2 w1.heap.size X (.slice va3 (k + 1) vc3) (k + 1) (TL (L ++ [leafT x])) R3) := by
    show TBldX _ _ _ _ _ _ _
    have e : (⟨kd, p, vn, x.N, 0, fun _ => 0⟩ : Tm) = leafT x := by
      obtain ⟨e0, e1, e2⟩ := HE.out
      subst e0 e1 e2
      rfl
    rw [e, HKL.out, TL_snoc] at hT2
    rw [HKL.out]
    exact hT2
  have HG2 : Hid (w.grownBy w2 (Value.slice va k vcc).ownBlock ∧ Onward w (.slice va k vcc) (.slice va3 (k + 1) vc3)) := by
    refine ⟨grown_after (hal _ _) hg2, fun q hq => ?_⟩
    rcases ho2 q hq with h | h
    · exact .inl h
    · exact .inr (by simp at h; omega)
  clear hT2 hg2 ho2 hal
  go_wp2
  go_ret
  refine ⟨_, R3, rfl, ?_, HG2.out.1, HG2.out.2⟩
  have := HT2.out
  rw [Cl.emit, Cl.size]
  exact this

set_option maxRecDepth 100000 in
set_option maxHeartbeats 4000000 in
theorem appendClause_all (w0 w1 : World) (l : List Cl) (ih : ∀ c ∈ l, EmSaid w0 w1 c) : EmSaid w0 w1 (.all l) := by
  intro S vc w X v L k R hkL hc hw hT hX hz
  rw [ClIs] at hc
  obtain ⟨a, cc, rfl, hk⟩ := hc
  obtain ⟨va, vcc, rfl⟩ := hT.bld.form
  obtain ⟨n, hn⟩ : ∃ n, n = l.length := ⟨_, rfl⟩
  rw [← hn]
  simp only [Cl.size] at hz
  have hal : ∀ o, Below w.heap.size w (w.alloc o) := fun o => (Below.refl _ _).alloc (Nat.le_refl _) o
  have z1 := hw.size
  have HAK : Hid (∀ o, Calls Tryz.prog 71 #[.slice va k vcc, .int .i64 6, .slice a n cc] (w.alloc o) fun e w' => ∃ v' R', e = .returned v' ∧ TBldX w' w1.heap.size X v' (k + Cl.sizes l + 1) (TL (L ++ Cl.emits l k ++ [overT 6 (Cl.nums l k)])) R' ∧ (w.alloc o).grownBy w' (Value.slice va k vcc).ownBlock ∧ Onward (w.alloc o) (.slice va k vcc) v') := fun o => by
    refine appendKids_any w0 w1 (w.alloc o) S 6 a l n cc hn X (.slice va k vcc) L k R hkL (hw.trans ((hal o).mono z1)) (hT.below (hal o)) (fun q hq => by have := hX q hq; simp; omega) (by omega) (fun hn0 => ?_) ih
    rcases hk with h | ⟨g, e, h1, h2, h3⟩
    · rw [h] at hn; exact absurd hn hn0
    · refine ⟨g, e, fun j c hc wr _ hb => ?_⟩
      have zb := hb.size
      obtain ⟨u, hu, hcu⟩ := clsAt_iff.1 h3 j c hc
      rw [Nat.zero_add] at hu
      exact ⟨by omega, u, (hb.cell h2).trans hu, hcu⟩
  have HAL : Hid (∀ o, Below w.heap.size w (w.alloc o)) := hal
  clear hk hT hX hw ih hal hn hkL
  have a0 := as_allOf_alone
  have a1 := as_allOf_allOf
  go_enter Tryz.func42, Tryz.ntmps42
  go_wp2_with fail
  refine (HAK.out _).mono ?_
  rintro e w2 ⟨v2, R3, rfl, hT2, hg2, ho2⟩
  obtain ⟨va3, vc3, rfl⟩ := hT2.bld.form
  have HT2 : Hid (TBldX w2 w1.heap.size X (.slice va3 (k + Cl.sizes l + 1) vc3) (k + Cl.sizes l + 1) (TL (L ++ Cl.emits l k ++ [overT 6 (Cl.nums l k)])) R3) := hT2
  have HG2 : Hid (w.grownBy w2 (Value.slice va k vcc).ownBlock ∧ Onward w (.slice va k vcc) (.slice va3 (k + Cl.sizes l + 1) vc3)) := by
    refine ⟨grown_after (HAL.out _) hg2, fun q hq => ?_⟩
    rcases ho2 q hq with h | h
    · exact .inl h
    · exact .inr (by simp at h; omega)
  clear hT2 hg2 ho2
  go_wp2
  go_ret
  refine ⟨_, R3, rfl, ?_, HG2.out.1, HG2.out.2⟩
  have := HT2.out
  rw [Cl.emit, Cl.size, ← List.append_assoc]
  exact this

set_option maxRecDepth 100000 in
set_option maxHeartbeats 4000000 in
theorem appendClause_any' (w0 w1 : World) (l : List Cl) (ih : ∀ c ∈ l, EmSaid w0 w1 c) : EmSaid w0 w1 (.any l) := by
  intro S vc w X v L k R hkL hc hw hT hX hz
  rw [ClIs] at hc
  obtain ⟨a, cc, rfl, hk⟩ := hc
  obtain ⟨va, vcc, rfl⟩ := hT.bld.form
  obtain ⟨n, hn⟩ : ∃ n, n = l.length := ⟨_, rfl⟩
  rw [← hn]
  simp only [Cl.size] at hz
  have hal : ∀ o, Below w.heap.size w (w.alloc o) := fun o => (Below.refl _ _).alloc (Nat.le_refl _) o
  have z1 := hw.size
  have HAK : Hid (∀ o, Calls Tryz.prog 71 #[.slice va k vcc, .int .i64 7, .slice a n cc] (w.alloc o) fun e w' => ∃ v' R', e = .returned v' ∧ TBldX w' w1.heap.size X v' (k + Cl.sizes l + 1) (TL (L ++ Cl.emits l k ++ [overT 7 (Cl.nums l k)])) R' ∧ (w.alloc o).grownBy w' (Value.slice va k vcc).ownBlock ∧ Onward (w.alloc o) (.slice va k vcc) v') := fun o => by
    refine appendKids_any w0 w1 (w.alloc o) S 7 a l n cc hn X (.slice va k vcc) L k R hkL (hw.trans ((hal o).mono z1)) (hT.below (hal o)) (fun q hq => by have := hX q hq; simp; omega) (by omega) (fun hn0 => ?_) ih
    rcases hk with h | ⟨g, e, h1, h2, h3⟩
    · rw [h] at hn; exact absurd hn hn0
    · refine ⟨g, e, fun j c hc wr _ hb => ?_⟩
      have zb := hb.size
      obtain ⟨u, hu, hcu⟩ := clsAt_iff.1 h3 j c hc
      rw [Nat.zero_add] at hu
      exact ⟨by omega, u, (hb.cell h2).trans hu, hcu⟩
  have HAL : Hid (∀ o, Below w.heap.size w (w.alloc o)) := hal
  clear hk hT hX hw ih hal hn hkL
  have a0 := as_anyOf_alone
  have a1 := as_anyOf_allOf
  have a2 := as_anyOf_anyOf
  go_enter Tryz.func42, Tryz.ntmps42
  go_wp2_with fail
  refine (HAK.out _).mono ?_
  rintro e w2 ⟨v2, R3, rfl, hT2, hg2, ho2⟩
  obtain ⟨va3, vc3, rfl⟩ := hT2.bld.form
  have HT2 : Hid (TBldX w2 w1.heap.size X (.slice va3 (k + Cl.sizes l + 1) vc3) (k + Cl.sizes l + 1) (TL (L ++ Cl.emits l k ++ [overT 7 (Cl.nums l k)])) R3) := hT2
  have HG2 : Hid (w.grownBy w2 (Value.slice va k vcc).ownBlock ∧ Onward w (.slice va k vcc) (.slice va3 (k + Cl.sizes l + 1) vc3)) := by
    refine ⟨grown_after (HAL.out _) hg2, fun q hq => ?_⟩
    rcases ho2 q hq with h | h
    · exact .inl h
    · exact .inr (by simp at h; omega)
  clear hT2 hg2 ho2
  go_wp2
  go_ret
  refine ⟨_, R3, rfl, ?_, HG2.out.1, HG2.out.2⟩
  have := HT2.out
  rw [Cl.emit, Cl.size, ← List.append_assoc]
  exact this

set_option maxRecDepth 100000 in
set_option maxHeartbeats 4000000 in
theorem appendClause_neg (w0 w1 : World) (c : Cl) (ih : EmSaid w0 w1 c) : EmSaid w0 w1 (.neg c) := by
  intro S vc w X v L k R hkL hc hw hT hX hz
  rw [ClIs] at hc
  obtain ⟨u, rfl, hc⟩ := hc
  obtain ⟨T, y, rfl⟩ := hc.form
  obtain ⟨va, vcc, rfl⟩ := hT.bld.form
  simp only [Cl.size] at hz
  have hal : ∀ o o', Below w.heap.size w ((w.alloc o).alloc o') := fun o o' => ((Below.refl _ _).alloc (Nat.le_refl _) o).alloc (by simp) o'
  have z1 := hw.size
  have HAK : Hid (∀ o t, Calls Tryz.prog 71 #[.slice va k vcc, .int .i64 8, .slice (some ⟨w.heap.size + 1, 0, none⟩) 1 1] ((w.alloc o).alloc (.cells #[.iface T y] t)) fun e w' => ∃ v' R', e = .returned v' ∧ TBldX w' w1.heap.size X v' (k + Cl.sizes [c] + 1) (TL (L ++ Cl.emits [c] k ++ [overT 8 (Cl.nums [c] k)])) R' ∧ ((w.alloc o).alloc (.cells #[.iface T y] t)).grownBy w' (Value.slice va k vcc).ownBlock ∧ Onward ((w.alloc o).alloc (.cells #[.iface T y] t)) (.slice va k vcc) v') := fun o t => by
    refine appendKids_any w0 w1 _ S 8 _ [c] 1 1 rfl X (.slice va k vcc) L k R hkL (hw.trans ((hal o _).mono z1)) (hT.below (hal o _)) (fun q hq => by have := hX q hq; simp; omega) (by simp only [Cl.sizes]; omega) (fun _ => ⟨w.heap.size + 1, rfl, fun j c' hc' wr hwr _ => ?_⟩) (fun c' hc' => by simp at hc'; subst hc'; exact ih)
    have hj : j = 0 := by
      have := (List.getElem?_eq_some_iff.1 hc').1
      simp at this
      exact this
    subst hj
    simp at hc'
    subst hc'
    rw [hwr rfl]
    exact ⟨by simp, .iface T y, by simp [go_sem], hc⟩
  have HAL : Hid (∀ o o', Below w.heap.size w ((w.alloc o).alloc o')) := hal
  clear hT hX hw ih hal hkL hc
  have a0 := as_notOf_alone
  have a1 := as_notOf_allOf
  have a2 := as_notOf_anyOf
  have a3 := as_notOf_notOf
  go_enter Tryz.func42, Tryz.ntmps42
  go_wp2_with fail
  refine (HAK.out _ _).mono ?_
  rintro e w2 ⟨v2, R3, rfl, hT2, hg2, ho2⟩
  obtain ⟨va3, vc3, rfl⟩ := hT2.bld.form
  have HT2 : Hid (TBldX w2 w1.heap.size X (.slice va3 (k + Cl.sizes [c] + 1) vc3) (k + Cl.sizes [c] + 1) (TL (L ++ Cl.emits [c] k ++ [overT 8 (Cl.nums [c] k)])) R3) := hT2
  have HG2 : Hid (w.grownBy w2 (Value.slice va k vcc).ownBlock ∧ Onward w (.slice va k vcc) (.slice va3 (k + Cl.sizes [c] + 1) vc3)) := by
    refine ⟨grown_after (HAL.out _ _) hg2, fun q hq => ?_⟩
    rcases ho2 q hq with h | h
    · exact .inl h
    · exact .inr (by simp at h; omega)
  clear hT2 hg2 ho2
  go_wp2
  go_ret
  refine ⟨_, R3, rfl, ?_, HG2.out.1, HG2.out.2⟩
  have := HT2.out
  rw [Cl.emit, Cl.size, ← List.append_assoc]
  simpa [Cl.sizes, Cl.emits, Cl.nums, Nat.add_assoc] using this

theorem appendClause_any (w0 w1 : World) (h01 : Below w0.heap.size w0 w1) : ∀ (s : Nat) (c : Cl), c.size ≤ s → c.ok → EmSaid w0 w1 c := by
  intro s
  induction s with
  | zero => intro c h; have := Cl.size_one c; omega
  | succ s ih =>
    intro c hs hok
    cases c with
    | leaf x => rw [Cl.ok] at hok; exact appendClause_leaf w0 w1 h01 x hok
    | all l =>
      simp only [Cl.size] at hs
      rw [Cl.ok, Cl.oks_iff] at hok
      exact appendClause_all w0 w1 l fun c hc => by
        have := Cl.size_in hc
        exact ih c (by omega) (hok c hc)
    | any l =>
      simp only [Cl.size] at hs
      rw [Cl.ok, Cl.oks_iff] at hok
      exact appendClause_any' w0 w1 l fun c hc => by
        have := Cl.size_in hc
        exact ih c (by omega) (hok c hc)
    | neg c =>
      simp only [Cl.size] at hs
      rw [Cl.ok] at hok
      exact appendClause_neg w0 w1 c (ih c (by omega) hok)

end Go.Proofs.YtjohocnfcnjciaaGreatDoor
