/- A term put above others; what a function answers that makes a filter. Rows of terms while they are built, kept away from some blocks. One term without kids put behind others: the program's appendTerms at a row of one. A plain filter: clauses turned, and told as terms again. A plain filter: good clauses stay good, and are not too many. The program's appendKids and appendClause: a clause told as terms. The program's appendClause. A filter made plain: the program's PlainFilter. -/
import Derived.Test.YtjohocnfcnjciaaGreatDoorFilA
import Derived.Test.YtjohocnfcnjciaaGreatDoorFilI
import Derived.Test.YtjohocnfcnjciaaGreatDoorClQ
namespace Go.Proofs.YtjohocnfcnjciaaGreatDoor
open Go.RowKit
set_option linter.unusedVariables false

/-- A term above others. -/
def aboveT (kind : Int) (m : Nat) (K : Nat → Int) : Tm := ⟨kind, ⟨#[]⟩, 0, fun _ => zeroNd, m, K⟩
theorem shiftT_zero (x : Tm) : shiftT 0 x = x := by
  obtain ⟨a, b, c, d, e, f⟩ := x
  simp [shiftT]
theorem catF_nil (F G : Nat → Tm) : catF F 0 G = G := by
  funext i
  have h := shiftT_zero (G i)
  simpa [catF] using h

set_option maxRecDepth 100000 in
set_option maxHeartbeats 2000000 in
theorem appendAbove_any (B : Nat) (w w1 : World) (v : Value) (k : Nat) (F : Nat → Tm) (kind : Int) (a : Option Addr) (c m gk : Nat) (K : Nat → Int) (hT : TBld w B v k F) (hB : B ≤ w.heap.size) (hk : k ≤ 2 ^ 22) (hb : Below w.heap.size w w1) (hm : m ≤ c) (hK : OwnK w1 gk (.slice a m c) m K) (hg : m ≠ 0 → w.heap.size ≤ gk ∧ gk < w1.heap.size) :
    Calls Tryz.prog 91 #[v, .int .i64 kind, .slice a m c] w1 fun e w' => ∃ v', e = .returned v' ∧ TBld w' B v' (k + 1) (fun i => if i = k then aboveT kind m K else F i) ∧ Below B w1 w' := by
  obtain ⟨va, vc, rfl⟩ := hT.form
  obtain ⟨iT, hi, hz0, hz1, hz2⟩ := info_parts infoTerm
  obtain ⟨R, hR⟩ := hT.rows
  have HR : Hid (TBldR w B (.slice va k vc) k F R) := hR
  have HRW : Hid (w1.ownsRow B 90 4 (.slice va k vc) k (termL R k)) := row_keep hR.row hb
  have HTN := tc_news w1 ⟨kind, ⟨#[]⟩, none, 0, 0, a, m, c⟩ 90
  have HTO : Hid (TermOwn w1 w.heap.size w1.heap.size ⟨kind, ⟨#[]⟩, none, 0, 0, a, m, c⟩ (aboveT kind m K)) := ⟨rfl, rfl, Nat.zero_le _, hm, gk + 1, gk, fun h => absurd rfl h, hg, fun h => absurd rfl h, ⟨none, 0, 0, rfl, Nat.zero_le _, .inl rfl⟩, hK⟩
  have HIT : Hid (Tryz.prog.info? 90 = some iT ∧ iT.zero = some (.agg #[.int .i64 0, .string ⟨#[]⟩, .slice none 0 0, .slice none 0 0]) ∧ iT.size = 4 ∧ iT.bytes = 72) := ⟨hi, hz0, hz1, hz2⟩
  have HB : Hid (Below w.heap.size w w1) := hb
  have z1 := hb.size
  clear hi hz0 hz1 hz2 hT hR hK hg hb
  go_enter Tryz.func91, Tryz.ntmps91
  go_wp2_with (first | (at_builtin; refine wpList_append_lies _ rfl _ _ 32 rfl B 90 iT _ 4 72 Tryz.underlying32 HIT.out.1 HIT.out.2.1 HIT.out.2.2.1 HIT.out.2.2.2 rfl (by decide) _ _ _ rfl (HRW.out.alloc _) ⟨w1.heap.size, 0, none⟩ 1 1 (tcC ⟨kind, ⟨#[]⟩, none, 0, 0, a, m, c⟩) rfl rfl HTN (tc_ones _) (by decide) ?c3 ?c4 ?c5 (w1.heap.size + 1) ?c6 ?_))
  case c3 => unfold maxLen; omega
  case c4 => omega
  case c5 => omega
  intro g cap w3 hown3 hg3 hat3 hlt3
  have hal2 : Below w.heap.size w (w1.alloc (.cells #[.int .i64 kind, .string ⟨#[]⟩, .slice none 0 0, .slice a m c] 90)) := HB.out.trans ((Below.refl _ _).alloc HB.out.size _)
  have hrow := HRW.out
  have HT3 : Hid (TBld w3 B (.slice (some ⟨g, 0, none⟩) (k + 1) cap) (k + 1) (fun i => if i = k then aboveT kind m K else F i)) := TBld.next (u := .slice (some ⟨g, 0, none⟩) (k + 1) cap) HR.out hB hal2 ((HTO.out.below ((Below.refl _ _).alloc (Nat.le_refl _) _)).wide (Nat.le_refl _) (by simp)) hg3 (by simp; rcases hat3 with h | h; exact .inl h; exact .inr (by omega)) rfl hown3
  have HB3 : Hid (Below B w1 w3) := ((Below.refl B w1).alloc (by omega) _).grown hg3 (by simp; omega) (fun b hb => (hrow.lt b hb).1)
  clear hown3 hg3 hat3 hal2 hrow HTN HRW HR HTO HB
  go_wp2
  go_ret
  exact ⟨_, rfl, HT3.out, HB3.out⟩

/-- WHAT A FUNCTION ANSWERS THAT MAKES A FILTER. -/
def FlIs (G : Nat → Tm) (u : Nat) (q : Bool) (w : World) (e : Ending) (w' : World) : Prop := ∃ a c b P Q, e = .returned (.tuple #[.agg #[.slice a u c], .bool q]) ∧ (u ≠ 0 → w.heap.size ≤ b ∧ b < w'.heap.size) ∧ (∀ i, i < u → w.heap.size ≤ P i) ∧ FOwn w' b a u G P Q ∧ Below w.heap.size w w'
theorem FlIs.no (G : Nat → Tm) {w w' : World} (h : Below w.heap.size w w') : FlIs G 0 false w (.returned (.tuple #[.agg #[.slice none 0 0], .bool false])) w' :=
  ⟨none, 0, 0, fun _ => 0, fun _ => 0, rfl, fun h => absurd rfl h, fun i hi => by omega, ⟨by decide, .inl rfl, fun i hi => by omega, fun i j _ hj => by omega⟩, h⟩

set_option maxRecDepth 100000 in
set_option maxHeartbeats 2000000 in
theorem filterOf_any (B : Nat) (v : Value) (u : Nat) (G : Nat → Tm) (w : World) (hT : TBld w B v u G) (hu : u ≤ 20) :
    Calls Tryz.prog 41 #[v] w fun e w' => (∃ a c, v = .slice a u c ∧ e = .returned (.tuple #[.agg #[.slice a u c], .bool true])) ∧ Below w.heap.size w w' := by
  obtain ⟨va, vc, rfl⟩ := hT.form
  clear hT
  go_enter Tryz.func41, Tryz.ntmps41
  go_wp2
  exact bodyPost_ret (v := .tuple #[.agg #[.slice va u vc], .bool true]) (by simp [results, Tryz.results41, go_sem]) rfl ⟨⟨va, vc, rfl, rfl⟩, (Below.refl _ _).alloc (Nat.le_refl _) _⟩

set_option maxRecDepth 100000 in
set_option maxHeartbeats 2000000 in
theorem filterOf_no (va : Option Addr) (u vc : Nat) (w : World) (hu : 20 < u) (hu2 : u ≤ 2 ^ 23) :
    Calls Tryz.prog 41 #[.slice va u vc] w fun e w' => e = .returned (.tuple #[.agg #[.slice none 0 0], .bool false]) ∧ Below w.heap.size w w' := by
  go_enter Tryz.func41, Tryz.ntmps41
  go_wp2
  exact bodyPost_ret (v := .tuple #[.agg #[.slice none 0 0], .bool false]) (by simp [results, Tryz.results41, go_sem]) rfl ⟨rfl, (Below.refl _ _).alloc (Nat.le_refl _) _⟩

theorem own_one (w : World) (x : Int) (T : TypeId) : OwnK (w.alloc (.cells #[.int .i64 x] T)) w.heap.size (.slice (some ⟨w.heap.size, 0, none⟩) 1 1) 1 (fun _ => x) := by
  refine ⟨_, 1, rfl, by decide, .inr ⟨rfl, by simp, fun i hi => ⟨?_, World.frozen?_alloc_new _ _ _ _⟩⟩⟩
  obtain rfl : i = 0 := by omega
  simp [World.cell?_alloc_new]

theorem kids_small {F : Nat → Tm} {t : Nat} (h : GoodF F t) : ∀ i, i < t → ∀ j, j < (F i).m → 0 ≤ (F i).K j ∧ (F i).K j ≤ 2 ^ 20 := fun i hi j hj => by
  have h1 := ((h.2.1 i hi).2 j hj).1
  have := h.1.2
  omega

end Go.Proofs.YtjohocnfcnjciaaGreatDoor
namespace Go.Proofs.YtjohocnfcnjciaaGreatDoor
open Go.RowKit
set_option linter.unusedVariables false

theorem grown_after {w w1 w3 : World} {o : Option Nat} (hb : Below w.heap.size w w1) (hg : w1.grownBy w3 o) : w.grownBy w3 o := by
  have z := hb.size
  have z2 := hg.size
  exact ⟨hg.os.trans hb.os, hg.tape.trans hb.tape, hg.output.trans hb.output, by omega, fun b hlt hne => (hg.block b (by omega) hne).trans (hb.block b hlt)⟩
theorem grown_chain {w w1 w3 : World} {o o' : Option Nat} (hg1 : w.grownBy w1 o) (ho : ∀ g, o' = some g → o = some g ∨ w.heap.size ≤ g) (hg : w1.grownBy w3 o') : w.grownBy w3 o := by
  have z := hg1.size
  have z2 := hg.size
  refine ⟨hg.os.trans hg1.os, hg.tape.trans hg1.tape, hg.output.trans hg1.output, by omega, fun b hlt hne => (hg.block b (by omega) ?_).trans (hg1.block b hlt hne)⟩
  intro e
  rcases ho b e.symm with h | h
  · exact hne h.symm
  · omega
/-- v' is a row that goes on where v was, or lies in a new block. -/
def Onward (w : World) (v v' : Value) : Prop := ∀ g, v'.ownBlock = some g → v.ownBlock = some g ∨ w.heap.size ≤ g

/-- A row of k terms F, of its own from B on, none of its blocks in X. -/
def TBldX (w : World) (B : Nat) (X : Nat → Prop) (v : Value) (k : Nat) (F : Nat → Tm) (R : Nat → Tc) : Prop := ∃ (P Q : Nat → Nat), w.ownsRow B 90 4 v k (termL R k) ∧ (∀ i, i < k → TermOwn w (P i) (Q i) (R i) (F i)) ∧
  (∀ i, i < k → B ≤ P i ∧ Q i ≤ w.heap.size ∧ ∀ g, v.ownBlock = some g → g < P i ∨ Q i ≤ g) ∧ (∀ i j, i < j → j < k → Q i ≤ P j ∨ Q j ≤ P i) ∧ (∀ g, v.ownBlock = some g → ¬ X g) ∧ ∀ i, i < k → ∀ g, X g → g < P i ∨ Q i ≤ g
theorem TBldX.row {w : World} {B : Nat} {X : Nat → Prop} {v : Value} {k : Nat} {F : Nat → Tm} {R : Nat → Tc} (h : TBldX w B X v k F R) : w.ownsRow B 90 4 v k (termL R k) := by
  obtain ⟨P, Q, h1, _⟩ := h
  exact h1
theorem TBldX.bld {w : World} {B : Nat} {X : Nat → Prop} {v : Value} {k : Nat} {F : Nat → Tm} {R : Nat → Tc} (h : TBldX w B X v k F R) : TBld w B v k F := by
  obtain ⟨P, Q, h1, h2, h3, h4, _⟩ := h
  exact ⟨R, P, Q, h1, h2, h3, h4⟩
theorem TBldX.nil (w : World) (B : Nat) (X : Nat → Prop) (F : Nat → Tm) : TBldX w B X (.slice none 0 0) 0 F (fun _ => zeroTc) := ⟨fun _ => 0, fun _ => 0, World.ownsRow_nil _ _ _ _, fun i h => by omega, fun i h => by omega, fun i j _ h => by omega, fun g h => by simp [Value.ownBlock] at h, fun i h => by omega⟩
theorem TBldX.away {w : World} {B : Nat} {X : Nat → Prop} {v : Value} {k : Nat} {F : Nat → Tm} {R : Nat → Tc} (h : TBldX w B X v k F R) : ∀ g, v.ownBlock = some g → ¬ X g := by
  obtain ⟨P, Q, h1, h2, h3, h4, h5, h6⟩ := h
  exact h5
theorem TBldX.old {w : World} {B : Nat} {X : Nat → Prop} {v : Value} {k : Nat} {F : Nat → Tm} {R : Nat → Tc} (h : TBldX w B X v k F R) : ∀ q, v.ownBlock = some q → B ≤ q ∧ q < w.heap.size := fun q hq => by
  rcases row_open h.row with ⟨rfl, _⟩ | ⟨g', cap', rfl, g1, g2, _⟩
  · simp [Value.ownBlock] at hq
  · simp [Value.ownBlock] at hq; omega
theorem TBldX.below {w w' : World} {B : Nat} {X : Nat → Prop} {v : Value} {k : Nat} {F : Nat → Tm} {R : Nat → Tc} (h : TBldX w B X v k F R) (hb : Below w.heap.size w w') : TBldX w' B X v k F R := by
  obtain ⟨P, Q, h1, h2, h3, h4, h5, h6⟩ := h
  exact ⟨P, Q, row_keep h1 hb, fun i hi => (h2 i hi).below hb, fun i hi => ⟨(h3 i hi).1, Nat.le_trans (h3 i hi).2.1 hb.size, (h3 i hi).2.2⟩, h4, h5, h6⟩
/-- Blocks that are not there yet are away. -/
theorem TBldX.more {w : World} {B : Nat} {X Y : Nat → Prop} {v : Value} {k : Nat} {F : Nat → Tm} {R : Nat → Tc} (h : TBldX w B X v k F R) (hY : ∀ g, Y g → X g ∨ w.heap.size ≤ g) : TBldX w B Y v k F R := by
  have hold := h.old
  obtain ⟨P, Q, h1, h2, h3, h4, h5, h6⟩ := h
  refine ⟨P, Q, h1, h2, h3, h4, fun g hg hy => ?_, fun i hi g hy => ?_⟩
  · rcases hY g hy with h | h
    · exact h5 g hg h
    · have := hold g hg; omega
  · rcases hY g hy with h | h
    · exact h6 i hi g h
    · have := h3 i hi; omega
theorem row_far {w w' : World} {B : Nat} {e : TypeId} {z : Nat} {v : Value} {n : Nat} {xs : List Value} {o : Option Nat} (h : w.ownsRow B e z v n xs) (hg : w.grownBy w' o) (hne : ∀ g, o = some g → v.ownBlock ≠ some g) : w'.ownsRow B e z v n xs := by
  refine ⟨h.1, ?_⟩
  rcases h.2 with hn | ⟨g, cap, cur, rfl, hB, hgg, rest⟩
  · exact .inl hn
  · refine .inr ⟨g, cap, cur, rfl, hB, (hg.block g (Array.getElem?_eq_some_iff.1 hgg).1 (fun e => ?_)).trans hgg, rest⟩
    exact hne g e.symm rfl
/-- What is written into blocks of X, or is new, leaves them. -/
theorem TBldX.far {w w' : World} {B : Nat} {X : Nat → Prop} {v : Value} {k : Nat} {F : Nat → Tm} {R : Nat → Tc} {o : Option Nat} (h : TBldX w B X v k F R) (hg : w.grownBy w' o) (ho : ∀ g, o = some g → X g) : TBldX w' B X v k F R := by
  obtain ⟨P, Q, h1, h2, h3, h4, h5, h6⟩ := h
  exact ⟨P, Q, row_far h1 hg (fun g hg hv => h5 g hv (ho g hg)), fun i hi => grown_term (h2 i hi) hg (fun g e => h6 i hi g (ho g e)), fun i hi => ⟨(h3 i hi).1, Nat.le_trans (h3 i hi).2.1 hg.size, (h3 i hi).2.2⟩, h4, h5, h6⟩
/-- A term of its own is put to the row: in new blocks, or in one of X. -/
theorem TBldX.next {w w1 w3 : World} {B lo hi : Nat} {X Y : Nat → Prop} {v : Value} {k g cap : Nat} {F : Nat → Tm} {R : Nat → Tc} {x : Tc} {y : Tm} {u : Value} (h : TBldX w B X v k F R) (hB : B ≤ lo) (hb : Below w.heap.size w w1) (hy : TermOwn w1 lo hi x y) (hhi : hi ≤ w1.heap.size)
    (hap : w.heap.size ≤ lo ∨ (hi = lo + 1 ∧ X lo)) (hYX : ∀ q, Y q → X q ∧ (q < lo ∨ hi ≤ q)) (hXw : ∀ q, X q → q < w.heap.size)
    (hg : w1.grownBy w3 v.ownBlock) (hat : v.ownBlock = some g ∨ w1.heap.size ≤ g) (hu : u = .slice (some ⟨g, 0, none⟩) (k + 1) cap)
    (hown : w3.ownsRow B 90 4 u (k + 1) (termL R k ++ tcC x)) :
    TBldX w3 B Y u (k + 1) (fun i => if i = k then y else F i) (fun i => if i = k then x else R i) := by
  have hold := h.old
  obtain ⟨P, Q, h1, h2, h3, h4, h5, h6⟩ := h
  have z1 := hb.size
  have z2 := hg.size
  have hvin : ∀ q, v.ownBlock = some q → q < lo ∨ hi ≤ q := fun q hq => by
    have := hold q hq
    rcases hap with h | ⟨h, hx⟩
    · omega
    · by_cases e : q = lo
      · subst e; exact absurd hx (h5 q hq)
      · omega
  have hapart : ∀ i, i < k → hi ≤ P i ∨ Q i ≤ lo := fun i hi' => by
    have h0 := (h3 i hi').2.1
    rcases hap with h | ⟨h, hx⟩
    · omega
    · have := h6 i hi' lo hx; omega
  have hub : u.ownBlock = some g := by rw [hu]; rfl
  refine ⟨fun i => if i = k then lo else P i, fun i => if i = k then hi else Q i, ?_, fun i hi' => ?_, fun i hi' => ?_, fun i j hij hj => ?_, fun q hq hy' => ?_, fun i hi' q hq => ?_⟩
  · have e : termL (fun i => if i = k then x else R i) (k + 1) = termL R k ++ tcC x := by
      unfold termL
      rw [rowL]
      simp only [if_true]
      rw [rowL_same k (g := fun i => tcC (R i)) (fun i hi => by simp only [if_neg (show ¬ i = k by omega)])]
    rw [e]
    exact hown
  · by_cases e : i = k
    · subst e
      simp only [if_true]
      exact grown_term hy hg hvin
    · simp only [if_neg e]
      exact grown_term ((h2 i (by omega)).below hb) hg (h3 i (by omega)).2.2
  · rw [hub]
    by_cases e : i = k
    · subst e
      simp only [if_true]
      refine ⟨hB, by omega, fun q hq => ?_⟩
      injection hq with hq
      subst hq
      rcases hat with h | h
      · exact hvin _ h
      · exact .inr (by omega)
    · simp only [if_neg e]
      obtain ⟨p1, p2, p3⟩ := h3 i (by omega)
      refine ⟨p1, by omega, fun q hq => ?_⟩
      injection hq with hq
      subst hq
      rcases hat with h | h
      · exact p3 _ h
      · omega
  · have e : i ≠ k := by omega
    simp only [if_neg e]
    by_cases e2 : j = k
    · simp only [if_pos e2]
      have := hapart i (by omega)
      omega
    · simp only [if_neg e2]
      exact h4 i j hij (by omega)
  · rw [hub] at hq
    injection hq with hq
    subst hq
    have := hYX _ hy'
    rcases hat with h | h
    · exact h5 _ h this.1
    · have := hXw _ this.1; omega
  · have hx := hYX q hq
    by_cases e : i = k
    · subst e
      simp only [if_true]
      exact hx.2
    · simp only [if_neg e]
      exact h6 i (by omega) q hx.1

end Go.Proofs.YtjohocnfcnjciaaGreatDoor
namespace Go.Proofs.YtjohocnfcnjciaaGreatDoor
open Go.RowKit
set_option linter.unusedVariables false

set_option maxRecDepth 100000 in
set_option maxHeartbeats 4000000 in
theorem appendTerms_one (B : Nat) (w w1 : World) (v : Value) (k : Nat) (F : Nat → Tm) (b : Nat) (kd : Int) (p : ByteArray) (va' : Option Addr) (n vc' : Nat) (N : Nat → Nd) (ka : Option Addr) (kc : Nat) (X : Nat → Prop) (R : Nat → Tc) (hT : TBldX w B X v k F R) (hX : ∀ q, X q → q < w.heap.size) (hB : B ≤ w.heap.size) (hk : k ≤ 2 ^ 22) (hb : Below w.heap.size w w1) (hbl : b < w1.heap.size)
    (a0 : w1.cell? ⟨b, 0, none⟩ = some (.int .i64 kd)) (a1 : w1.cell? ⟨b, 1, none⟩ = some (.string p)) (a2 : w1.cell? ⟨b, 2, none⟩ = some (.slice va' n vc')) (a3 : w1.cell? ⟨b, 3, none⟩ = some (.slice ka 0 kc)) (hn : ArgIs w1 va' n N) (hn20 : n ≤ 2 ^ 20) :
    Calls Tryz.prog 70 #[v, .slice (some ⟨b, 0, none⟩) 1 1] w1 fun e w' => ∃ v' R', e = .returned v' ∧ TBldX w' B X v' (k + 1) (fun i => if i = k then ⟨kd, p, n, N, 0, fun _ => 0⟩ else F i) R' ∧ w1.grownBy w' v.ownBlock ∧ Onward w1 v v' := by
  obtain ⟨va, vc, rfl⟩ := hT.bld.form
  have HT : Hid (TBldX w B X (.slice va k vc) k F R) := hT
  have HX : Hid (∀ q, X q → q < w.heap.size) := hX
  have HB : Hid (Below w.heap.size w w1) := hb
  have HV : Hid (ArgIs w1 va' n N) := hn
  have zB := hb.size
  clear hT hb hn hX
  obtain ⟨iT, hi, hz0, hz1, hz2⟩ := info_parts infoTerm
  have HIT : Hid (Tryz.prog.info? 90 = some iT ∧ iT.zero = some (.agg #[.int .i64 0, .string ⟨#[]⟩, .slice none 0 0, .slice none 0 0]) ∧ iT.size = 4 ∧ iT.bytes = 72) := ⟨hi, hz0, hz1, hz2⟩
  clear hi hz0 hz1 hz2
  go_enter Tryz.func70, Tryz.ntmps70
  go_wp2_with fail
  go_loopw [0, 16] (fun v i wr => (v = .slice va k vc ∧ i = .int .i64 0 ∧ wr = w1) ∨ ∃ (va2 : Option Addr) (vc2 : Nat), v = .slice va2 (k + 1) vc2 ∧ i = .int .i64 1 ∧ (w1.grownBy wr (Value.slice va k vc).ownBlock ∧ Onward w1 (.slice va k vc) (.slice va2 (k + 1) vc2)) ∧ Hid (∃ R', TBldX wr B X (.slice va2 (k + 1) vc2) (k + 1) (fun i => if i = k then ⟨kd, p, n, N, 0, fun _ => 0⟩ else F i) R')) (fun _ i _ => 1 - (intOf i).toNat)
  case atStart => exact .inl ⟨rfl, rfl, rfl⟩
  case round =>
    rcases hrel with ⟨rfl, rfl, rfl⟩ | ⟨va2, vc2, rfl, rfl, hnx, HT2⟩
    · rename World => x0
      go_wp2_with fail
      obtain ⟨X1, hX1⟩ : ∃ X1, X1 = x0.alloc (.cells #[.int .i64 kd, .string p, .slice va' n vc', .slice ka 0 kc] 90) := ⟨_, rfl⟩
      have zX : x0.heap.size < X1.heap.size := by rw [hX1]; simp
      have bX : Below x0.heap.size x0 X1 := by rw [hX1]; exact (Below.refl _ _).alloc (Nat.le_refl _) _
      have t0 : X1.cell? ⟨x0.heap.size, 0, none⟩ = some (.int .i64 kd) := by rw [hX1]; simp [World.cell?_alloc_new]
      have t1 : X1.cell? ⟨x0.heap.size, 1, none⟩ = some (.string p) := by rw [hX1]; simp [World.cell?_alloc_new]
      have t2 : X1.cell? ⟨x0.heap.size, 2, none⟩ = some (.slice va' n vc') := by rw [hX1]; simp [World.cell?_alloc_new]
      have t3 : X1.cell? ⟨x0.heap.size, 3, none⟩ = some (.slice ka 0 kc) := by rw [hX1]; simp [World.cell?_alloc_new]
      rw [← hX1]
      clear hX1 a0 a1 a2 a3
      go_loopw [8, 23] (fun kv i wr => kv = .slice none 0 0 ∧ i = .int .i64 0 ∧ wr = X1) (fun _ _ _ => 0)
      case atStart => exact ⟨rfl, rfl, rfl⟩
      case round =>
        obtain ⟨rfl, rfl, rfl⟩ := hrel
        rename World => X1
        have HAN : Hid (ArgIs X1 va' n N) := HV.out.below bX
        go_wp2_with (first | (at_builtin; refine wpList_append_nodes rfl _ _ rfl X1.heap.size (.slice none 0 0) rfl (World.ownsRow_nil _ _ _ _) va' n vc' N rfl HAN.out (by omega) (Nat.le_refl _) ?_))
        intro v2 w2 hown2 hg2
        have z3 := hg2.size
        have n30 : n ≤ 2 ^ 30 := by omega
        obtain ⟨av, cv, gv, rfl, hcv, hgv, hov⟩ := own_nodeL hown2 n30
        have r0 : w2.cell? ⟨x0.heap.size, 0, none⟩ = some (.int .i64 kd) := (hg2.cell_far _ (by show x0.heap.size < _; omega) (by simp [Value.ownBlock])).trans t0
        have r1 : w2.cell? ⟨x0.heap.size, 1, none⟩ = some (.string p) := (hg2.cell_far _ (by show x0.heap.size < _; omega) (by simp [Value.ownBlock])).trans t1
        have bw2 : Below X1.heap.size X1 w2 := (Below.refl _ _).grown hg2 (Nat.le_refl _) (fun k hk => by simp [Value.ownBlock] at hk)
        have HBx : Hid (Below x0.heap.size x0 w2) := bX.trans (bw2.mono (by omega))
        have HB2 : Hid (Below w.heap.size w w2) := HB.out.trans (HBx.out.mono zB)
        have HTO : Hid (TermOwn w2 w.heap.size w2.heap.size ⟨kd, p, av, n, cv, none, 0, 0⟩ ⟨kd, p, n, N, 0, fun _ => 0⟩) :=
          ⟨rfl, rfl, hcv, Nat.le_refl _, gv, gv + 1, fun h => ⟨by have := hgv h; omega, by have := hgv h; omega⟩, fun h => absurd rfl h, fun _ h => absurd rfl h, hov, none, 0, rfl, Nat.zero_le _, .inl rfl⟩
        clear hown2 hg2 hov bw2 t0 t1 t2 t3 HAN hgv
        have hR := HT.out
        have HR : Hid (TBldX w B X (.slice va k vc) k F R) := hR
        have HRW : Hid (w2.ownsRow B 90 4 (.slice va k vc) k (termL R k)) := row_keep hR.row HB2.out
        have HTN := tc_news w2 ⟨kd, p, av, n, cv, none, 0, 0⟩ 90
        clear hR
        go_wp2_with (first | (at_builtin; refine wpList_append_lies _ rfl _ _ 32 rfl B 90 iT _ 4 72 Tryz.underlying32 HIT.out.1 HIT.out.2.1 HIT.out.2.2.1 HIT.out.2.2.2 rfl (by decide) _ _ _ rfl (HRW.out.alloc _) ⟨w2.heap.size, 0, none⟩ 1 1 (tcC ⟨kd, p, av, n, cv, none, 0, 0⟩) rfl rfl HTN (tc_ones _) (by decide) ?c3 ?c4 ?c5 (w2.heap.size + 1) ?c6 ?_))
        case c3 => unfold maxLen; omega
        case c4 => omega
        case c5 => omega
        intro g cap w3 hown3 hg3 hat3 hlt3
        have hal2 : Below w.heap.size w (w2.alloc (.cells #[.int .i64 kd, .string p, .slice av n cv, .slice none 0 0] 90)) := HB2.out.trans ((Below.refl _ _).alloc HB2.out.size _)
        have hrow := HRW.out
        have HT3 : Hid (∃ R', TBldX w3 B X (.slice (some ⟨g, 0, none⟩) (k + 1) cap) (k + 1) (fun i => if i = k then ⟨kd, p, n, N, 0, fun _ => 0⟩ else F i) R') := ⟨_, TBldX.next (lo := w.heap.size) (hi := w2.heap.size) (u := .slice (some ⟨g, 0, none⟩) (k + 1) cap) HR.out hB hal2 (HTO.out.below ((Below.refl _ _).alloc (Nat.le_refl _) _)) (by simp) (.inl (Nat.le_refl _)) (fun q hq => ⟨hq, .inl (HX.out q hq)⟩) HX.out hg3 (by simp; rcases hat3 with h | h; exact .inl h; exact .inr (by omega)) rfl hown3⟩
        have HB3 : Hid (x0.grownBy w3 (Value.slice va k vc).ownBlock ∧ Onward x0 (.slice va k vc) (.slice (some ⟨g, 0, none⟩) (k + 1) cap)) := by
          refine ⟨grown_after (HBx.out.trans ((Below.refl _ _).alloc HBx.out.size _)) hg3, fun q hq => ?_⟩
          have hq' : q = g := by simp [Value.ownBlock] at hq; exact hq.symm
          subst hq'
          rcases hat3 with h | h
          · exact .inl h
          · exact .inr (by have := HBx.out.size; omega)
        clear hown3 hg3 hat3 hal2 hrow HTN HRW HR HTO HB2 HBx r0 r1
        go_wp2
        go_roundw
        case rel => exact .inr ⟨_, cap, rfl, rfl, HB3.out, HT3⟩
        case measure => simp [intOf]
    · go_wp2
      go_ret
      obtain ⟨R', hR'⟩ := HT2.out
      exact ⟨_, R', rfl, hR', hnx.1, hnx.2⟩

set_option maxRecDepth 100000 in
set_option maxHeartbeats 2000000 in
theorem appendAbove_fr (B : Nat) (w : World) (X Y : Nat → Prop) (v : Value) (k : Nat) (F : Nat → Tm) (R : Nat → Tc) (kind : Int) (a : Option Addr) (c m gk : Nat) (K : Nat → Int) (hT : TBldX w B X v k F R) (hX : ∀ q, X q → q < w.heap.size) (hB : B ≤ w.heap.size) (hk : k ≤ 2 ^ 22) (hm : m ≤ c) (hK : OwnK w gk (.slice a m c) m K) (hg : m ≠ 0 → B ≤ gk ∧ X gk) (hY : ∀ q, Y q → X q ∧ (m ≠ 0 → q ≠ gk)) :
    Calls Tryz.prog 91 #[v, .int .i64 kind, .slice a m c] w fun e w' => ∃ v' R', e = .returned v' ∧ TBldX w' B Y v' (k + 1) (fun i => if i = k then aboveT kind m K else F i) R' ∧ w.grownBy w' v.ownBlock ∧ Onward w v v' := by
  obtain ⟨va, vc, rfl⟩ := hT.bld.form
  obtain ⟨iT, hi, hz0, hz1, hz2⟩ := info_parts infoTerm
  obtain ⟨lo, hl⟩ : ∃ lo, lo = if m = 0 then w.heap.size else gk := ⟨_, rfl⟩
  obtain ⟨hh, hhl⟩ : ∃ hh, hh = if m = 0 then w.heap.size else gk + 1 := ⟨_, rfl⟩
  have HR : Hid (TBldX w B X (.slice va k vc) k F R) := hT
  have HX : Hid (∀ q, X q → q < w.heap.size) := hX
  have HL : Hid (B ≤ lo ∧ hh ≤ w.heap.size ∧ (w.heap.size ≤ lo ∨ (hh = lo + 1 ∧ X lo)) ∧ ∀ q, Y q → X q ∧ (q < lo ∨ hh ≤ q)) := by
    by_cases e : m = 0
    · rw [if_pos e] at hl hhl
      subst hl hhl
      exact ⟨hB, Nat.le_refl _, .inl (Nat.le_refl _), fun q hq => ⟨(hY q hq).1, .inl (hX q (hY q hq).1)⟩⟩
    · rw [if_neg e] at hl hhl
      subst hl hhl
      have h1 := hg e
      have h2 := hX _ h1.2
      exact ⟨h1.1, by omega, .inr ⟨rfl, h1.2⟩, fun q hq => ⟨(hY q hq).1, by have := (hY q hq).2 e; omega⟩⟩
  have HTO : Hid (TermOwn w lo hh ⟨kind, ⟨#[]⟩, none, 0, 0, a, m, c⟩ (aboveT kind m K)) := ⟨rfl, rfl, Nat.zero_le _, hm, gk + 1, gk, fun h => absurd rfl h, fun h => by
    have e : m ≠ 0 := h
    rw [if_neg e] at hl hhl
    omega, fun h => absurd rfl h, ⟨none, 0, 0, rfl, Nat.zero_le _, .inl rfl⟩, hK⟩
  have HRW : Hid (w.ownsRow B 90 4 (.slice va k vc) k (termL R k)) := hT.row
  have HTN := tc_news w ⟨kind, ⟨#[]⟩, none, 0, 0, a, m, c⟩ 90
  have HIT : Hid (Tryz.prog.info? 90 = some iT ∧ iT.zero = some (.agg #[.int .i64 0, .string ⟨#[]⟩, .slice none 0 0, .slice none 0 0]) ∧ iT.size = 4 ∧ iT.bytes = 72) := ⟨hi, hz0, hz1, hz2⟩
  clear hi hz0 hz1 hz2 hT hK hg hY hX hl hhl
  go_enter Tryz.func91, Tryz.ntmps91
  go_wp2_with (first | (at_builtin; refine wpList_append_lies _ rfl _ _ 32 rfl B 90 iT _ 4 72 Tryz.underlying32 HIT.out.1 HIT.out.2.1 HIT.out.2.2.1 HIT.out.2.2.2 rfl (by decide) _ _ _ rfl (HRW.out.alloc _) ⟨w.heap.size, 0, none⟩ 1 1 (tcC ⟨kind, ⟨#[]⟩, none, 0, 0, a, m, c⟩) rfl rfl HTN (tc_ones _) (by decide) ?c3 ?c4 ?c5 (w.heap.size + 1) ?c6 ?_))
  case c3 => unfold maxLen; omega
  case c4 => omega
  case c5 => omega
  intro g cap w3 hown3 hg3 hat3 hlt3
  have hal : ∀ o, Below w.heap.size w (w.alloc o) := fun o => (Below.refl _ _).alloc (Nat.le_refl _) o
  have HT3 : Hid (∃ R', TBldX w3 B Y (.slice (some ⟨g, 0, none⟩) (k + 1) cap) (k + 1) (fun i => if i = k then aboveT kind m K else F i) R') := ⟨_, TBldX.next (lo := lo) (hi := hh) (u := .slice (some ⟨g, 0, none⟩) (k + 1) cap) HR.out HL.out.1 (hal _) (HTO.out.below (hal _)) (by have := HL.out.2.1; simp; omega) HL.out.2.2.1 HL.out.2.2.2 HX.out hg3 (by simp; rcases hat3 with h | h; exact .inl h; exact .inr (by omega)) rfl hown3⟩
  have HB3 : Hid (w.grownBy w3 (Value.slice va k vc).ownBlock ∧ Onward w (.slice va k vc) (.slice (some ⟨g, 0, none⟩) (k + 1) cap)) := by
    refine ⟨grown_after (hal _) hg3, fun q hq => ?_⟩
    have hq' : q = g := by simp [Value.ownBlock] at hq; exact hq.symm
    subst hq'
    rcases hat3 with h | h
    · exact .inl h
    · exact .inr (by omega)
  clear hown3 hg3 hat3 hal HTN HRW HR HTO
  go_wp2
  go_ret
  obtain ⟨R', hR'⟩ := HT3.out
  exact ⟨_, R', rfl, hR', HB3.out.1, HB3.out.2⟩

end Go.Proofs.YtjohocnfcnjciaaGreatDoor
namespace Go.Proofs.YtjohocnfcnjciaaGreatDoor
open Go.RowKit
set_option linter.unusedVariables false

/-- A term that stands alone, without kids. -/
def leafT (x : Tm) : Tm := { x with m := 0, K := fun _ => 0 }
/-- A term above those of the numbers l. -/
def overT (kind : Int) (l : List Nat) : Tm := aboveT kind l.length (fun i => ((l.getD i 0 : Nat) : Int))

/-- The numbers of kids that stand behind n terms. -/
def Cl.nums : List Cl → Nat → List Nat
  | [], _ => []
  | c :: l, n => (n + c.size - 1) :: Cl.nums l (n + c.size)

mutual
/-- Its terms, behind n others. -/
def Cl.emit : Cl → Nat → List Tm
  | .leaf x, _ => [leafT x]
  | .all l, n => Cl.emits l n ++ [overT 6 (Cl.nums l n)]
  | .any l, n => Cl.emits l n ++ [overT 7 (Cl.nums l n)]
  | .neg c, n => c.emit n ++ [overT 8 [n + c.size - 1]]
def Cl.emits : List Cl → Nat → List Tm
  | [], _ => []
  | c :: l, n => c.emit n ++ Cl.emits l (n + c.size)
end

mutual
theorem Cl.size_pos : ∀ c : Cl, 0 < c.size
  | .leaf _ => by simp [Cl.size]
  | .all l => by simp [Cl.size]
  | .any l => by simp [Cl.size]
  | .neg c => by simp [Cl.size]
theorem Cl.emit_len : ∀ (c : Cl) (n : Nat), (c.emit n).length = c.size
  | .leaf _, n => by simp [Cl.emit, Cl.size]
  | .all l, n => by simp [Cl.emit, Cl.size, Cl.emits_len l n]
  | .any l, n => by simp [Cl.emit, Cl.size, Cl.emits_len l n]
  | .neg c, n => by simp [Cl.emit, Cl.size, Cl.emit_len c n]
theorem Cl.emits_len : ∀ (l : List Cl) (n : Nat), (Cl.emits l n).length = Cl.sizes l
  | [], n => by simp [Cl.emits, Cl.sizes]
  | c :: l, n => by simp [Cl.emits, Cl.sizes, Cl.emit_len c n, Cl.emits_len l (n + c.size)]
end
theorem Cl.nums_len : ∀ (l : List Cl) (n : Nat), (Cl.nums l n).length = l.length
  | [], n => rfl
  | c :: l, n => by simp [Cl.nums, Cl.nums_len l (n + c.size)]
/-- Kids' numbers lie behind n, within what the kids are told by, and rise. -/
theorem Cl.nums_in : ∀ (l : List Cl) (n x : Nat), x ∈ Cl.nums l n → n ≤ x ∧ x < n + Cl.sizes l
  | [], n, x, h => by simp [Cl.nums] at h
  | c :: l, n, x, h => by
    have hp := Cl.size_pos c
    simp only [Cl.nums, List.mem_cons] at h
    rcases h with rfl | h
    · simp only [Cl.sizes]; omega
    · have := Cl.nums_in l (n + c.size) x h
      simp only [Cl.sizes]
      omega
theorem Cl.nums_rise : ∀ (l : List Cl) (n : Nat), (Cl.nums l n).Pairwise (· < ·)
  | [], n => by simp [Cl.nums]
  | c :: l, n => by
    have hp := Cl.size_pos c
    simp only [Cl.nums, List.pairwise_cons]
    refine ⟨fun x hx => ?_, Cl.nums_rise l (n + c.size)⟩
    have := Cl.nums_in l (n + c.size) x hx
    omega

/-- How often z is a kid in the list. -/
def cntL (L : List Tm) (z : Int) : Int := (L.map fun x => kcnt x.K x.m z).sum
theorem cntL_append (L M : List Tm) (z : Int) : cntL (L ++ M) z = cntL L z + cntL M z := by simp [cntL]
theorem cntL_one (x : Tm) (z : Int) : cntL [x] z = kcnt x.K x.m z := by simp [cntL]

theorem kcnt_none {K : Nat → Int} {z : Int} : ∀ m, (∀ j, j < m → K j ≠ z) → kcnt K m z = 0 := by
  intro m
  induction m with
  | zero => intro _; rfl
  | succ m ih =>
    intro h
    simp only [kcnt]
    rw [ih (fun j hj => h j (by omega)), if_neg (fun e => h m (by omega) e.symm)]
    rfl
theorem kcnt_once {K : Nat → Int} {z : Int} {i : Nat} : ∀ m, i < m → K i = z → (∀ j, j < m → j ≠ i → K j ≠ z) → kcnt K m z = 1 := by
  intro m
  induction m with
  | zero => intro h; omega
  | succ m ih =>
    intro hi he hn
    simp only [kcnt]
    by_cases e : i = m
    · subst e
      rw [kcnt_none i (fun j hj => hn j (by omega) (by omega)), if_pos he.symm]
      rfl
    · rw [ih (by omega) he (fun j hj hji => hn j (by omega) hji), if_neg (fun h => hn m (by omega) (fun h2 => e h2.symm) h.symm)]
      rfl
theorem kcnt_over (kind : Int) (l : List Nat) (h : l.Pairwise (· < ·)) (z : Nat) : kcnt (overT kind l).K (overT kind l).m z = if z ∈ l then 1 else 0 := by
  show kcnt (fun i => ((l.getD i 0 : Nat) : Int)) l.length z = _
  have hget : ∀ j (hj : j < l.length), l.getD j 0 = l[j] := fun j hj => by rw [List.getD_eq_getElem?_getD, List.getElem?_eq_getElem hj]; rfl
  by_cases hz : z ∈ l
  · rw [if_pos hz]
    obtain ⟨i, hi, he⟩ := List.getElem_of_mem hz
    refine kcnt_once (i := i) _ hi (by rw [hget i hi, he]) (fun j hj hji e => ?_)
    rw [hget j hj] at e
    have e' : l[j] = l[i] := by omega
    rcases Nat.lt_or_gt_of_ne hji with hlt | hgt
    · have := List.pairwise_iff_getElem.1 h j i hj hi hlt; omega
    · have := List.pairwise_iff_getElem.1 h i j hi hj hgt; omega
  · rw [if_neg hz]
    refine kcnt_none _ (fun j hj e => hz ?_)
    rw [hget j hj] at e
    have : l[j] = z := by omega
    rw [← this]
    exact List.getElem_mem hj

mutual
/-- Each of a clause's terms but the last is a kid once. -/
theorem Cl.emit_cnt : ∀ (c : Cl) (n z : Nat), cntL (c.emit n) z = if n ≤ z ∧ z + 1 < n + c.size then 1 else 0
  | .leaf x, n, z => by
    have h : ¬ (n ≤ z ∧ z + 1 < n + (Cl.leaf x).size) := fun h => by
      have h2 : z + 1 < n + 1 := h.2
      omega
    rw [if_neg h]
    rfl
  | .all l, n, z => by
    rw [Cl.emit, cntL_append, cntL_one, Cl.emits_cnt l n z, kcnt_over _ _ (Cl.nums_rise l n), Cl.size]
    by_cases hz : z ∈ Cl.nums l n
    · have := Cl.nums_in l n z hz
      rw [if_neg (fun h => h.2 hz), if_pos hz, if_pos (by omega)]
      rfl
    · rw [if_neg hz]
      by_cases hr : n ≤ z ∧ z < n + Cl.sizes l
      · rw [if_pos ⟨hr, hz⟩, if_pos (by omega)]
        rfl
      · rw [if_neg (fun h => hr h.1), if_neg (by omega)]
        rfl
  | .any l, n, z => by
    rw [Cl.emit, cntL_append, cntL_one, Cl.emits_cnt l n z, kcnt_over _ _ (Cl.nums_rise l n), Cl.size]
    by_cases hz : z ∈ Cl.nums l n
    · have := Cl.nums_in l n z hz
      rw [if_neg (fun h => h.2 hz), if_pos hz, if_pos (by omega)]
      rfl
    · rw [if_neg hz]
      by_cases hr : n ≤ z ∧ z < n + Cl.sizes l
      · rw [if_pos ⟨hr, hz⟩, if_pos (by omega)]
        rfl
      · rw [if_neg (fun h => hr h.1), if_neg (by omega)]
        rfl
  | .neg c, n, z => by
    have hp := Cl.size_pos c
    rw [Cl.emit, cntL_append, cntL_one, Cl.emit_cnt c n z, kcnt_over _ _ (by simp), Cl.size]
    by_cases hz : z = n + c.size - 1
    · rw [if_neg (by omega), if_pos (by simp [hz]), if_pos (by omega)]
      rfl
    · rw [if_neg (show ¬ z ∈ [n + c.size - 1] by simpa using hz)]
      by_cases hr : n ≤ z ∧ z + 1 < n + c.size
      · rw [if_pos hr, if_pos (by omega)]
        rfl
      · rw [if_neg hr, if_neg (by omega)]
        rfl
theorem Cl.emits_cnt : ∀ (l : List Cl) (n z : Nat), cntL (Cl.emits l n) z = if (n ≤ z ∧ z < n + Cl.sizes l) ∧ ¬ z ∈ Cl.nums l n then 1 else 0
  | [], n, z => by
    have h : ¬ ((n ≤ z ∧ z < n + Cl.sizes []) ∧ ¬ z ∈ Cl.nums [] n) := fun h => by
      have h2 : z < n + 0 := h.1.2
      omega
    rw [if_neg h]
    rfl
  | c :: l, n, z => by
    have hp := Cl.size_pos c
    rw [Cl.emits, cntL_append, Cl.emit_cnt c n z, Cl.emits_cnt l (n + c.size) z]
    simp only [Cl.sizes, Cl.nums, List.mem_cons]
    have hin := Cl.nums_in l (n + c.size) z
    by_cases h1 : n ≤ z ∧ z + 1 < n + c.size
    · rw [if_pos h1, if_neg (by omega), if_pos ⟨by omega, fun h => by rcases h with h | h; omega; have := hin h; omega⟩]
      rfl
    · rw [if_neg h1]
      by_cases h2 : (n + c.size ≤ z ∧ z < n + c.size + Cl.sizes l) ∧ ¬ z ∈ Cl.nums l (n + c.size)
      · rw [if_pos h2, if_pos ⟨by omega, fun h => by rcases h with h | h; omega; exact h2.2 h⟩]
        rfl
      · rw [if_neg h2, if_neg (fun h => h2 ⟨by have := h.1; have : ¬ z = n + c.size - 1 := fun e => h.2 (.inl e); omega, fun h3 => h.2 (.inr h3)⟩)]
        rfl
end

/-- What stands alone is good: kinds 1 to 5. -/
def LeafOK (x : Tm) : Prop := FieldsOK x ∧ (1 ≤ x.kind ∧ x.kind ≤ 5)
mutual
/-- All that stands alone within is good. -/
def Cl.ok : Cl → Prop
  | .leaf x => LeafOK x
  | .all l => Cl.oks l
  | .any l => Cl.oks l
  | .neg c => c.ok
def Cl.oks : List Cl → Prop
  | [] => True
  | c :: l => c.ok ∧ Cl.oks l
end
theorem leaf_fields {x : Tm} (h : LeafOK x) : FieldsOK (leafT x) := by
  obtain ⟨h1, h2, h3⟩ := h
  unfold FieldsOK at h1 ⊢
  simp only [leafT]
  rcases h1 with ⟨a, b, c, _⟩ | ⟨a, b, c, _⟩ | ⟨a, b, c, _⟩ | ⟨a, _, _⟩ | ⟨a, _, _, _⟩
  · exact .inl ⟨a, b, c, trivial⟩
  · exact .inr (.inl ⟨a, b, c, trivial⟩)
  · exact .inr (.inr (.inl ⟨a, b, c, trivial⟩))
  · omega
  · omega

/-- Terms that stand from n on are as their kinds ask, their kids ahead of them. -/
def SegOK (L : List Tm) (n : Nat) : Prop := ∀ i x, L[i]? = some x → FieldsOK x ∧ RisA x.K x.m ((n + i : Nat) : Int)
theorem SegOK.append {L M : List Tm} {n : Nat} (h : SegOK L n) (k : SegOK M (n + L.length)) : SegOK (L ++ M) n := fun i x hx => by
  by_cases e : i < L.length
  · rw [List.getElem?_append_left e] at hx
    exact h i x hx
  · rw [List.getElem?_append_right (by omega)] at hx
    have := k _ x hx
    rwa [show n + L.length + (i - L.length) = n + i by omega] at this
theorem over_ok (kind : Int) (l : List Nat) (own : Nat) (hk : kind = 6 ∨ kind = 7 ∨ (kind = 8 ∧ l.length = 1)) (hr : l.Pairwise (· < ·)) (hb : ∀ x ∈ l, x < own) : FieldsOK (overT kind l) ∧ RisA (overT kind l).K (overT kind l).m own := by
  refine ⟨?_, fun j hj => ?_⟩
  · unfold FieldsOK
    simp only [overT, aboveT]
    rcases hk with h | h | ⟨h, h2⟩
    · exact .inr (.inr (.inr (.inl ⟨.inl h, rfl, trivial⟩)))
    · exact .inr (.inr (.inr (.inl ⟨.inr h, rfl, trivial⟩)))
    · exact .inr (.inr (.inr (.inr ⟨h, rfl, trivial, h2⟩)))
  · have hj' : j < l.length := hj
    have hget : ∀ j (hj : j < l.length), l.getD j 0 = l[j] := fun j hj => by rw [List.getD_eq_getElem?_getD, List.getElem?_eq_getElem hj]; rfl
    show (0 ≤ ((l.getD j 0 : Nat) : Int) ∧ ((l.getD j 0 : Nat) : Int) < own) ∧ (0 < j → ((l.getD (j - 1) 0 : Nat) : Int) < ((l.getD j 0 : Nat) : Int))
    rw [hget j hj']
    have h1 := hb _ (List.getElem_mem hj')
    refine ⟨by omega, fun h0 => ?_⟩
    rw [hget (j - 1) (by omega)]
    have := List.pairwise_iff_getElem.1 hr (j - 1) j (by omega) hj' (by omega)
    omega
theorem SegOK.one {x : Tm} {n : Nat} (h : FieldsOK x ∧ RisA x.K x.m n) : SegOK [x] n := fun i y hy => by
  cases i with
  | zero => simp at hy; subst hy; exact h
  | succ i => simp at hy

mutual
theorem Cl.emit_ok : ∀ (c : Cl) (n : Nat), c.ok → SegOK (c.emit n) n
  | .leaf x, n, h => by
    rw [Cl.ok] at h
    rw [Cl.emit]
    exact SegOK.one ⟨leaf_fields h, fun j hj => absurd hj (Nat.not_lt_zero _)⟩
  | .all l, n, h => by
    rw [Cl.ok] at h
    rw [Cl.emit]
    refine SegOK.append (Cl.emits_ok l n h) (SegOK.one ?_)
    rw [Cl.emits_len]
    exact over_ok 6 _ _ (.inl rfl) (Cl.nums_rise l n) (fun x hx => (Cl.nums_in l n x hx).2)
  | .any l, n, h => by
    rw [Cl.ok] at h
    rw [Cl.emit]
    refine SegOK.append (Cl.emits_ok l n h) (SegOK.one ?_)
    rw [Cl.emits_len]
    exact over_ok 7 _ _ (.inr (.inl rfl)) (Cl.nums_rise l n) (fun x hx => (Cl.nums_in l n x hx).2)
  | .neg c, n, h => by
    have hp := Cl.size_pos c
    rw [Cl.ok] at h
    rw [Cl.emit]
    refine SegOK.append (Cl.emit_ok c n h) (SegOK.one ?_)
    rw [Cl.emit_len]
    exact over_ok 8 _ _ (.inr (.inr ⟨rfl, rfl⟩)) (by simp) (fun x hx => by simp at hx; omega)
theorem Cl.emits_ok : ∀ (l : List Cl) (n : Nat), Cl.oks l → SegOK (Cl.emits l n) n
  | [], n, _ => by
    rw [Cl.emits]
    exact fun i x hx => by simp at hx
  | c :: l, n, h => by
    rw [Cl.oks] at h
    rw [Cl.emits]
    refine SegOK.append (Cl.emit_ok c n h.1) ?_
    rw [Cl.emit_len]
    exact Cl.emits_ok l (n + c.size) h.2
end

/-- The terms of a list, by their numbers. -/
def atL (L : List Tm) (i : Nat) : Tm := L.getD i (aboveT 0 0 (fun _ => 0))
theorem tcnt_take (L : List Tm) (z : Int) : ∀ t, t ≤ L.length → tcnt (atL L) t z = cntL (L.take t) z := by
  intro t
  induction t with
  | zero => intro _; simp [tcnt, cntL]
  | succ t ih =>
    intro ht
    have hg : L[t]? = some (atL L t) := by
      unfold atL
      rw [List.getD_eq_getElem?_getD, List.getElem?_eq_getElem (by omega)]
      rfl
    rw [tcnt, ih (by omega), List.take_add_one, cntL_append, hg]
    simp [cntL]
/-- A CLAUSE'S TERMS ARE A GOOD FILTER, where there are no more than twenty. -/
theorem Cl.emit_good (c : Cl) (h : c.ok) : GoodF (atL (c.emit 0)) c.size ↔ c.size ≤ 20 := by
  have hp := Cl.size_pos c
  refine ⟨fun g => g.1.2, fun h20 => ⟨⟨by omega, h20⟩, fun i hi => ?_, fun k hk => ?_⟩⟩
  · have hlt : i < (c.emit 0).length := by rw [Cl.emit_len]; exact hi
    have hg : (c.emit 0)[i]? = some (atL (c.emit 0) i) := by
      unfold atL
      rw [List.getD_eq_getElem?_getD, List.getElem?_eq_getElem hlt]
      rfl
    have := Cl.emit_ok c 0 h i _ hg
    rwa [Nat.zero_add] at this
  · rw [tcnt_take _ _ _ (by rw [Cl.emit_len]; exact Nat.le_refl _), List.take_of_length_le (by rw [Cl.emit_len]; exact Nat.le_refl _), Cl.emit_cnt, if_pos (by omega)]

end Go.Proofs.YtjohocnfcnjciaaGreatDoor
namespace Go.Proofs.YtjohocnfcnjciaaGreatDoor
open Go.RowKit
set_option linter.unusedVariables false

mutual
theorem Cl.plain_ok : ∀ c : Cl, c.ok → c.plain.ok ∧ c.turn.ok
  | .leaf x, h => by
    rw [Cl.ok] at h
    refine ⟨?_, ?_⟩
    · rw [Cl.plain, Cl.ok]; exact h
    · rw [Cl.turn, Cl.ok, Cl.ok]; exact h
  | .all l, h => by
    rw [Cl.ok] at h
    have := Cl.plains_ok l h
    refine ⟨?_, ?_⟩
    · rw [Cl.plain, Cl.ok]; exact this.1
    · rw [Cl.turn, Cl.ok]; exact this.2
  | .any l, h => by
    rw [Cl.ok] at h
    have := Cl.plains_ok l h
    refine ⟨?_, ?_⟩
    · rw [Cl.plain, Cl.ok]; exact this.1
    · rw [Cl.turn, Cl.ok]; exact this.2
  | .neg c, h => by
    rw [Cl.ok] at h
    have := Cl.plain_ok c h
    refine ⟨?_, ?_⟩
    · rw [Cl.plain]; exact this.2
    · rw [Cl.turn]; exact this.1
theorem Cl.plains_ok : ∀ l : List Cl, Cl.oks l → Cl.oks (Cl.plains l) ∧ Cl.oks (Cl.turns l)
  | [], _ => ⟨by rw [Cl.plains, Cl.oks]; trivial, by rw [Cl.turns, Cl.oks]; trivial⟩
  | c :: l, h => by
    rw [Cl.oks] at h
    have h1 := Cl.plain_ok c h.1
    have h2 := Cl.plains_ok l h.2
    exact ⟨by rw [Cl.plains, Cl.oks]; exact ⟨h1.1, h2.1⟩, by rw [Cl.turns, Cl.oks]; exact ⟨h1.2, h2.2⟩⟩
end
mutual
theorem Cl.plain_size : ∀ c : Cl, c.plain.size ≤ 2 * c.size ∧ c.turn.size ≤ 2 * c.size
  | .leaf x => by simp [Cl.plain, Cl.turn, Cl.size]
  | .all l => by
    have := Cl.plains_size l
    simp only [Cl.plain, Cl.turn, Cl.size]
    omega
  | .any l => by
    have := Cl.plains_size l
    simp only [Cl.plain, Cl.turn, Cl.size]
    omega
  | .neg c => by
    have := Cl.plain_size c
    simp only [Cl.plain, Cl.turn, Cl.size]
    omega
theorem Cl.plains_size : ∀ l : List Cl, Cl.sizes (Cl.plains l) ≤ 2 * Cl.sizes l ∧ Cl.sizes (Cl.turns l) ≤ 2 * Cl.sizes l
  | [] => by simp [Cl.plains, Cl.turns, Cl.sizes]
  | c :: l => by
    have h1 := Cl.plain_size c
    have h2 := Cl.plains_size l
    simp only [Cl.plains, Cl.turns, Cl.sizes]
    omega
end

theorem Cl.oks_iff : ∀ l : List Cl, Cl.oks l ↔ ∀ c ∈ l, c.ok
  | [] => by simp [Cl.oks]
  | c :: l => by rw [Cl.oks, Cl.oks_iff l]; simp
theorem Cl.sizes_append : ∀ l l' : List Cl, Cl.sizes (l ++ l') = Cl.sizes l + Cl.sizes l'
  | [], l' => by simp [Cl.sizes]
  | c :: l, l' => by simp [Cl.sizes, Cl.sizes_append l l']; omega

/-- A term that is not above others stands alone, and is good. -/
theorem leaf_of {F : Nat → Tm} {t k : Nat} (h : GoodF F t) (hk : k < t) (k6 : (F k).kind ≠ 6) (k7 : (F k).kind ≠ 7) (k8 : (F k).kind ≠ 8) : LeafOK (F k) := by
  have hf := (h.2.1 k hk).1
  refine ⟨hf, ?_⟩
  unfold FieldsOK at hf
  rcases hf with ⟨a, _⟩ | ⟨a, _⟩ | ⟨a, _⟩ | ⟨a, _⟩ | ⟨a, _⟩ <;> omega
theorem not_one {F : Nat → Tm} {t k : Nat} (h : GoodF F t) (hk : k < t) (k8 : (F k).kind = 8) : (F k).m = 1 := by
  have hf := (h.2.1 k hk).1
  unfold FieldsOK at hf
  rcases hf with ⟨a, _⟩ | ⟨a, _⟩ | ⟨a, _⟩ | ⟨a, _⟩ | ⟨a, _, _, b⟩
  · omega
  · omega
  · omega
  · omega
  · exact b
theorem kids_ahead {F : Nat → Tm} {t : Nat} (h : GoodF F t) : ∀ i, i < t → ∀ j, j < (F i).m → 0 ≤ (F i).K j ∧ (F i).K j < i := fun i hi j hj => ((h.2.1 i hi).2 j hj).1

theorem clF_ok {F : Nat → Tm} {t : Nat} (h : GoodF F t) : ∀ f k, k < f → k < t → (clF F f k).ok := by
  intro f
  induction f with
  | zero => intro k hk; omega
  | succ f ih =>
    intro k hk hkt
    have hkid : ∀ j, j < (F k).m → (clF F f ((F k).K j).toNat).ok := fun j hj => by
      have := kids_ahead h k hkt j hj
      exact ih _ (by omega) (by omega)
    rw [clF]
    by_cases k6 : (F k).kind = 6
    · rw [if_pos k6, Cl.ok, Cl.oks_iff]
      intro c hc
      obtain ⟨j, hj, rfl⟩ := List.mem_map.1 hc
      exact hkid j (by simpa using hj)
    · rw [if_neg k6]
      by_cases k7 : (F k).kind = 7
      · rw [if_pos k7, Cl.ok, Cl.oks_iff]
        intro c hc
        obtain ⟨j, hj, rfl⟩ := List.mem_map.1 hc
        exact hkid j (by simpa using hj)
      · rw [if_neg k7]
        by_cases k8 : (F k).kind = 8
        · rw [if_pos k8, Cl.ok]
          exact hkid 0 (by rw [not_one h hkt k8]; omega)
        · rw [if_neg k8, Cl.ok]
          exact leaf_of h hkt k6 k7 k8

/-- Kids that rise are told by no more than all that stands ahead. -/
theorem kids_size {F : Nat → Tm} {t f k : Nat} (h : GoodF F t) (hkt : k < t) (ih : ∀ q, q < k → (clF F f q).size ≤ 2 ^ q) : ∀ m, m ≤ (F k).m → m = 0 ∨ Cl.sizes ((List.range m).map fun j => clF F f ((F k).K j).toNat) + 1 ≤ 2 ^ (((F k).K (m - 1)).toNat + 1) := by
  intro m
  induction m with
  | zero => intro _; exact .inl rfl
  | succ m ihm =>
    intro hm
    refine .inr ?_
    have hb := kids_ahead h k hkt m (by omega)
    have hs := ih ((F k).K m).toNat (by omega)
    rw [List.range_succ, List.map_append, Cl.sizes_append]
    simp only [List.map_cons, List.map_nil, Cl.sizes, Nat.add_sub_cancel, Nat.add_zero]
    rw [Nat.pow_succ]
    rcases ihm (by omega) with h0 | h1
    · subst h0
      simp only [List.range_zero, List.map_nil, Cl.sizes]
      have : 0 < 2 ^ ((F k).K 0).toNat := Nat.pow_pos (by omega)
      omega
    · by_cases m0 : m = 0
      · subst m0
        simp only [List.range_zero, List.map_nil, Cl.sizes]
        have : 0 < 2 ^ ((F k).K 0).toNat := Nat.pow_pos (by omega)
        omega
      · have hr := ((h.2.1 k hkt).2 m (by omega)).2 (by omega)
        have hb' := kids_ahead h k hkt (m - 1) (by omega)
        have hp : 2 ^ (((F k).K (m - 1)).toNat + 1) ≤ 2 ^ ((F k).K m).toNat := Nat.pow_le_pow_right (by omega) (by omega)
        omega
theorem clF_size {F : Nat → Tm} {t : Nat} (h : GoodF F t) : ∀ f k, k < f → k < t → (clF F f k).size ≤ 2 ^ k := by
  intro f
  induction f with
  | zero => intro k hk; omega
  | succ f ih =>
    intro k hk hkt
    have h1 : 0 < 2 ^ k := Nat.pow_pos (by omega)
    have hkids : Cl.sizes ((List.range (F k).m).map fun j => clF F f ((F k).K j).toNat) + 1 ≤ 2 ^ k := by
      rcases kids_size (f := f) h hkt (fun q hq => ih q (by omega) (by omega)) (F k).m (Nat.le_refl _) with h0 | h2
      · rw [h0]; simp only [List.range_zero, List.map_nil, Cl.sizes]; omega
      · by_cases m0 : (F k).m = 0
        · rw [m0]; simp only [List.range_zero, List.map_nil, Cl.sizes]; omega
        · have hb := kids_ahead h k hkt ((F k).m - 1) (by omega)
          exact Nat.le_trans h2 (Nat.pow_le_pow_right (by omega) (by omega))
    rw [clF]
    by_cases k6 : (F k).kind = 6
    · rw [if_pos k6, Cl.size]; exact hkids
    · rw [if_neg k6]
      by_cases k7 : (F k).kind = 7
      · rw [if_pos k7, Cl.size]; exact hkids
      · rw [if_neg k7]
        by_cases k8 : (F k).kind = 8
        · rw [if_pos k8, Cl.size]
          rw [not_one h hkt k8] at hkids
          simpa [Cl.sizes] using hkids
        · rw [if_neg k8, Cl.size]; omega

end Go.Proofs.YtjohocnfcnjciaaGreatDoor
namespace Go.Proofs.YtjohocnfcnjciaaGreatDoor
open Go.RowKit
set_option linter.unusedVariables false

/-- The terms of a list. -/
def TL (L : List Tm) (i : Nat) : Tm := atL L i
theorem TL_snoc (L : List Tm) (y : Tm) : (fun i => if i = L.length then y else TL L i) = TL (L ++ [y]) := by
  funext i
  unfold TL atL
  rw [List.getD_eq_getElem?_getD, List.getD_eq_getElem?_getD]
  by_cases e : i = L.length
  · subst e; simp
  · rw [if_neg e]
    by_cases h : i < L.length
    · rw [List.getElem?_append_left h]
    · rw [List.getElem?_eq_none (by omega), List.getElem?_eq_none (by simp; omega)]
/-- The kids' numbers. -/
def numK (l : List Cl) (n i : Nat) : Int := (((Cl.nums l n).getD i 0 : Nat) : Int)
theorem nums_at : ∀ (l : List Cl) (n j : Nat) (c : Cl), l[j]? = some c → (Cl.nums l n).getD j 0 = n + Cl.sizes (l.take j) + c.size - 1
  | [], n, j, c, h => by simp at h
  | d :: l, n, 0, c, h => by
    simp at h
    subst h
    simp [Cl.nums, Cl.sizes]
  | d :: l, n, j + 1, c, h => by
    have := nums_at l (n + d.size) j c (by simpa using h)
    simp only [Cl.nums, List.getD_cons_succ, List.take_succ_cons, Cl.sizes]
    rw [this]
    omega
theorem emits_take : ∀ (l : List Cl) (n j : Nat) (c : Cl), l[j]? = some c → Cl.emits (l.take (j + 1)) n = Cl.emits (l.take j) n ++ c.emit (n + Cl.sizes (l.take j))
  | [], n, j, c, h => by simp at h
  | d :: l, n, 0, c, h => by
    simp at h
    subst h
    simp [Cl.emits, Cl.sizes]
  | d :: l, n, j + 1, c, h => by
    have := emits_take l (n + d.size) j c (by simpa using h)
    simp only [List.take_succ_cons, Cl.emits, Cl.sizes]
    rw [this, List.append_assoc]
    congr 3
    omega
theorem sizes_take : ∀ (l : List Cl) (j : Nat) (c : Cl), l[j]? = some c → Cl.sizes (l.take (j + 1)) = Cl.sizes (l.take j) + c.size
  | [], j, c, h => by simp at h
  | d :: l, 0, c, h => by
    simp at h
    subst h
    simp [Cl.sizes]
  | d :: l, j + 1, c, h => by
    have := sizes_take l j c (by simpa using h)
    simp only [List.take_succ_cons, Cl.sizes]
    rw [this]
    omega
theorem sizes_le : ∀ (l : List Cl) (j : Nat), Cl.sizes (l.take j) ≤ Cl.sizes l
  | [], j => by simp
  | d :: l, 0 => by simp [Cl.sizes]
  | d :: l, j + 1 => by
    have := sizes_le l j
    simp only [List.take_succ_cons, Cl.sizes]
    omega

/-- What appendClause answers. -/
def EmSaid (w0 w1 : World) (c : Cl) : Prop := ∀ (S : Nat → Prop) (vc : Value) (w : World) (X : Nat → Prop) (v : Value) (L : List Tm) (k : Nat) (R : Nat → Tc), k = L.length → ClIs w0 w1 S c vc → Below w1.heap.size w1 w → TBldX w w1.heap.size X v k (TL L) R → (∀ q, X q → q < w.heap.size) → k + c.size ≤ 2 ^ 22 →
    Calls Tryz.prog 42 #[v, vc] w fun e w' => ∃ v' R', e = .returned v' ∧ TBldX w' w1.heap.size X v' (k + c.size) (TL (L ++ c.emit k)) R' ∧ w.grownBy w' v.ownBlock ∧ Onward w v v'

theorem own_kidB {w : World} {B : Nat} {v : Value} {n : Nat} {K : Nat → Int} (h : w.ownsRow B 3 1 v n (kidL K n)) (hn : n ≤ 2 ^ 30) : ∃ a c g, v = .slice a n c ∧ n ≤ c ∧ (n ≠ 0 → B ≤ g ∧ v.ownBlock = some g) ∧ OwnK w g v n K := by
  rcases row_open h with ⟨rfl, rfl⟩ | ⟨g, cap, rfl, h1, h2, h3, h4, h5⟩
  · exact ⟨none, 0, 0, rfl, Nat.le_refl _, fun h => absurd rfl h, none, 0, rfl, hn, .inl rfl⟩
  · refine ⟨_, cap, g, rfl, h3, fun _ => ⟨h1, rfl⟩, _, cap, rfl, hn, .inr ⟨rfl, h2, fun i hi => ⟨?_, h5 i⟩⟩⟩
    have := h4 i (by omega)
    rw [this]
    have q := rowL_get (f := fun i => [Value.int .i64 (K i)]) (k := 1) (fun _ => rfl) n i 0 hi (by omega)
    simpa [kidL] using q
theorem row_in {w : World} {B : Nat} {e : TypeId} {z : Nat} {v : Value} {n : Nat} {xs : List Value} (h : w.ownsRow B e z v n xs) : ∀ q, v.ownBlock = some q → B ≤ q ∧ q < w.heap.size := fun q hq => by
  rcases row_open h with ⟨rfl, _⟩ | ⟨g', cap', rfl, g1, g2, _⟩
  · simp [Value.ownBlock] at hq
  · simp [Value.ownBlock] at hq; omega

/-- What appendKids holds behind j kids. -/
def KSt (w1 w : World) (X : Nat → Prop) (v0 : Value) (l : List Cl) (L : List Tm) (k j s : Nat) (v nv : Value) (wr : World) : Prop := s = k + Cl.sizes (l.take j) ∧ (∃ R, TBldX wr w1.heap.size (fun q => X q ∨ nv.ownBlock = some q) v s (TL (L ++ Cl.emits (l.take j) k)) R) ∧ wr.ownsRow w.heap.size 3 1 nv j (kidL (numK l k) j) ∧ w.grownBy wr v0.ownBlock ∧ Onward w v0 v ∧ (j = 0 → wr = w)

set_option maxRecDepth 100000 in
set_option maxHeartbeats 4000000 in
theorem appendKids_any (w0 w1 w : World) (S : Nat → Prop) (kind : Int) (a : Option Addr) (l : List Cl) (n cc : Nat) (hn : n = l.length) (X : Nat → Prop) (v : Value) (L : List Tm) (k : Nat) (R : Nat → Tc) (hkL : k = L.length) (hw1 : Below w1.heap.size w1 w) (hT : TBldX w w1.heap.size X v k (TL L) R) (hX : ∀ q, X q → q < w.heap.size) (hz : k + Cl.sizes l + 1 ≤ 2 ^ 22)
    (hread : n ≠ 0 → ∃ g, a = some ⟨g, 0, none⟩ ∧ ∀ (j : Nat) (c : Cl), l[j]? = some c → ∀ wr, (j = 0 → wr = w) → Below w1.heap.size w1 wr → g < wr.heap.size ∧ ∃ u, wr.cell? ⟨g, j, none⟩ = some u ∧ ClIs w0 w1 S c u) (ih : ∀ c ∈ l, EmSaid w0 w1 c) :
    Calls Tryz.prog 71 #[v, .int .i64 kind, .slice a n cc] w fun e w' => ∃ v' R', e = .returned v' ∧ TBldX w' w1.heap.size X v' (k + Cl.sizes l + 1) (TL (L ++ Cl.emits l k ++ [overT kind (Cl.nums l k)])) R' ∧ w.grownBy w' v.ownBlock ∧ Onward w v v' := by
  obtain ⟨va, vc, rfl⟩ := hT.bld.form
  have HRD : Hid (n ≠ 0 → ∃ g, a = some ⟨g, 0, none⟩ ∧ ∀ (j : Nat) (c : Cl), l[j]? = some c → ∀ wr, (j = 0 → wr = w) → Below w1.heap.size w1 wr → g < wr.heap.size ∧ ∃ u, wr.cell? ⟨g, j, none⟩ = some u ∧ ClIs w0 w1 S c u) := hread
  have HI : Hid (∀ c ∈ l, EmSaid w0 w1 c) := ih
  have HT : Hid (TBldX w w1.heap.size X (.slice va k vc) k (TL L) R) := hT
  have HX : Hid (∀ q, X q → q < w.heap.size) := hX
  have HW : Hid (Below w1.heap.size w1 w) := hw1
  have HN : Hid (n = l.length ∧ k = L.length) := ⟨hn, hkL⟩
  have zW := hw1.size
  have hnl : n ≤ 2 ^ 22 := by have := Cl.len_sizes l; omega
  clear hread ih hT hX hw1 hn hkL
  obtain ⟨iI, hi, hz0, hz1, hz2⟩ := info_parts infoInt
  have HII : Hid (Tryz.prog.info? 3 = some iI ∧ iI.zero = some (.int .i64 0) ∧ iI.size = 1 ∧ iI.bytes = 8) := ⟨hi, hz0, hz1, hz2⟩
  clear hi hz0 hz1 hz2
  go_enter Tryz.func71, Tryz.ntmps71
  go_wp2_with fail
  go_loopw [0, 7, 12] (fun v nv i wr => ∃ (j s : Nat) (va2 : Option Addr) (vc2 : Nat) (an : Option Addr) (cn : Nat), j ≤ n ∧ i = .int .i64 (j : Int) ∧ v = .slice va2 s vc2 ∧ nv = .slice an j cn ∧ Hid (KSt w1 w X (.slice va k vc) l L k j s (.slice va2 s vc2) (.slice an j cn) wr)) (fun _ _ i _ => n - (intOf i).toNat)
  case atStart =>
    refine ⟨0, k, va, vc, none, 0, Nat.zero_le _, rfl, rfl, rfl, by simp [Cl.sizes], ⟨R, ?_⟩, World.ownsRow_nil _ _ _ _, ⟨rfl, rfl, rfl, Nat.le_refl _, fun _ _ _ => rfl⟩, fun g hg => .inl hg, fun _ => rfl⟩
    have := HT.out.more (Y := fun q => X q ∨ (Value.slice none 0 0).ownBlock = some q) (fun g hg => by rcases hg with h | h; exact .inl h; simp [Value.ownBlock] at h)
    simpa [Cl.emits] using this
  case round =>
    obtain ⟨j, s, va2, vc2, an, cn, hj, rfl, rfl, rfl, HK⟩ := hrel
    obtain ⟨hs, ⟨R2, hTX⟩, hrow, hgr, hon, hj0⟩ := HK.out
    have hold0 := HT.out.old
    have hsle := sizes_le l j
    have s22 : s + 1 ≤ 2 ^ 22 := by omega
    have zr := hgr.size
    have hBw : Below w1.heap.size w1 wr := HW.out.grown hgr zW (fun b hb => (hold0 b hb).1)
    have hrin := row_in hrow
    have hX' : ∀ q, (X q ∨ (Value.slice an j cn).ownBlock = some q) → q < wr.heap.size := fun q hq => by
      rcases hq with h | h
      · have := HX.out q h; omega
      · exact (hrin q h).2
    have HX' : Hid (∀ q, (X q ∨ (Value.slice an j cn).ownBlock = some q) → q < wr.heap.size) := hX'
    have HTX : Hid (TBldX wr w1.heap.size (fun q => X q ∨ (Value.slice an j cn).ownBlock = some q) (.slice va2 s vc2) s (TL (L ++ Cl.emits (l.take j) k)) R2) := hTX
    have HROW : Hid (wr.ownsRow w.heap.size 3 1 (.slice an j cn) j (kidL (numK l k) j)) := hrow
    have HGR : Hid (w.grownBy wr (Value.slice va k vc).ownBlock ∧ Onward w (.slice va k vc) (.slice va2 s vc2)) := ⟨hgr, hon⟩
    have HBW : Hid (Below w1.heap.size w1 wr) := hBw
    have HSZ : Hid (s = k + Cl.sizes (l.take j)) := hs
    by_cases hlt : j < n
    · have hjl : j < l.length := by have := HN.out.1; omega
      obtain ⟨c, hc⟩ : ∃ c, l[j]? = some c := ⟨_, List.getElem?_eq_getElem hjl⟩
      obtain ⟨g0, rfl, hrd⟩ := HRD.out (by omega)
      obtain ⟨hgw, u, hu, hcu⟩ := hrd j c hc wr hj0 hBw
      obtain ⟨T0, y0, rfl⟩ := hcu.form
      have hst := sizes_take l j c hc
      have hsl2 := sizes_le l (j + 1)
      have hcp := Cl.size_one c
      obtain ⟨cs, hcs⟩ : ∃ cs, cs = c.size := ⟨_, rfl⟩
      have hll : s = (L ++ Cl.emits (l.take j) k).length := by rw [List.length_append, Cl.emits_len, ← HN.out.2]; exact hs
      have HEM : Hid (Calls Tryz.prog 42 #[.slice va2 s vc2, .iface T0 y0] wr fun e w' => ∃ v' R', e = .returned v' ∧ TBldX w' w1.heap.size (fun q => X q ∨ (Value.slice an j cn).ownBlock = some q) v' (s + cs) (TL (L ++ Cl.emits (l.take (j + 1)) k)) R' ∧ wr.grownBy w' (Value.slice va2 s vc2).ownBlock ∧ Onward wr (.slice va2 s vc2) v') := by
        have h1 := HI.out c (List.mem_of_getElem? hc) S (.iface T0 y0) wr (fun q => X q ∨ (Value.slice an j cn).ownBlock = some q) (.slice va2 s vc2) (L ++ Cl.emits (l.take j) k) s R2 hll hcu hBw hTX hX' (by omega)
        show Calls _ _ _ _ _
        rw [emits_take l k j c hc, ← List.append_assoc, hcs, ← hs]
        exact h1
      have HNU : Hid (kidL (numK l k) (j + 1) = kidL (numK l k) j ++ [.int .i64 ((s : Int) + cs - 1)]) := by
        show _ = _
        have e1 : numK l k j = (s : Int) + cs - 1 := by
          unfold numK
          rw [nums_at l k j c hc]
          omega
        rw [← e1]
        rfl
      have HS2 : Hid (s + cs = k + Cl.sizes (l.take (j + 1))) := by show _ = _; omega
      have cs22 : s + cs + 1 ≤ 2 ^ 22 := by omega
      have cs0 : 1 ≤ cs := by omega
      have j0 : (0 : Int) ≤ (j : Int) := by omega
      have j1 : (j : Int) < (n : Int) := by omega
      clear hs hrd hc hcu hst hsl2 hcp hcs hll hTX hrow hgr hon hj0 hX' hBw hrin HK hsle hold0
      go_wp2_with fail
      refine HEM.out.mono ?_
      rintro e w2 ⟨v2, R3, rfl, hT2, hg2, ho2⟩
      obtain ⟨va3, vc3, rfl⟩ := hT2.bld.form
      have z2 := hg2.size
      have HT2 : Hid (TBldX w2 w1.heap.size (fun q => X q ∨ (Value.slice an j cn).ownBlock = some q) (.slice va3 (s + cs) vc3) (s + cs) (TL (L ++ Cl.emits (l.take (j + 1)) k)) R3) := hT2
      have HG2 : Hid (wr.grownBy w2 (Value.slice va2 s vc2).ownBlock ∧ Onward wr (.slice va2 s vc2) (.slice va3 (s + cs) vc3)) := ⟨hg2, ho2⟩
      have HRW : Hid (w2.ownsRow w.heap.size 3 1 (.slice an j cn) j (kidL (numK l k) j)) := row_far HROW.out hg2 (fun g hg e => HTX.out.away g hg (.inr e))
      clear hT2 hg2 ho2
      go_wp2_with (first | (at_builtin; refine wpList_append_lies _ rfl _ _ 49 rfl w.heap.size 3 iI _ 1 8 Tryz.underlying49 HII.out.1 HII.out.2.1 HII.out.2.2.1 HII.out.2.2.2 rfl (by decide) _ _ _ rfl (HRW.out.alloc _) ⟨w2.heap.size, 0, none⟩ 1 1 [.int .i64 ((s : Int) + cs - 1)] rfl rfl (one_news _ _ _) ?c2 (by decide) ?c3 ?c4 ?c5 (w2.heap.size + 1) ?c6 ?_))
      case c2 => intro u hu; simp at hu; subst hu; rfl
      case c3 => unfold maxLen; omega
      case c4 => omega
      case c5 => simp; omega
      case c6 => simp
      intro g cap w3 hown3 hg3 hat3 hlt3
      have hrin := row_in HRW.out
      have hon2 : Onward w (.slice va k vc) (.slice va3 (s + cs) vc3) := fun q hq => by
        rcases HG2.out.2 q hq with h | h
        · exact HGR.out.2 q h
        · exact .inr (by omega)
      have hgr2 : w.grownBy w2 (Value.slice va k vc).ownBlock := grown_chain HGR.out.1 HGR.out.2 HG2.out.1
      have hal : ∀ o, Below w2.heap.size w2 (w2.alloc o) := fun o => (Below.refl _ _).alloc (Nat.le_refl _) o
      have HK3 : Hid (KSt w1 w X (.slice va k vc) l L k (j + 1) (s + cs) (.slice va3 (s + cs) vc3) (.slice (some ⟨g, 0, none⟩) (j + 1) cap) w3) := by
        refine ⟨HS2.out, ⟨R3, ?_⟩, by rw [HNU.out]; exact hown3, grown_chain hgr2 (fun q hq => .inr (hrin q hq).1) (grown_after (hal _) hg3), hon2, fun h => by omega⟩
        have t1 := (HT2.out.below (hal (.cells #[.int .i64 ((s : Int) + cs - 1)] 3))).more (Y := fun q => X q ∨ (Value.slice an j cn).ownBlock = some q ∨ q = g) (fun q hq => by
          rcases hq with h | h | h
          · exact .inl (.inl h)
          · exact .inl (.inr h)
          · subst h
            rcases hat3 with h | h
            · exact .inl (.inr h)
            · exact .inr (by simp; omega))
        have t2 := t1.far hg3 (fun q hq => .inr (.inl hq))
        exact t2.more (fun q hq => by
          rcases hq with h | h
          · exact .inl (.inl h)
          · have : q = g := by simp [Value.ownBlock] at h; exact h.symm
            exact .inl (.inr (.inr this)))
      clear hown3 hg3 hat3 hlt3 hrin hon2 hgr2 hal HT2 HG2 HRW HNU HS2 HEM HTX HROW HGR HBW HX' HSZ hu
      go_wp2
      go_roundw
      case rel => exact ⟨j + 1, s + cs, va3, vc3, _, cap, by omega, by go_num, rfl, rfl, HK3⟩
      case measure => simp [intOf]; omega
    · obtain rfl : j = n := by omega
      have hst : s = k + Cl.sizes l := by rw [hs, HN.out.1, List.take_length]
      have HST : Hid (s = k + Cl.sizes l) := hst
      have hj30 : j ≤ 2 ^ 30 := by omega
      obtain ⟨an', cn', gk, ek, hck, hgk, hok⟩ := own_kidB hrow hj30
      injection ek with e1 _ e3
      subst e1 e3
      have HAB : Hid (Calls Tryz.prog 91 #[.slice va2 s vc2, .int .i64 kind, .slice an j cn] wr fun e w' => ∃ v' R', e = .returned v' ∧ TBldX w' w1.heap.size X v' (s + 1) (fun i => if i = s then aboveT kind j (numK l k) else TL (L ++ Cl.emits (l.take j) k) i) R' ∧ wr.grownBy w' (Value.slice va2 s vc2).ownBlock ∧ Onward wr (.slice va2 s vc2) v') :=
        appendAbove_fr w1.heap.size wr (fun q => X q ∨ (Value.slice an j cn).ownBlock = some q) X (.slice va2 s vc2) s _ R2 kind an cn j gk (numK l k) hTX hX' (by omega) (by omega) hck hok (fun h => ⟨by have := (hgk h).1; omega, .inr (hgk h).2⟩) (fun q hq => ⟨.inl hq, fun h e => by have := HX.out q hq; have := (hgk h).1; omega⟩)
      have HFN : Hid ((fun i => if i = s then aboveT kind j (numK l k) else TL (L ++ Cl.emits (l.take j) k) i) = TL (L ++ Cl.emits l k ++ [overT kind (Cl.nums l k)])) := by
        have e1 : l.take j = l := by rw [HN.out.1, List.take_length]
        have e2 : s = (L ++ Cl.emits l k).length := by rw [List.length_append, Cl.emits_len, ← HN.out.2]; exact hst
        have e3 : aboveT kind j (numK l k) = overT kind (Cl.nums l k) := by
          unfold overT
          rw [Cl.nums_len, ← HN.out.1]
          rfl
        show _ = _
        rw [e1, e3, e2]
        exact TL_snoc _ _
      clear hs hst hTX hrow hgr hon hj0 hX' hBw hrin HK hsle hold0 hgk hok hck
      go_wp2_with fail
      refine HAB.out.mono ?_
      rintro e w2 ⟨v2, R3, rfl, hT2, hg2, ho2⟩
      rw [HFN.out] at hT2
      obtain ⟨va3, vc3, rfl⟩ := hT2.bld.form
      have HT2 : Hid (TBldX w2 w1.heap.size X (.slice va3 (s + 1) vc3) (s + 1) (TL (L ++ Cl.emits l k ++ [overT kind (Cl.nums l k)])) R3) := hT2
      have HG2 : Hid (w.grownBy w2 (Value.slice va k vc).ownBlock ∧ Onward w (.slice va k vc) (.slice va3 (s + 1) vc3)) := by
        refine ⟨grown_chain HGR.out.1 HGR.out.2 hg2, fun q hq => ?_⟩
        rcases ho2 q hq with h | h
        · exact HGR.out.2 q h
        · exact .inr (by omega)
      clear hT2 hg2 ho2
      go_wp2
      go_ret
      refine ⟨_, R3, rfl, ?_, HG2.out.1, HG2.out.2⟩
      have := HT2.out
      rw [HST.out] at this ⊢
      exact this

end Go.Proofs.YtjohocnfcnjciaaGreatDoor
namespace Go.Proofs.YtjohocnfcnjciaaGreatDoor
open Go.RowKit
set_option linter.unusedVariables false

theorem leaf_small {x : Tm} (h : LeafOK x) : x.m = 0 ∧ x.n ≤ 80 := by
  obtain ⟨hf, hk⟩ := h
  unfold FieldsOK at hf
  rcases hf with ⟨_, _, hg, hm⟩ | ⟨_, _, hn, hm⟩ | ⟨_, _, ⟨hg, _⟩, hm⟩ | ⟨h6, _⟩ | ⟨h8, _⟩
  · exact ⟨hm, by have := hg.1.2.1; omega⟩
  · exact ⟨hm, by omega⟩
  · exact ⟨hm, by have := hg.1.2.1; omega⟩
  · omega
  · omega

set_option maxRecDepth 100000 in
set_option maxHeartbeats 4000000 in
theorem appendClause_leaf (w0 w1 : World) (h01 : Below w0.heap.size w0 w1) (x : Tm) (hx : LeafOK x) : EmSaid w0 w1 (.leaf x) := by
  intro S vc w X v L k R hkL hc hw hT hX hz
  rw [ClIs] at hc
  obtain ⟨⟨kd, p, va', vn, vc', ka, km, kc⟩, rfl, e0, e1, e2, e3, hva, _⟩ := hc
  obtain ⟨hm, hn⟩ := leaf_small hx
  dsimp only at e0 e1 e2 e3 hva
  obtain ⟨va, vcc, rfl⟩ := hT.bld.form
  rw [hm] at e3
  have HE : Hid (kd = x.kind ∧ p = x.path ∧ vn = x.n) := ⟨e0, e1, e2⟩
  rw [← e2] at hn
  have HV : Hid (ArgIs w va' vn x.N) := by rw [e2]; exact (hva.below h01).below hw
  have HT : Hid (TBldX w w1.heap.size X (.slice va k vcc) k (TL L) R) := hT
  have HX : Hid (∀ q, X q → q < w.heap.size) := hX
  have HW : Hid (Below w1.heap.size w1 w) := hw
  have HKL : Hid (k = L.length) := hkL
  subst e3
  clear hva hT hX hw hkL e0 e1 e2 hx hm h01
  simp only [Cl.size] at hz
  have a0 := as_alone_alone
  go_enter Tryz.func42, Tryz.ntmps42
  go_wp2_with fail
  have hal : ∀ o o', Below w.heap.size w ((w.alloc o).alloc o') := fun o o' => ((Below.refl _ _).alloc (Nat.le_refl _) o).alloc (by simp) o'
  refine (appendTerms_one w1.heap.size w _ (.slice va k vcc) k (TL L) (w.heap.size + 1) kd p va' vn vc' x.N ka kc X R HT.out HX.out HW.out.size (by omega) (hal _ _) (by simp) (by simp [go_sem]) (by simp [go_sem]) (by simp [go_sem]) (by simp [go_sem]) (HV.out.below (hal _ _)) (by omega)).mono ?_
  rintro e w2 ⟨v2, R3, rfl, hT2, hg2, ho2⟩
  obtain ⟨va3, vc3, rfl⟩ := hT2.bld.form
  have HT2 : Hid (TBldX w2 w1.heap.size X (.slice va3 (k + 1) vc3) (k + 1) (TL (L ++ [leafT x])) R3) := by
    show TBldX _ _ _ _ _ _ _
    have e : (⟨kd, p, vn, x.N, 0, fun _ => 0⟩ : Tm) = leafT x := by
      obtain ⟨e0, e1, e2⟩ := HE.out
      subst e0 e1 e2
      rfl
    rw [e, HKL.out, TL_snoc] at hT2
    rw [HKL.out]
    exact hT2
  have HG2 : Hid (w.grownBy w2 (Value.slice va k vcc).ownBlock ∧ Onward w (.slice va k vcc) (.slice va3 (k + 1) vc3)) := by
    refine ⟨grown_after (hal _ _) hg2, fun q hq => ?_⟩
    rcases ho2 q hq with h | h
    · exact .inl h
    · exact .inr (by simp at h; omega)
  clear hT2 hg2 ho2 hal
  go_wp2
  go_ret
  refine ⟨_, R3, rfl, ?_, HG2.out.1, HG2.out.2⟩
  have := HT2.out
  rw [Cl.emit, Cl.size]
  exact this

set_option maxRecDepth 100000 in
set_option maxHeartbeats 4000000 in
theorem appendClause_all (w0 w1 : World) (l : List Cl) (ih : ∀ c ∈ l, EmSaid w0 w1 c) : EmSaid w0 w1 (.all l) := by
  intro S vc w X v L k R hkL hc hw hT hX hz
  rw [ClIs] at hc
  obtain ⟨a, cc, rfl, hk⟩ := hc
  obtain ⟨va, vcc, rfl⟩ := hT.bld.form
  obtain ⟨n, hn⟩ : ∃ n, n = l.length := ⟨_, rfl⟩
  rw [← hn]
  simp only [Cl.size] at hz
  have hal : ∀ o, Below w.heap.size w (w.alloc o) := fun o => (Below.refl _ _).alloc (Nat.le_refl _) o
  have z1 := hw.size
  have HAK : Hid (∀ o, Calls Tryz.prog 71 #[.slice va k vcc, .int .i64 6, .slice a n cc] (w.alloc o) fun e w' => ∃ v' R', e = .returned v' ∧ TBldX w' w1.heap.size X v' (k + Cl.sizes l + 1) (TL (L ++ Cl.emits l k ++ [overT 6 (Cl.nums l k)])) R' ∧ (w.alloc o).grownBy w' (Value.slice va k vcc).ownBlock ∧ Onward (w.alloc o) (.slice va k vcc) v') := fun o => by
    refine appendKids_any w0 w1 (w.alloc o) S 6 a l n cc hn X (.slice va k vcc) L k R hkL (hw.trans ((hal o).mono z1)) (hT.below (hal o)) (fun q hq => by have := hX q hq; simp; omega) (by omega) (fun hn0 => ?_) ih
    rcases hk with h | ⟨g, e, h1, h2, h3⟩
    · rw [h] at hn; exact absurd hn hn0
    · refine ⟨g, e, fun j c hc wr _ hb => ?_⟩
      have zb := hb.size
      obtain ⟨u, hu, hcu⟩ := clsAt_iff.1 h3 j c hc
      rw [Nat.zero_add] at hu
      exact ⟨by omega, u, (hb.cell h2).trans hu, hcu⟩
  have HAL : Hid (∀ o, Below w.heap.size w (w.alloc o)) := hal
  clear hk hT hX hw ih hal hn hkL
  have a0 := as_allOf_alone
  have a1 := as_allOf_allOf
  go_enter Tryz.func42, Tryz.ntmps42
  go_wp2_with fail
  refine (HAK.out _).mono ?_
  rintro e w2 ⟨v2, R3, rfl, hT2, hg2, ho2⟩
  obtain ⟨va3, vc3, rfl⟩ := hT2.bld.form
  have HT2 : Hid (TBldX w2 w1.heap.size X (.slice va3 (k + Cl.sizes l + 1) vc3) (k + Cl.sizes l + 1) (TL (L ++ Cl.emits l k ++ [overT 6 (Cl.nums l k)])) R3) := hT2
  have HG2 : Hid (w.grownBy w2 (Value.slice va k vcc).ownBlock ∧ Onward w (.slice va k vcc) (.slice va3 (k + Cl.sizes l + 1) vc3)) := by
    refine ⟨grown_after (HAL.out _) hg2, fun q hq => ?_⟩
    rcases ho2 q hq with h | h
    · exact .inl h
    · exact .inr (by simp at h; omega)
  clear hT2 hg2 ho2
  go_wp2
  go_ret
  refine ⟨_, R3, rfl, ?_, HG2.out.1, HG2.out.2⟩
  have := HT2.out
  rw [Cl.emit, Cl.size, ← List.append_assoc]
  exact this

set_option maxRecDepth 100000 in
set_option maxHeartbeats 4000000 in
theorem appendClause_any' (w0 w1 : World) (l : List Cl) (ih : ∀ c ∈ l, EmSaid w0 w1 c) : EmSaid w0 w1 (.any l) := by
  intro S vc w X v L k R hkL hc hw hT hX hz
  rw [ClIs] at hc
  obtain ⟨a, cc, rfl, hk⟩ := hc
  obtain ⟨va, vcc, rfl⟩ := hT.bld.form
  obtain ⟨n, hn⟩ : ∃ n, n = l.length := ⟨_, rfl⟩
  rw [← hn]
  simp only [Cl.size] at hz
  have hal : ∀ o, Below w.heap.size w (w.alloc o) := fun o => (Below.refl _ _).alloc (Nat.le_refl _) o
  have z1 := hw.size
  have HAK : Hid (∀ o, Calls Tryz.prog 71 #[.slice va k vcc, .int .i64 7, .slice a n cc] (w.alloc o) fun e w' => ∃ v' R', e = .returned v' ∧ TBldX w' w1.heap.size X v' (k + Cl.sizes l + 1) (TL (L ++ Cl.emits l k ++ [overT 7 (Cl.nums l k)])) R' ∧ (w.alloc o).grownBy w' (Value.slice va k vcc).ownBlock ∧ Onward (w.alloc o) (.slice va k vcc) v') := fun o => by
    refine appendKids_any w0 w1 (w.alloc o) S 7 a l n cc hn X (.slice va k vcc) L k R hkL (hw.trans ((hal o).mono z1)) (hT.below (hal o)) (fun q hq => by have := hX q hq; simp; omega) (by omega) (fun hn0 => ?_) ih
    rcases hk with h | ⟨g, e, h1, h2, h3⟩
    · rw [h] at hn; exact absurd hn hn0
    · refine ⟨g, e, fun j c hc wr _ hb => ?_⟩
      have zb := hb.size
      obtain ⟨u, hu, hcu⟩ := clsAt_iff.1 h3 j c hc
      rw [Nat.zero_add] at hu
      exact ⟨by omega, u, (hb.cell h2).trans hu, hcu⟩
  have HAL : Hid (∀ o, Below w.heap.size w (w.alloc o)) := hal
  clear hk hT hX hw ih hal hn hkL
  have a0 := as_anyOf_alone
  have a1 := as_anyOf_allOf
  have a2 := as_anyOf_anyOf
  go_enter Tryz.func42, Tryz.ntmps42
  go_wp2_with fail
  refine (HAK.out _).mono ?_
  rintro e w2 ⟨v2, R3, rfl, hT2, hg2, ho2⟩
  obtain ⟨va3, vc3, rfl⟩ := hT2.bld.form
  have HT2 : Hid (TBldX w2 w1.heap.size X (.slice va3 (k + Cl.sizes l + 1) vc3) (k + Cl.sizes l + 1) (TL (L ++ Cl.emits l k ++ [overT 7 (Cl.nums l k)])) R3) := hT2
  have HG2 : Hid (w.grownBy w2 (Value.slice va k vcc).ownBlock ∧ Onward w (.slice va k vcc) (.slice va3 (k + Cl.sizes l + 1) vc3)) := by
    refine ⟨grown_after (HAL.out _) hg2, fun q hq => ?_⟩
    rcases ho2 q hq with h | h
    · exact .inl h
    · exact .inr (by simp at h; omega)
  clear hT2 hg2 ho2
  go_wp2
  go_ret
  refine ⟨_, R3, rfl, ?_, HG2.out.1, HG2.out.2⟩
  have := HT2.out
  rw [Cl.emit, Cl.size, ← List.append_assoc]
  exact this

set_option maxRecDepth 100000 in
set_option maxHeartbeats 4000000 in
theorem appendClause_neg (w0 w1 : World) (c : Cl) (ih : EmSaid w0 w1 c) : EmSaid w0 w1 (.neg c) := by
  intro S vc w X v L k R hkL hc hw hT hX hz
  rw [ClIs] at hc
  obtain ⟨u, rfl, hc⟩ := hc
  obtain ⟨T, y, rfl⟩ := hc.form
  obtain ⟨va, vcc, rfl⟩ := hT.bld.form
  simp only [Cl.size] at hz
  have hal : ∀ o o', Below w.heap.size w ((w.alloc o).alloc o') := fun o o' => ((Below.refl _ _).alloc (Nat.le_refl _) o).alloc (by simp) o'
  have z1 := hw.size
  have HAK : Hid (∀ o t, Calls Tryz.prog 71 #[.slice va k vcc, .int .i64 8, .slice (some ⟨w.heap.size + 1, 0, none⟩) 1 1] ((w.alloc o).alloc (.cells #[.iface T y] t)) fun e w' => ∃ v' R', e = .returned v' ∧ TBldX w' w1.heap.size X v' (k + Cl.sizes [c] + 1) (TL (L ++ Cl.emits [c] k ++ [overT 8 (Cl.nums [c] k)])) R' ∧ ((w.alloc o).alloc (.cells #[.iface T y] t)).grownBy w' (Value.slice va k vcc).ownBlock ∧ Onward ((w.alloc o).alloc (.cells #[.iface T y] t)) (.slice va k vcc) v') := fun o t => by
    refine appendKids_any w0 w1 _ S 8 _ [c] 1 1 rfl X (.slice va k vcc) L k R hkL (hw.trans ((hal o _).mono z1)) (hT.below (hal o _)) (fun q hq => by have := hX q hq; simp; omega) (by simp only [Cl.sizes]; omega) (fun _ => ⟨w.heap.size + 1, rfl, fun j c' hc' wr hwr _ => ?_⟩) (fun c' hc' => by simp at hc'; subst hc'; exact ih)
    have hj : j = 0 := by
      have := (List.getElem?_eq_some_iff.1 hc').1
      simp at this
      exact this
    subst hj
    simp at hc'
    subst hc'
    rw [hwr rfl]
    exact ⟨by simp, .iface T y, by simp [go_sem], hc⟩
  have HAL : Hid (∀ o o', Below w.heap.size w ((w.alloc o).alloc o')) := hal
  clear hT hX hw ih hal hkL hc
  have a0 := as_notOf_alone
  have a1 := as_notOf_allOf
  have a2 := as_notOf_anyOf
  have a3 := as_notOf_notOf
  go_enter Tryz.func42, Tryz.ntmps42
  go_wp2_with fail
  refine (HAK.out _ _).mono ?_
  rintro e w2 ⟨v2, R3, rfl, hT2, hg2, ho2⟩
  obtain ⟨va3, vc3, rfl⟩ := hT2.bld.form
  have HT2 : Hid (TBldX w2 w1.heap.size X (.slice va3 (k + Cl.sizes [c] + 1) vc3) (k + Cl.sizes [c] + 1) (TL (L ++ Cl.emits [c] k ++ [overT 8 (Cl.nums [c] k)])) R3) := hT2
  have HG2 : Hid (w.grownBy w2 (Value.slice va k vcc).ownBlock ∧ Onward w (.slice va k vcc) (.slice va3 (k + Cl.sizes [c] + 1) vc3)) := by
    refine ⟨grown_after (HAL.out _ _) hg2, fun q hq => ?_⟩
    rcases ho2 q hq with h | h
    · exact .inl h
    · exact .inr (by simp at h; omega)
  clear hT2 hg2 ho2
  go_wp2
  go_ret
  refine ⟨_, R3, rfl, ?_, HG2.out.1, HG2.out.2⟩
  have := HT2.out
  rw [Cl.emit, Cl.size, ← List.append_assoc]
  simpa [Cl.sizes, Cl.emits, Cl.nums, Nat.add_assoc] using this

theorem appendClause_any (w0 w1 : World) (h01 : Below w0.heap.size w0 w1) : ∀ (s : Nat) (c : Cl), c.size ≤ s → c.ok → EmSaid w0 w1 c := by
  intro s
  induction s with
  | zero => intro c h; have := Cl.size_one c; omega
  | succ s ih =>
    intro c hs hok
    cases c with
    | leaf x => rw [Cl.ok] at hok; exact appendClause_leaf w0 w1 h01 x hok
    | all l =>
      simp only [Cl.size] at hs
      rw [Cl.ok, Cl.oks_iff] at hok
      exact appendClause_all w0 w1 l fun c hc => by
        have := Cl.size_in hc
        exact ih c (by omega) (hok c hc)
    | any l =>
      simp only [Cl.size] at hs
      rw [Cl.ok, Cl.oks_iff] at hok
      exact appendClause_any' w0 w1 l fun c hc => by
        have := Cl.size_in hc
        exact ih c (by omega) (hok c hc)
    | neg c =>
      simp only [Cl.size] at hs
      rw [Cl.ok] at hok
      exact appendClause_neg w0 w1 c (ih c (by omega) hok)

end Go.Proofs.YtjohocnfcnjciaaGreatDoor
namespace Go.Proofs.YtjohocnfcnjciaaGreatDoor
open Go.RowKit
set_option linter.unusedVariables false

/-- The clause of a whole filter, made plain. -/
def plC (F : Nat → Tm) (t : Nat) : Cl := (clF F t (t - 1)).plain
theorem plC_facts {F : Nat → Tm} {t : Nat} (h : GoodF F t) : (clF F t (t - 1)).ok ∧ (clF F t (t - 1)).size ≤ 2 ^ 19 ∧ (plC F t).ok ∧ (plC F t).size ≤ 2 ^ 20 := by
  have ht := h.1
  have h1 := clF_ok h t (t - 1) (by omega) (by omega)
  have h2 := clF_size h t (t - 1) (by omega) (by omega)
  have h3 : (2 : Nat) ^ (t - 1) ≤ 2 ^ 19 := Nat.pow_le_pow_right (by decide) (by omega)
  have h4 := (Cl.plain_size (clF F t (t - 1))).1
  have h5 := (Cl.plain_ok _ h1).1
  refine ⟨h1, by omega, h5, ?_⟩
  show (clF F t (t - 1)).plain.size ≤ 2 ^ 20
  omega
theorem good_ahead {F : Nat → Tm} {t : Nat} (h : GoodF F t) (hs : SmallF t F) : Ahead F t :=
  ⟨fun i hi j hj => ((h.2.1 i hi).2 j hj).1, fun i hi h8 => by rw [not_one h hi h8]; decide, fun i hi => (hs.2 i hi).2.2⟩

set_option maxRecDepth 100000 in
set_option maxHeartbeats 2000000 in
theorem clauseOf_any (w0 : World) (a : Option Addr) (c t : Nat) (F : Nat → Tm) (hF : FArg w0 a t F) (hA : Ahead F t) (ht : t ≤ 2 ^ 20) (ht0 : 0 < t) (w : World) (hw : Below w0.heap.size w0 w) :
    Calls Tryz.prog 37 #[.agg #[.slice a t c]] w fun e w' => ∃ T y, e = .returned (.iface T y) ∧ ClIs w0 w' (fun b => w.heap.size ≤ b) (clF F t (t - 1)) (.iface T y) ∧ Below w.heap.size w w' := by
  have hal : ∀ o, Below w.heap.size w (w.alloc o) := fun o => (Below.refl _ _).alloc (Nat.le_refl _) o
  have HC : Hid (∀ o, Calls Tryz.prog 66 #[.slice a t c, .int .i64 ((t : Int) - 1)] (w.alloc o) fun e w' => ∃ T y, e = .returned (.iface T y) ∧ ClIs w0 w' (fun b => w.heap.size ≤ b) (clF F t (t - 1)) (.iface T y) ∧ Below w.heap.size w w') := fun o => by
    have h := clauseAt_any w0 a c t F hF hA ht (t - 1) (by omega) (w.alloc o) (hw.trans ((hal o).mono hw.size))
    rw [show (((t - 1 : Nat)) : Int) = (t : Int) - 1 by omega, show t - 1 + 1 = t by omega] at h
    refine h.mono ?_
    rintro e w' ⟨v, rfl, hc, hb⟩
    obtain ⟨T, y, rfl⟩ := hc.form
    exact ⟨T, y, rfl, ClIs.keep (fun b _ _ => rfl) (fun b hb _ => by simp at hb; omega) (Nat.le_refl _) _ _ hc, (hal o).trans (hb.mono (by simp))⟩
  clear hF hA hw hal
  go_enter Tryz.func37, Tryz.ntmps37
  go_wp2_with fail
  refine (HC.out _).mono ?_
  rintro e w1 ⟨T, y, rfl, hc, hb⟩
  have HR : Hid (ClIs w0 w1 (fun b => w.heap.size ≤ b) (clF F t (t - 1)) (.iface T y) ∧ Below w.heap.size w w1) := ⟨hc, hb⟩
  clear hc hb
  go_wp2
  go_ret
  exact ⟨T, y, rfl, HR.out.1, HR.out.2⟩

/-- WHAT PlainFilter ANSWERS. -/
def PlIs (F : Nat → Tm) (t : Nat) (w : World) (e : Ending) (w' : World) : Prop := ∃ u q, ((GoodF F t ∧ (plC F t).size ≤ 20 ∧ u = (plC F t).size ∧ q = true) ∨ (¬ (GoodF F t ∧ (plC F t).size ≤ 20) ∧ u = 0 ∧ q = false)) ∧ FlIs (TL ((plC F t).emit 0)) u q w e w'
theorem PlIs.no {F : Nat → Tm} {t : Nat} {w w' : World} (h : ¬ (GoodF F t ∧ (plC F t).size ≤ 20)) (hb : Below w.heap.size w w') : PlIs F t w (.returned (.tuple #[.agg #[.slice none 0 0], .bool false])) w' := ⟨0, false, .inr ⟨h, rfl, rfl⟩, FlIs.no _ hb⟩
theorem PlIs.yes {F : Nat → Tm} {t B u : Nat} {w w1 w' : World} {a : Option Addr} {c r : Nat} {x : Value} (h : GoodF F t) (h20 : u ≤ 20) (hu : u = (plC F t).size) (hB : w.heap.size ≤ B) (hT : TBld w1 B (.slice a u c) u (TL ((plC F t).emit 0))) (hw : w' = w1.setCell ⟨r, 0, none⟩ x) (hr : r < B) (hb : Below w.heap.size w w') : PlIs F t w (.returned (.tuple #[.agg #[.slice a u c], .bool true])) w' := by
  obtain ⟨a', c', b, P, Q, e, _, h1, h2, h3⟩ := hT.own (by omega)
  injection e with e1 _ e3
  subst e1 e3
  have hz : w'.heap.size = w1.heap.size := by rw [hw]; simp [World.setCell]
  have hp := Cl.size_one (plC F t)
  have hb1 := h1 (by omega)
  refine ⟨u, true, .inl ⟨h, by omega, hu, rfl⟩, a, c, b, P, Q, rfl, fun _ => ⟨by omega, by omega⟩, fun i hi => by have := h2 i hi; omega, ?_, hb⟩
  rw [hw]
  exact h3.but (g := r) (BelowBut.setCell _ _ _) (by omega) (fun i hi => .inl (by have := h2 i hi; omega))

set_option maxRecDepth 100000 in
set_option maxHeartbeats 4000000 in
theorem implPlain_any (a : Option Addr) (c t : Nat) (F : Nat → Tm) (w : World) (h : FArg w a t F) (hs : SmallF t F) (htab : Tab w.heap.size w) (hml : ML w) :
    Calls Tryz.prog 15 #[.agg #[.slice a t c]] w (PlIs F t w) := by
  have H : Hid (FArg w a t F) := h
  have HS : Hid (SmallF t F) := hs
  have HT : Hid (Tab w.heap.size w) := htab
  have HML : Hid (ML w) := hml
  clear h hs htab hml
  go_enter Tryz.func15, Tryz.ntmps15
  go_wp2_with fail
  obtain ⟨W, hW⟩ : ∃ W, W = (w.alloc (.cells #[.slice a t c] 34)).alloc (.cells #[.slice none 0 0] 34) := ⟨_, rfl⟩
  have bW : Below w.heap.size w W := by rw [hW]; exact ((Below.refl _ _).alloc (Nat.le_refl _) _).alloc (by simp) _
  have zW : w.heap.size + 1 < W.heap.size := by rw [hW]; simp
  have zW' : w.heap.size < W.heap.size := by omega
  have f0 : W.cell? ⟨w.heap.size, 0, none⟩ = some (.slice a t c) := by rw [hW]; simp [go_sem]
  have r0 : W.cell? ⟨w.heap.size + 1, 0, none⟩ = some (.slice none 0 0) := by rw [hW]; simp [go_sem]
  have fr0 : W.frozen? ⟨w.heap.size + 1, 0, none⟩ = false := by rw [hW]; simp [go_sem]
  have HFW : Hid (FArg W a t F) := H.out.below bW
  have HBW : Hid (Below w.heap.size w W) := bW
  rw [← hW]
  clear hW
  refine (implGoodF_any a c t F W HFW.out HS.out (HT.out.up bW) (HML.out.below bW)).mono ?_
  rintro e w1 ⟨q, rfl, hq, hb1⟩
  have z1 := hb1.size
  have f1 : w1.cell? ⟨w.heap.size, 0, none⟩ = some (.slice a t c) := (hb1.cell zW').trans f0
  have r1 : w1.cell? ⟨w.heap.size + 1, 0, none⟩ = some (.slice none 0 0) := (hb1.cell zW).trans r0
  have fr1 : w1.frozen? ⟨w.heap.size + 1, 0, none⟩ = false := (hb1.frozen zW).trans fr0
  have HB1 : Hid (Below W.heap.size W w1) := hb1
  clear hb1 bW f0 r0 fr0
  cases q with
  | false =>
    have HN : Hid (¬ (GoodF F t ∧ (plC F t).size ≤ 20)) := fun h => by simpa using hq.2 h.1
    have HB2 : Hid (Below w.heap.size w w1) := HBW.out.trans (HB1.out.mono HBW.out.size)
    clear hq
    go_wp2
    exact bodyPost_ret (v := .tuple #[.agg #[.slice none 0 0], .bool false]) (by simp [results, Tryz.results15, go_sem, r1]) rfl (PlIs.no HN.out (HB2.out.setCell (by simp) _))
  | true =>
    have hg := hq.1 rfl
    have ht20 := hg.1
    have HG : Hid (GoodF F t) := hg
    have HP : Hid ((clF F t (t - 1)).ok ∧ (clF F t (t - 1)).size ≤ 2 ^ 19 ∧ (plC F t).ok ∧ (plC F t).size ≤ 2 ^ 20) := plC_facts hg
    have HAH : Hid (Ahead F t) := good_ahead hg HS.out
    clear hq hg
    go_wp2_with fail
    refine (clauseOf_any W a c t F HFW.out HAH.out (by omega) (by omega) w1 HB1.out).mono ?_
    rintro e w2 ⟨T2, y2, rfl, hc2, hb2⟩
    have z2 := hb2.size
    have r2 : w2.cell? ⟨w.heap.size + 1, 0, none⟩ = some (.slice none 0 0) := (hb2.cell (by show w.heap.size + 1 < _; omega)).trans r1
    have fr2 : w2.frozen? ⟨w.heap.size + 1, 0, none⟩ = false := (hb2.frozen (by show w.heap.size + 1 < _; omega)).trans fr1
    have HB2 : Hid (Below W.heap.size W w2) := HB1.out.trans (hb2.mono HB1.out.size)
    have HC2 : Hid (ClIs W w2 (fun b => w1.heap.size ≤ b) (clF F t (t - 1)) (.iface T2 y2)) := hc2
    clear hc2 hb2 f1 r1 fr1
    go_wp2_with fail
    refine ((turn_any W _ _ (Nat.le_refl _) (by have := HP.out.2.1; omega)).1 w2 _ _ HB2.out HC2.out).mono ?_
    rintro e w3 ⟨v3, rfl, hc3, hb3⟩
    obtain ⟨T3, y3, rfl⟩ := hc3.form
    have z3 := hb3.size
    have r3 : w3.cell? ⟨w.heap.size + 1, 0, none⟩ = some (.slice none 0 0) := (hb3.cell (by show w.heap.size + 1 < _; omega)).trans r2
    have fr3 : w3.frozen? ⟨w.heap.size + 1, 0, none⟩ = false := (hb3.frozen (by show w.heap.size + 1 < _; omega)).trans fr2
    have HB3 : Hid (Below W.heap.size W w3) := HB2.out.trans (hb3.mono HB2.out.size)
    have HC3 : Hid (ClIs W w3 (fun b => w2.heap.size ≤ b) (plC F t) (.iface T3 y3)) := hc3
    clear hc3 hb3 r2 fr2 HC2
    go_wp2_with fail
    refine (appendClause_any W w3 HB3.out _ (plC F t) (Nat.le_refl _) HP.out.2.2.1 (fun b => w2.heap.size ≤ b) (.iface T3 y3) w3 (fun _ => False) (.slice none 0 0) [] 0 (fun _ => zeroTc) rfl HC3.out (Below.refl _ _) (TBldX.nil _ _ _ _) (fun q h => h.elim) (by have := HP.out.2.2.2; omega)).mono ?_
    rintro e w4 ⟨v4, R4, rfl, hT4, hg4, _⟩
    obtain ⟨u, hu⟩ : ∃ u, u = (plC F t).size := ⟨_, rfl⟩
    rw [← hu, Nat.zero_add, List.nil_append] at hT4
    have hT4b := hT4.bld
    obtain ⟨a4, c4, rfl⟩ := hT4b.form
    have hb4 : Below w3.heap.size w3 w4 := (Below.refl _ _).grown hg4 (Nat.le_refl _) (fun b hb => by simp [Value.ownBlock] at hb)
    have z4 := hb4.size
    have r4 : w4.cell? ⟨w.heap.size + 1, 0, none⟩ = some (.slice none 0 0) := (hb4.cell (by show w.heap.size + 1 < _; omega)).trans r3
    have fr4 : w4.frozen? ⟨w.heap.size + 1, 0, none⟩ = false := (hb4.frozen (by show w.heap.size + 1 < _; omega)).trans fr3
    have HB4 : Hid (Below W.heap.size W w4) := HB3.out.trans (hb4.mono HB3.out.size)
    have HT4 : Hid (TBld w4 w3.heap.size (.slice a4 u c4) u (TL ((plC F t).emit 0))) := hT4b
    have HU : Hid (u = (plC F t).size ∧ u ≤ 2 ^ 20) := ⟨hu, by rw [hu]; exact HP.out.2.2.2⟩
    have u20 : u ≤ 2 ^ 20 := HU.out.2
    clear hT4 hT4b hg4 hb4 hu r3 fr3 HC3
    go_wp2_with fail
    by_cases h20 : u ≤ 20
    · refine (filterOf_any w3.heap.size _ u _ _ HT4.out h20).mono ?_
      rintro e w5 ⟨⟨a5, c5, e5, rfl⟩, hb5⟩
      injection e5 with e6 _ e7
      subst e6 e7
      have r5 : w5.cell? ⟨w.heap.size + 1, 0, none⟩ = some (.slice none 0 0) := (hb5.cell (by show w.heap.size + 1 < _; omega)).trans r4
      have fr5 : w5.frozen? ⟨w.heap.size + 1, 0, none⟩ = false := (hb5.frozen (by show w.heap.size + 1 < _; omega)).trans fr4
      have HT5 : Hid (TBld w5 w3.heap.size (.slice a4 u c4) u (TL ((plC F t).emit 0))) := HT4.out.below hb5
      have HB5 : Hid (Below w.heap.size w w5) := HBW.out.trans ((HB4.out.trans (hb5.mono HB4.out.size)).mono HBW.out.size)
      clear hb5 r4 fr4 HT4
      go_wp2
      exact bodyPost_ret (v := .tuple #[.agg #[.slice a4 u c4], .bool true]) (by simp [results, Tryz.results15, go_sem, r5]) rfl (PlIs.yes HG.out h20 HU.out.1 (by omega) HT5.out rfl (by omega) (HB5.out.setCell (by simp) _))
    · refine (filterOf_no a4 u c4 _ (by omega) (by omega)).mono ?_
      rintro e w5 ⟨rfl, hb5⟩
      have r5 : w5.cell? ⟨w.heap.size + 1, 0, none⟩ = some (.slice none 0 0) := (hb5.cell (by show w.heap.size + 1 < _; omega)).trans r4
      have fr5 : w5.frozen? ⟨w.heap.size + 1, 0, none⟩ = false := (hb5.frozen (by show w.heap.size + 1 < _; omega)).trans fr4
      have HB5 : Hid (Below w.heap.size w w5) := HBW.out.trans ((HB4.out.trans (hb5.mono HB4.out.size)).mono HBW.out.size)
      clear hb5 r4 fr4 HT4
      go_wp2
      exact bodyPost_ret (v := .tuple #[.agg #[.slice none 0 0], .bool false]) (by simp [results, Tryz.results15, go_sem, r5]) rfl (PlIs.no (fun h => h20 (by rw [HU.out.1]; exact h.2)) (HB5.out.setCell (by simp) _))

end Go.Proofs.YtjohocnfcnjciaaGreatDoor
