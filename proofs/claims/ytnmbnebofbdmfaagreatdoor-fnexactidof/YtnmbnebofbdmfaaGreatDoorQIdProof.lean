/- The id of a document: what IdOf answers. No program in this text. The id of a document by the specification. What a path leads to: the program and the specification. IdOf by the specification. The id of a document by the program. FnExactIdOf answers true at every value: IdOf answers as the specification, writes into nothing, and its answer is its own. FnExactIdOf: for every value the law answers true and its arguments read as they did; the library's tables are tied to its text by the card. No other condition. -/
import Derived.Test.YtnmbnebofbdmfaaGreatDoorQSubW0
import Derived.Lib.ItoaNum
import Derived.Test.YtnmbnebofbdmfaaGreatDoorQHasA
import Derived.Test.YtnmbnebofbdmfaaGreatDoorQSubL
import Derived.Test.YtnmbnebofbdmfaaGreatDoorVals
import Derived.Test.YtnmbnebofbdmfaaGreatDoorToC
import Derived.Test.YtnmbnebofbdmfaaGreatDoorQFrameS
namespace Go.Proofs.YtnmbnebofbdmfaaGreatDoor
open Go.RowKit
set_option linter.unusedVariables false

def idN : ByteArray := ⟨#[95, 105, 100]⟩
def idP : ByteArray := ⟨#[47, 95, 105, 100]⟩
theorem idP_some : (namesL idP.data.toList).isSome = true := by kernel_rfl
theorem idP_names : nmsL idP = [idN] := by kernel_rfl
/-- A number or a text. -/
def FlatK (k : Int) : Prop := k = 4 ∨ k = 5
/-- Where the id stands. -/
def idAt (N : Nat → Nd) (n : Nat) : Option Nat := findP (partsTo N 0 n) idN
theorem go_id (N : Nat → Nd) (n : Nat) : goN N n 0 (nmsL idP) = idAt N n := by
  rw [idP_names, goN]
  show (idAt N n).bind _ = _
  cases idAt N n with
  | none => rfl
  | some p => rfl
theorem digits_no (i : Nat) (h : i < 100) : ((strL (Lib.decDigits i)).toList == idN.toList) = false := by
  have e : (strL (Lib.decDigits i)).toList = Lib.decDigits i := by unfold strL; rw [ByteArray.toList_eq]
  have e2 : idN.toList = [95, 105, 100] := by kernel_rfl
  rw [e, e2]
  by_cases h1 : i < 10
  · rw [Lib.decDigits_one h1]
    simp
  · rw [Lib.decDigits_two h1 h]
    simp
/-- Of what is no map, no part is named so. -/
theorem at_map {k : Int} {nm : List ByteArray} {m : Nat} (hk : k ≠ 7) (hm : m ≤ 100) : atI k nm idN m = none := by
  refine atI_none fun j hj => ?_
  unfold hitI
  rw [digits_no j (by omega)]
  simp [hk]
theorem id_at {N : Nat → Nd} {n : Nat} (hg : GoodV N n) : idAt N n = (atI (N 0).kind (kidNames N 0 (kidsTo N 0 n)) idN (kidsTo N 0 n).length).bind fun i => (kidsTo N 0 n)[i]? := find_at hg idN

/-- WHAT IdOf ANSWERS. -/
def IdTold (N : Nat → Nd) (n : Nat) (q : Bool) (L : List Nd) : Prop := (q = true ∧ GoodV N n ∧ ∃ k e, idAt N n = some k ∧ FlatK (N k).kind ∧ IsEnd N n k e ∧ L = subTo N k e) ∨ (q = false ∧ ¬ (GoodV N n ∧ ∃ k, idAt N n = some k ∧ FlatK (N k).kind) ∧ L = [])
theorem IdTold.same {N : Nat → Nd} {n : Nat} {q r : Bool} {L M : List Nd} (h : IdTold N n q L) (k : IdTold N n r M) : q = r ∧ L = M := by
  rcases h with ⟨rfl, g, x, e, hx, hf, he, rfl⟩ | ⟨rfl, g, rfl⟩ <;> rcases k with ⟨rfl, g', x', e', hx', hf', he', rfl⟩ | ⟨rfl, g', rfl⟩
  · obtain rfl : x = x' := Option.some.inj (hx.symm.trans hx')
    obtain rfl := end_unique he he'
    exact ⟨rfl, rfl⟩
  · exact absurd ⟨g, x, hx, hf⟩ g'
  · exact absurd ⟨g', x', hx', hf'⟩ g
  · exact ⟨rfl, rfl⟩
def IdIs (N : Nat → Nd) (n : Nat) (w : World) (e : Ending) (w' : World) : Prop :=
  ∃ v q b L, e = .returned (.tuple #[.agg #[v], .bool q]) ∧ IdTold N n q L ∧ (L ≠ [] → w.heap.size ≤ b ∧ b < w'.heap.size) ∧ OwnAt w' b v L.length (fun i => L.getD i ⟨0, 0, ⟨#[]⟩, ⟨#[]⟩, 0⟩) ∧ Below w.heap.size w w'
theorem IdIs.no {N : Nat → Nd} {n : Nat} {w w' : World} (h : ¬ (GoodV N n ∧ ∃ k, idAt N n = some k ∧ FlatK (N k).kind)) (hb : Below w.heap.size w w') : IdIs N n w (.returned (.tuple #[.agg #[.slice none 0 0], .bool false])) w' :=
  ⟨_, _, 0, [], rfl, .inr ⟨rfl, h, rfl⟩, fun h => absurd rfl h, ⟨none, 0, 0, rfl, by decide, .inl rfl⟩, hb⟩
theorem IdIs.yes {N : Nat → Nd} {n k e B : Nat} {w w' : World} {v : Value} (h : GoodV N n) (hk : idAt N n = some k) (hf : FlatK (N k).kind) (he : IsEnd N n k e) (hB : w.heap.size ≤ B) (hn : n ≤ 2 ^ 20) (ho : OwnsN w' B v (subTo N k e)) (hb : Below w.heap.size w w') : IdIs N n w (.returned (.tuple #[.agg #[v], .bool true])) w' := by
  obtain ⟨b, h1, h2⟩ := ho.own (by rw [subTo_len]; have := he.2.1; omega)
  exact ⟨v, true, b, subTo N k e, rfl, .inl ⟨rfl, h, k, e, hk, hf, he, rfl⟩, fun hn => ⟨Nat.le_trans hB (h1 hn).1, (h1 hn).2⟩, h2, hb⟩
theorem sub_head (N : Nat → Nd) (k e : Nat) : ((subTo N k e).getD 0 ⟨0, 0, ⟨#[]⟩, ⟨#[]⟩, 0⟩).kind = (N k).kind := rfl
end Go.Proofs.YtnmbnebofbdmfaaGreatDoor
namespace Go.Proofs.YtnmbnebofbdmfaaGreatDoor
open Go.RowKit
set_option linter.unusedVariables false

set_option maxHeartbeats 400000 in
theorem l8Flat_any (k n : Int) (t : ByteArray) (x y : Value) (w : World) : Calls Tryz.prog 26 #[.agg #[.int .i64 k, .int .i64 n, .string t, x, y]] w fun e w' => ∃ q : Bool, e = .returned (.bool q) ∧ (q = true ↔ FlatK k) ∧ Below w.heap.size w w' := by
  by_cases h4 : k = 4
  · subst h4
    go_enter Tryz.func26, Tryz.ntmps26
    go_wp2
    go_ret
    exact ⟨true, rfl, by simp [FlatK], by go_grown⟩
  by_cases h5 : k = 5
  · subst h5
    go_enter Tryz.func26, Tryz.ntmps26
    go_wp2
    go_ret
    exact ⟨true, rfl, by simp [FlatK], by go_grown⟩
  have e4 : (k == 4) = false := by simpa using h4
  have e5 : (k == 5) = false := by simpa using h5
  go_enter Tryz.func26, Tryz.ntmps26
  go_wp2
  go_ret
  exact ⟨false, by first | rfl | simp [e4, e5], by simp [FlatK, h4, h5], by go_grown⟩

/-- Where the id of a tree stands. -/
def idT (t : Tr) : Option Tr := if t.kind = 7 then (atI t.kind t.names idN t.kids.length).bind fun i => t.kids[i]? else none
/-- WHAT l8Id ANSWERS. -/
def IdGot (t : Tr) (w : World) (e : Ending) (w' : World) : Prop :=
  ∃ (q : Bool) (k n : Int) (tx : ByteArray) (an : Option Addr) (mn cn : Nat) (ak : Option Addr) (mk' ck : Nat), e = .returned (.tuple #[.agg #[.int .i64 k, .int .i64 n, .string tx, .slice an mn cn, .slice ak mk' ck], .bool q]) ∧
    ((q = true ∧ ∃ x, idT t = some x ∧ FlatK x.kind ∧ Tree w' x (.agg #[.int .i64 k, .int .i64 n, .string tx, .slice an mn cn, .slice ak mk' ck])) ∨ (q = false ∧ ¬ ∃ x, idT t = some x ∧ FlatK x.kind)) ∧ Below w.heap.size w w'

set_option maxRecDepth 100000 in
set_option maxHeartbeats 2000000 in
theorem l8Id_any (t : Tr) (v : Value) (w : World) (h : Tree w t v) (hnd : t.named) (hc : t.cnt ≤ 2 ^ 20) :
    Calls Tryz.prog 13 #[v] w (IdGot t w) := by
  obtain ⟨k, n, tx, nm, ks⟩ := t
  obtain ⟨an, cn, ak, ck, rfl⟩ := h.head
  dsimp only [Tr.kind, Tr.num, Tr.text, Tr.names, Tr.kids] at h ⊢
  have HT : Hid (Tree w (.mk k n tx nm ks) (.agg #[.int .i64 k, .int .i64 n, .string tx, .slice an nm.length cn, .slice ak ks.length ck])) := h
  have hkl : ks.length ≤ 2 ^ 20 := by
    have h1 := Tr.len_cnts ks
    rw [Tr.cnt] at hc
    omega
  have hnm7 : k = 7 → nm.length = ks.length := by
    rw [Tr.named] at hnd
    exact hnd.1
  have HN7 : Hid (k = 7 → nm.length = ks.length) := hnm7
  clear h hnd hc hnm7
  by_cases h7 : k = 7
  case neg =>
    have e7 : (k == 7) = false := by simpa using h7
    have HN : Hid (¬ ∃ x, idT (.mk k n tx nm ks) = some x ∧ FlatK x.kind) := fun ⟨x, hx, _⟩ => by simp [idT, Tr.kind, h7] at hx
    go_enter Tryz.func13, Tryz.ntmps13
    go_wp2_with fail
    exact bodyPost_ret (v := .tuple #[.agg #[.int .i64 0, .int .i64 0, .string ⟨#[]⟩, .slice none 0 0, .slice none 0 0], .bool false]) (by simp [results, Tryz.results13, go_sem]) rfl ⟨false, _, _, _, _, _, _, _, _, _, rfl, .inr ⟨rfl, HN.out⟩, ((Below.refl _ _).alloc (Nat.le_refl _) _).alloc (by simp) _⟩
  subst h7
  go_enter Tryz.func13, Tryz.ntmps13
  go_wp2_with fail
  have hbl : ∀ o o', Below w.heap.size w ((w.alloc o).alloc o') := fun o o' => ((Below.refl _ _).alloc (Nat.le_refl _) o).alloc (by simp) o'
  refine (show Calls Tryz.prog 25 #[_, .string ⟨#[95, 105, 100]⟩] _ _ from l3At_any 7 n tx nm ks _ idN _ (HT.out.below (hbl _ _)) (fun _ => HN7.out trivial) hkl).mono ?_
  rintro e w1 ⟨rfl, hb1⟩
  have zR : w.heap.size + 1 < w1.heap.size := by have := hb1.size; simp at this; omega
  have HB1 : Hid (Below w.heap.size w w1) := (hbl _ _).trans (hb1.mono (by simp; omega))
  have hF := (fiveAt_new w (.int .i64 7) (.int .i64 n) (.string tx) (.slice an nm.length cn) (.slice ak ks.length ck) 40).below (((Below.refl _ _).alloc (Nat.le_refl _) (.cells #[.int .i64 0, .int .i64 0, .string ⟨#[]⟩, .slice none 0 0, .slice none 0 0] 40)).trans (hb1.mono (by simp))) (by simp)
  have hR := fiveAt_new (w.alloc (.cells #[.int .i64 7, .int .i64 n, .string tx, .slice an nm.length cn, .slice ak ks.length ck] 40)) (.int .i64 0) (.int .i64 0) (.string ⟨#[]⟩) (.slice none 0 0) (.slice none 0 0) 40
  rw [World.size_alloc] at hR
  have hR := hR.below hb1 (by simp)
  obtain ⟨⟨u0, u1, u2, u3, u4⟩, p0, p1, p2, p3, p4⟩ := id hF
  obtain ⟨⟨v0, v1, v2, v3, v4⟩, q0, q1, q2, q3, q4⟩ := id hR
  have HR : Hid (FiveAt w1 (w.heap.size + 1) (.int .i64 0) (.int .i64 0) (.string ⟨#[]⟩) (.slice none 0 0) (.slice none 0 0)) := hR
  clear hb1 hF hR hbl
  cases hat : atI 7 nm idN ks.length with
  | none =>
    have HN : Hid (¬ ∃ x, idT (.mk 7 n tx nm ks) = some x ∧ FlatK x.kind) := fun ⟨x, hx, _⟩ => by simp [idT, Tr.kind, Tr.names, Tr.kids, hat] at hx
    have hlt0 : (-1 : Int) < 0 := by decide
    rw [show atV none = (-1 : Int) from rfl]
    have HQ := HR.out.set (.int .i64 0) (.int .i64 0) (.string ⟨#[]⟩) (.slice none 0 0) (.slice none 0 0)
    obtain ⟨⟨⟨s0, s1, s2, s3, s4⟩, _⟩, hbb⟩ := id HQ
    have HBF : Hid (Below w.heap.size w (((((w1.setCell ⟨w.heap.size + 1, 0, none⟩ (.int .i64 0)).setCell ⟨w.heap.size + 1, 1, none⟩ (.int .i64 0)).setCell ⟨w.heap.size + 1, 2, none⟩ (.string ⟨#[]⟩)).setCell ⟨w.heap.size + 1, 3, none⟩ (.slice none 0 0)).setCell ⟨w.heap.size + 1, 4, none⟩ (.slice none 0 0))) := HB1.out.trans ((hbb w.heap.size).below (Nat.le_refl _) (by omega))
    clear HQ hbb
    go_wp2_with fail
    exact bodyPost_ret (v := .tuple #[.agg #[.int .i64 0, .int .i64 0, .string ⟨#[]⟩, .slice none 0 0, .slice none 0 0], .bool false]) (by simp [results, Tryz.results13, go_sem, s0, s1, s2, s3, s4]) rfl ⟨false, _, _, _, _, _, _, _, _, _, rfl, .inr ⟨rfl, HN.out⟩, HBF.out⟩
  | some j =>
    have hjl : j < ks.length := atI_lt hat
    obtain ⟨x, hx⟩ : ∃ x, ks[j]? = some x := ⟨ks[j], List.getElem?_eq_getElem hjl⟩
    have HX : Hid (idT (.mk 7 n tx nm ks) = some x) := by show _ = _; simp [idT, Tr.kind, Tr.names, Tr.kids, hat, hx]
    obtain ⟨g, rfl, hgl, hkid⟩ := Tree.kid (t := .mk 7 n tx nm ks) HT.out hx
    obtain ⟨an2, cn2, ak2, ck2, _, _, _, _, _, htr⟩ := hkid.cells
    obtain ⟨c0, c1, c2, c3, c4⟩ : w1.cell? ⟨g, j * 5, none⟩ = some (.int .i64 x.kind) ∧ w1.cell? ⟨g, j * 5 + 1, none⟩ = some (.int .i64 x.num) ∧ w1.cell? ⟨g, j * 5 + 2, none⟩ = some (.string x.text) ∧ w1.cell? ⟨g, j * 5 + 3, none⟩ = some (.slice an2 x.names.length cn2) ∧ w1.cell? ⟨g, j * 5 + 4, none⟩ = some (.slice ak2 x.kids.length ck2) := by
      refine ⟨?_, ?_, ?_, ?_, ?_⟩ <;> rw [HB1.out.cell (by show g < _; omega)] <;> assumption
    have hnj : ¬ ((j : Int) < 0) := by omega
    have j0 : (0 : Int) ≤ (j : Int) := by omega
    have j1 : (j : Int) < (ks.length : Int) := by omega
    rw [show atV (some j) = (j : Int) from rfl]
    have HTX : Hid (Tree w x (.agg #[.int .i64 x.kind, .int .i64 x.num, .string x.text, .slice an2 x.names.length cn2, .slice ak2 x.kids.length ck2])) := htr
    clear hkid htr hat hx hR
    obtain ⟨xk, xn, xt, xnm, xks⟩ := x
    obtain ⟨ln, hln⟩ : ∃ ln, ln = xnm.length := ⟨_, rfl⟩
    obtain ⟨lk, hlk⟩ : ∃ lk, lk = xks.length := ⟨_, rfl⟩
    dsimp only [Tr.kind, Tr.num, Tr.text, Tr.names, Tr.kids] at c0 c1 c2 c3 c4 HTX
    rw [← hln] at c3 HTX
    rw [← hlk] at c4 HTX
    clear hln hlk
    go_wp2_with fail
    refine (l8Flat_any xk xn xt _ _ _).mono ?_
    rintro e w2 ⟨q, rfl, hq, hb2⟩
    have HQ : Hid (q = true ↔ FlatK xk) := hq
    have zR2 : w.heap.size + 1 < w2.heap.size := Nat.lt_of_lt_of_le zR hb2.size
    have HB2 : Hid (Below w.heap.size w w2) := HB1.out.trans (hb2.mono HB1.out.size)
    have HR2 : Hid (FiveAt w2 (w.heap.size + 1) (.int .i64 0) (.int .i64 0) (.string ⟨#[]⟩) (.slice none 0 0) (.slice none 0 0)) := HR.out.below hb2 zR
    have hz0 : w.heap.size < w1.heap.size := by omega
    have hzg : g < w1.heap.size := Nat.lt_of_lt_of_le hgl HB1.out.size
    obtain ⟨U0, U4⟩ : w2.cell? ⟨w.heap.size, 0, none⟩ = some (.int .i64 7) ∧ w2.cell? ⟨w.heap.size, 4, none⟩ = some (.slice (some ⟨g, 0, none⟩) ks.length ck) := ⟨(hb2.cell hz0).trans u0, (hb2.cell hz0).trans u4⟩
    obtain ⟨d0, d1, d2, d3, d4⟩ : w2.cell? ⟨g, j * 5, none⟩ = some (.int .i64 xk) ∧ w2.cell? ⟨g, j * 5 + 1, none⟩ = some (.int .i64 xn) ∧ w2.cell? ⟨g, j * 5 + 2, none⟩ = some (.string xt) ∧ w2.cell? ⟨g, j * 5 + 3, none⟩ = some (.slice an2 ln cn2) ∧ w2.cell? ⟨g, j * 5 + 4, none⟩ = some (.slice ak2 lk ck2) := ⟨(hb2.cell hzg).trans c0, (hb2.cell hzg).trans c1, (hb2.cell hzg).trans c2, (hb2.cell hzg).trans c3, (hb2.cell hzg).trans c4⟩
    obtain ⟨⟨V0, V1, V2, V3, V4⟩, Q0, Q1, Q2, Q3, Q4⟩ := id HR2.out
    clear hb2 hq c0 c1 c2 c3 c4 u0 u1 u2 u3 u4 p0 p1 p2 p3 p4 v0 v1 v2 v3 v4 q0 q1 q2 q3 q4
    have hdj : decide ((j : Int) < 0) = false := by simp
    rw [hdj]
    cases q with
    | false =>
      have HN : Hid (¬ ∃ x, idT (.mk 7 n tx nm ks) = some x ∧ FlatK x.kind) := fun ⟨y, hy, hf⟩ => by
        obtain rfl : Tr.mk xk xn xt xnm xks = y := Option.some.inj (HX.out.symm.trans hy)
        have := HQ.out.2 hf
        simp at this
      have HS := HR2.out.set (.int .i64 0) (.int .i64 0) (.string ⟨#[]⟩) (.slice none 0 0) (.slice none 0 0)
      obtain ⟨⟨⟨s0, s1, s2, s3, s4⟩, _⟩, hbb⟩ := id HS
      have HBF : Hid (Below w.heap.size w (((((w2.setCell ⟨w.heap.size + 1, 0, none⟩ (.int .i64 0)).setCell ⟨w.heap.size + 1, 1, none⟩ (.int .i64 0)).setCell ⟨w.heap.size + 1, 2, none⟩ (.string ⟨#[]⟩)).setCell ⟨w.heap.size + 1, 3, none⟩ (.slice none 0 0)).setCell ⟨w.heap.size + 1, 4, none⟩ (.slice none 0 0))) := HB2.out.trans ((hbb w.heap.size).below (Nat.le_refl _) (by omega))
      clear HS hbb
      go_wp2_with fail
      exact bodyPost_ret (v := .tuple #[.agg #[.int .i64 0, .int .i64 0, .string ⟨#[]⟩, .slice none 0 0, .slice none 0 0], .bool false]) (by simp [results, Tryz.results13, go_sem, s0, s1, s2, s3, s4]) rfl ⟨false, _, _, _, _, _, _, _, _, _, rfl, .inr ⟨rfl, HN.out⟩, HBF.out⟩
    | true =>
      have HFK : Hid (FlatK xk) := HQ.out.1 rfl
      have HS := HR2.out.set (.int .i64 xk) (.int .i64 xn) (.string xt) (.slice an2 ln cn2) (.slice ak2 lk ck2)
      obtain ⟨⟨⟨s0, s1, s2, s3, s4⟩, _⟩, hbb⟩ := id HS
      have HBF : Hid (Below w.heap.size w (((((w2.setCell ⟨w.heap.size + 1, 0, none⟩ (.int .i64 xk)).setCell ⟨w.heap.size + 1, 1, none⟩ (.int .i64 xn)).setCell ⟨w.heap.size + 1, 2, none⟩ (.string xt)).setCell ⟨w.heap.size + 1, 3, none⟩ (.slice an2 ln cn2)).setCell ⟨w.heap.size + 1, 4, none⟩ (.slice ak2 lk ck2))) := HB2.out.trans ((hbb w.heap.size).below (Nat.le_refl _) (by omega))
      clear HS hbb
      go_wp2_with fail
      exact bodyPost_ret (v := .tuple #[.agg #[.int .i64 xk, .int .i64 xn, .string xt, .slice an2 ln cn2, .slice ak2 lk ck2], .bool true]) (by simp [results, Tryz.results13, go_sem, s0, s1, s2, s3, s4]) rfl ⟨true, _, _, _, _, _, _, _, _, _, rfl, .inl ⟨rfl, _, HX.out, HFK.out, HTX.out.below HBF.out⟩, HBF.out⟩

end Go.Proofs.YtnmbnebofbdmfaaGreatDoor
namespace Go.Proofs.YtnmbnebofbdmfaaGreatDoor
open Go.RowKit
set_option linter.unusedVariables false
end Go.Proofs.YtnmbnebofbdmfaaGreatDoor
namespace Go.Proofs.YtnmbnebofbdmfaaGreatDoor
open Go.RowKit
set_option linter.unusedVariables false

theorem idT_tree {N : Nat → Nd} {n : Nat} (hg : GoodV N n) : idT (tree N n 0) = (idAt N n).map (tree N n) := by
  have hn0 := hg.1.1
  have hk80 : (kidsTo N 0 n).length ≤ 100 := by
    have h1 := Tr.len_cnts ((kidsTo N 0 n).map (tree N n))
    have h2 := good_cnt hg
    rw [tree_eq hn0, Tr.cnt] at h2
    have h3 := hg.1.2.1
    rw [List.length_map] at h1
    omega
  rw [id_at hg, tree_eq hn0]
  show (if (N 0).kind = 7 then (atI (N 0).kind (kidNames N 0 (kidsTo N 0 n)) idN ((kidsTo N 0 n).map (tree N n)).length).bind fun i => ((kidsTo N 0 n).map (tree N n))[i]? else none) = _
  rw [List.length_map]
  by_cases h7 : (N 0).kind = 7
  · rw [if_pos h7]
    cases atI (N 0).kind (kidNames N 0 (kidsTo N 0 n)) idN (kidsTo N 0 n).length with
    | none => rfl
    | some i => show ((kidsTo N 0 n).map (tree N n))[i]? = _; rw [List.getElem?_map]; rfl
  · rw [if_neg h7, at_map h7 hk80]
    rfl
theorem idAt_lt {N : Nat → Nd} {n k : Nat} (h : idAt N n = some k) : k < n := (kidsTo_mem (findP_kid h)).2.1
theorem kind_tree {N : Nat → Nd} {n k : Nat} (h : k < n) : (tree N n k).kind = (N k).kind := by rw [tree_eq h]; rfl

set_option maxRecDepth 100000 in
set_option maxHeartbeats 2000000 in
theorem specId_own (b n : Nat) (a : Option Addr) (c : Nat) (N : Nat → Nd) (w : World) (h : OwnAt w b (.slice a n c) n N) (hsm : SmallN n N) :
    Calls Tryz.prog 5 #[.agg #[.slice a n c]] w (IdIs N n w) := by
  have HO : Hid (OwnAt w b (.slice a n c) n N) := h
  have HSM : Hid (SmallN n N) := hsm
  have n20 : n ≤ 2 ^ 20 := hsm.1
  have hbl : ∀ o o', Below w.heap.size w ((w.alloc o).alloc o') := fun o o' => ((Below.refl _ _).alloc (Nat.le_refl _) o).alloc (by simp) o'
  clear h hsm
  go_enter Tryz.func5, Tryz.ntmps5
  go_wp2_with fail
  refine (specGood_own b n a c N _ (HO.out.below (hbl _ _)) HSM.out).mono ?_
  rintro e w2 ⟨q, rfl, hq, hb2⟩
  have x2 : w2.cell? ⟨w.heap.size, 0, none⟩ = some (.slice a n c) := by rw [hb2.cell (by simp; omega)]; simp [go_sem]
  have r2 : w2.cell? ⟨w.heap.size + 1, 0, none⟩ = some (.slice none 0 0) := by rw [hb2.cell (by simp)]; simp [go_sem]
  have f2 : w2.frozen? ⟨w.heap.size + 1, 0, none⟩ = false := by rw [hb2.frozen (by simp)]; simp [go_sem]
  have HB2 : Hid (Below w.heap.size w w2) := (hbl _ _).trans (hb2.mono (by simp; omega))
  have zR2 : w.heap.size + 1 < w2.heap.size := by have := hb2.size; simp at this; omega
  clear hb2 hbl
  cases q with
  | false =>
    have HN : Hid (¬ (GoodV N n ∧ ∃ k, idAt N n = some k ∧ FlatK (N k).kind)) := fun h => by have := hq.2 h.1; simp at this
    clear hq
    go_wp2_with fail
    exact bodyPost_ret (v := .tuple #[.agg #[.slice none 0 0], .bool false]) (by simp [results, Tryz.results5, go_sem, r2]) rfl (IdIs.no HN.out (Below.setR HB2.out (by omega)))
  | true =>
    have HG : Hid (GoodV N n) := hq.1 rfl
    clear hq
    have hs1 := HG.out.1
    have HTS : Hid (TreeSaid N n 0) := l1Tree_any N n hs1.2.1 n 0 rfl hs1.1
    have HCN : Hid ((tree N n 0).cnt ≤ 2 ^ 20 ∧ (tree N n 0).named) := ⟨by rw [good_cnt HG.out]; have := hs1.2.1; omega, tree_named N n n 0 rfl hs1.1⟩
    clear hs1
    go_wp2_with fail
    refine (HTS.out _ _ _ ((own_arg HO.out).below HB2.out)).mono ?_
    rintro e w3 ⟨an, cn, mn, ak, ck, mk', rfl, ht3, hb3⟩
    have r3 : w3.cell? ⟨w.heap.size + 1, 0, none⟩ = some (.slice none 0 0) := (hb3.cell zR2).trans r2
    have f3 : w3.frozen? ⟨w.heap.size + 1, 0, none⟩ = false := (hb3.frozen zR2).trans f2
    have zR3 : w.heap.size + 1 < w3.heap.size := Nat.lt_of_lt_of_le zR2 hb3.size
    have HT3 : Hid (Tree w3 (tree N n 0) _) := ht3.any
    have HB3 : Hid (Below w.heap.size w w3) := HB2.out.trans (hb3.mono HB2.out.size)
    clear ht3 hb3
    go_wp2_with fail
    refine (l8Id_any (tree N n 0) _ _ HT3.out HCN.out.2 HCN.out.1).mono ?_
    rintro e w4 ⟨q4, k4, n4, t4, an4, mn4, cn4, ak4, mk4, ck4, rfl, htr4, hb4⟩
    have r4 : w4.cell? ⟨w.heap.size + 1, 0, none⟩ = some (.slice none 0 0) := (hb4.cell zR3).trans r3
    have f4 : w4.frozen? ⟨w.heap.size + 1, 0, none⟩ = false := (hb4.frozen zR3).trans f3
    have zR4 : w.heap.size + 1 < w4.heap.size := Nat.lt_of_lt_of_le zR3 hb4.size
    have HB4 : Hid (Below w.heap.size w w4) := HB3.out.trans (hb4.mono HB3.out.size)
    have al4 : ∀ o, Below w4.heap.size w4 (w4.alloc o) := fun o => (Below.refl _ _).alloc (Nat.le_refl _) o
    rw [idT_tree HG.out] at htr4
    clear hb4
    rcases htr4 with ⟨rfl, x, hx, hf, htr⟩ | ⟨rfl, hno⟩
    · obtain ⟨k, hk, rfl⟩ := Option.map_eq_some_iff.1 hx
      have hkn : k < n := idAt_lt hk
      rw [kind_tree hkn] at hf
      have HK : Hid (idAt N n = some k) := hk
      have HF : Hid (FlatK (N k).kind) := hf
      have HTK : Hid (Tree w4 (tree N n k) (.agg #[.int .i64 k4, .int .i64 n4, .string t4, .slice an4 mn4 cn4, .slice ak4 mk4 ck4])) := htr
      clear hx hk hf htr
      go_wp2_with fail
      refine (l1Of_any (tree N n k) _ _ (HTK.out.below (al4 _)) (tree_named N n (n - k) k rfl hkn) (by have := tree_cnt_le HG.out hkn; omega)).mono ?_
      rintro e w5 ⟨lv, rfl, ho5, hb5⟩
      have b5 : Below w4.heap.size w4 w5 := (al4 _).trans (hb5.mono (by simp))
      have r5 : w5.cell? ⟨w.heap.size + 1, 0, none⟩ = some (.slice none 0 0) := (b5.cell zR4).trans r4
      have f5 : w5.frozen? ⟨w.heap.size + 1, 0, none⟩ = false := (b5.frozen zR4).trans f4
      obtain ⟨en, hen⟩ := end_of (N := N) hkn
      rw [tree_sub HG.out hkn hen] at ho5
      have HE : Hid (IsEnd N n k en) := hen
      obtain ⟨la, lc, rfl⟩ := ho5.form
      have HO5 : Hid (OwnsN w5 w4.heap.size (.slice la (subTo N k en).length lc) (subTo N k en)) := ho5.low (by simp)
      have HB5 : Hid (Below w.heap.size w w5) := HB4.out.trans (b5.mono HB4.out.size)
      clear ho5 hb5 hen b5 al4
      go_wp2
      exact bodyPost_ret (v := .tuple #[.agg #[.slice la (subTo N k en).length lc], .bool true]) (by simp [results, Tryz.results5, go_sem, r5]) rfl (IdIs.yes HG.out HK.out HF.out HE.out HB4.out.size n20 (own_set HO5.out (by omega)) (Below.setR HB5.out (by omega)))
    · have HN : Hid (¬ (GoodV N n ∧ ∃ k, idAt N n = some k ∧ FlatK (N k).kind)) := fun ⟨_, k, hk, hf⟩ => hno ⟨tree N n k, by rw [hk]; rfl, by rw [kind_tree (idAt_lt hk)]; exact hf⟩
      clear hno
      have zs : w.heap.size + 1 < (w4.setCell ⟨w.heap.size + 1, 0, none⟩ (.slice none 0 0)).heap.size := by simpa [World.setCell] using zR4
      have r5 : ∀ o, ((w4.setCell ⟨w.heap.size + 1, 0, none⟩ (.slice none 0 0)).alloc o).cell? ⟨w.heap.size + 1, 0, none⟩ = some (.slice none 0 0) := fun o => (((Below.refl _ _).alloc (Nat.le_refl _) o).cell zs).trans (World.cell?_setCell_same' _ _ _ (by rw [r4]; rfl))
      go_wp2_with fail
      exact bodyPost_ret (v := .tuple #[.agg #[.slice none 0 0], .bool false]) (by simp [results, Tryz.results5, go_sem, r5]) rfl (IdIs.no HN.out ((Below.setR HB4.out (by omega)).alloc (by have := HB4.out.size; simp; omega) _))

end Go.Proofs.YtnmbnebofbdmfaaGreatDoor
namespace Go.Proofs.YtnmbnebofbdmfaaGreatDoor
open Go.RowKit
set_option linter.unusedVariables false

set_option maxHeartbeats 400000 in
theorem isKeyed_any (k : Int) (w : World) : Calls Tryz.prog 18 #[.int .i64 k] w fun e w' => ∃ q : Bool, e = .returned (.bool q) ∧ (q = true ↔ FlatK k) ∧ Below w.heap.size w w' := by
  by_cases h4 : k = 4
  · subst h4
    go_enter Tryz.func18, Tryz.ntmps18
    go_wp2
    go_ret
    exact ⟨true, rfl, by simp [FlatK], by go_grown⟩
  by_cases h5 : k = 5
  · subst h5
    go_enter Tryz.func18, Tryz.ntmps18
    go_wp2
    go_ret
    exact ⟨true, rfl, by simp [FlatK], by go_grown⟩
  have e4 : (k == 4) = false := by simpa using h4
  have e5 : (k == 5) = false := by simpa using h5
  go_enter Tryz.func18, Tryz.ntmps18
  go_wp2
  go_ret
  exact ⟨false, by first | rfl | simp [e4, e5], by simp [FlatK, h4, h5], by go_grown⟩

set_option maxRecDepth 100000 in
set_option maxHeartbeats 2000000 in
theorem implId_own (b n : Nat) (a : Option Addr) (c : Nat) (N : Nat → Nd) (w : World) (h : OwnAt w b (.slice a n c) n N) (hsm : SmallN n N) (htab : Tab w.heap.size w) (hcap : n ≤ c) (hml : ML w) :
    Calls Tryz.prog 7 #[.agg #[.slice a n c]] w (IdIs N n w) := by
  have HO : Hid (OwnAt w b (.slice a n c) n N) := h
  have HSM : Hid (SmallN n N) := hsm
  have HTB : Hid (Tab w.heap.size w) := htab
  have HML : Hid (ML w) := hml
  have n20 : n ≤ 2 ^ 20 := hsm.1
  have hbl : ∀ o o', Below w.heap.size w ((w.alloc o).alloc o') := fun o o' => ((Below.refl _ _).alloc (Nat.le_refl _) o).alloc (by simp) o'
  clear h hsm htab hml
  go_enter Tryz.func7, Tryz.ntmps7
  go_wp2_with fail
  refine (show Calls Tryz.prog 17 #[.agg #[.slice a n c], .string ⟨#[47, 95, 105, 100]⟩] _ (GetIs N n idP _) from implGet_own b n a c N idP _ (HO.out.below (hbl _ _)) HSM.out (HTB.out.up (hbl _ _)) hcap (HML.out.below (hbl _ _))).mono ?_
  rintro e w1 ⟨v1, q, g1, L, rfl, hq, hg1, ho1, hb1⟩
  have r1 : w1.cell? ⟨w.heap.size + 1, 0, none⟩ = some (.slice none 0 0) := by rw [hb1.cell (by simp)]; simp [go_sem]
  have f1 : w1.frozen? ⟨w.heap.size + 1, 0, none⟩ = false := by rw [hb1.frozen (by simp)]; simp [go_sem]
  have HB1 : Hid (Below w.heap.size w w1) := (hbl _ _).trans (hb1.mono (by simp; omega))
  have zR : w.heap.size + 1 < w1.heap.size := by have := hb1.size; simp at this; omega
  have al1 : ∀ o, Below w1.heap.size w1 (w1.alloc o) := fun o => (Below.refl _ _).alloc (Nat.le_refl _) o
  rcases hq with ⟨rfl, ha, k, en, hk, he, rfl⟩ | ⟨rfl, hno, rfl⟩
  · have HG : Hid (GoodV N n) := ha.1
    have HK : Hid (idAt N n = some k) := (go_id N n).symm.trans hk
    have HE : Hid (IsEnd N n k en) := he
    have hne : subTo N k en ≠ [] := by unfold subTo; simp
    have hl0 : 0 < (subTo N k en).length := by rw [subTo_len]; omega
    have hgb := hg1 hne
    obtain ⟨a1, c1, off1, rfl, hl30, h0 | ⟨rfl, hlt1, hat1, hfr1⟩⟩ := ho1
    · omega
    have HO1 : Hid (OwnAt w1 g1 (.slice (some ⟨g1, off1, none⟩) (subTo N k en).length c1) (subTo N k en).length (fun i => (subTo N k en).getD i ⟨0, 0, ⟨#[]⟩, ⟨#[]⟩, 0⟩)) := ⟨_, c1, off1, rfl, hl30, .inr ⟨rfl, hlt1, hat1, hfr1⟩⟩
    have hk0 : w1.cell? ⟨g1, off1, none⟩ = some (.int .i64 (N k).kind) := by
      have := (hat1 0 hl0).1
      rw [sub_head] at this
      simpa using this
    have zg : w.heap.size + 1 < g1 := by have := hgb.1; simp at this; omega
    obtain ⟨m, hm⟩ : ∃ m, m = (subTo N k en).length := ⟨_, rfl⟩
    have HM : Hid (m = (subTo N k en).length) := hm
    rw [← hm] at HO1 hl0 ⊢
    have m0 : (0 : Int) < (m : Int) := by omega
    obtain ⟨kd, hkd⟩ : ∃ kd, kd = (N k).kind := ⟨_, rfl⟩
    have HKD : Hid (kd = (N k).kind) := hkd
    rw [← hkd] at hk0
    have hk1 : ∀ o, (w1.alloc o).cell? ⟨g1, off1, none⟩ = some (.int .i64 kd) := fun o => ((al1 o).cell hlt1).trans hk0
    clear hg1 hat1 hfr1 ha hk he hm hkd hb1 hgb
    go_wp2_with fail
    refine (isKeyed_any kd _).mono ?_
    rintro e w2 ⟨q2, rfl, hq2, hb2⟩
    have HQ2 : Hid (q2 = true ↔ FlatK kd) := hq2
    have b12 : Below w1.heap.size w1 w2 := (al1 _).trans (hb2.mono (by simp))
    have r2 : w2.cell? ⟨w.heap.size + 1, 0, none⟩ = some (.slice none 0 0) := (b12.cell zR).trans r1
    have f2 : w2.frozen? ⟨w.heap.size + 1, 0, none⟩ = false := (b12.frozen zR).trans f1
    have u2 : w2.cell? ⟨w1.heap.size, 0, none⟩ = some (.slice (some ⟨g1, off1, none⟩) m c1) := by rw [hb2.cell (by simp)]; simp [World.cell?_alloc_new]
    have HB2 : Hid (Below w.heap.size w w2) := HB1.out.trans (b12.mono HB1.out.size)
    have HO2 : Hid (OwnAt w2 g1 (.slice (some ⟨g1, off1, none⟩) m c1) m (fun i => (subTo N k en).getD i ⟨0, 0, ⟨#[]⟩, ⟨#[]⟩, 0⟩)) := HO1.out.below b12
    have z2 : g1 < w2.heap.size := Nat.lt_of_lt_of_le hlt1 b12.size
    clear hb2 hq2 b12 hk1 hk0
    cases q2 with
    | false =>
      have HN : Hid (¬ (GoodV N n ∧ ∃ k, idAt N n = some k ∧ FlatK (N k).kind)) := fun ⟨_, k', hk', hf⟩ => by
        obtain rfl : k = k' := Option.some.inj (HK.out.symm.trans hk')
        rw [← HKD.out] at hf
        have := HQ2.out.2 hf
        simp at this
      go_wp2_with fail
      exact bodyPost_ret (v := .tuple #[.agg #[.slice none 0 0], .bool false]) (by simp [results, Tryz.results7, go_sem, r2]) rfl (IdIs.no HN.out (Below.setR HB2.out (by omega)))
    | true =>
      have HF : Hid (FlatK (N k).kind) := by rw [← HKD.out]; exact HQ2.out.1 rfl
      go_wp2_with fail
      exact bodyPost_ret (v := .tuple #[.agg #[.slice (some ⟨g1, off1, none⟩) m c1], .bool true]) (by simp [results, Tryz.results7, go_sem, r2]) rfl ⟨_, _, g1, _, rfl, .inl ⟨rfl, HG.out, k, en, HK.out, HF.out, HE.out, rfl⟩, fun _ => ⟨by omega, by simpa [World.setCell] using z2⟩, by rw [← HM.out]; exact HO2.out.but (BelowBut.setCell (B := w2.heap.size) (b := w.heap.size + 1) _ _ _) (by omega), Below.setR HB2.out (by omega)⟩
  · have HN : Hid (¬ (GoodV N n ∧ ∃ k, idAt N n = some k ∧ FlatK (N k).kind)) := fun ⟨hg, k, hk, _⟩ => hno ⟨⟨hg, idP_some⟩, by rw [go_id, hk]; rfl⟩
    obtain ⟨a1, c1, rfl⟩ := ho1.form
    clear hno hg1 ho1 hb1
    go_wp2_with fail
    have zs : w.heap.size + 1 < (w1.setCell ⟨w.heap.size + 1, 0, none⟩ (.slice none 0 0)).heap.size := by simpa [World.setCell] using zR
    have r5 : ∀ o, ((w1.setCell ⟨w.heap.size + 1, 0, none⟩ (.slice none 0 0)).alloc o).cell? ⟨w.heap.size + 1, 0, none⟩ = some (.slice none 0 0) := fun o => (((Below.refl _ _).alloc (Nat.le_refl _) o).cell zs).trans (World.cell?_setCell_same' _ _ _ (by rw [r1]; rfl))
    exact bodyPost_ret (v := .tuple #[.agg #[.slice none 0 0], .bool false]) (by simp [results, Tryz.results7, go_sem, r5]) rfl (IdIs.no HN.out ((Below.setR HB1.out (by omega)).alloc (by have := HB1.out.size; simp; omega) _))
end Go.Proofs.YtnmbnebofbdmfaaGreatDoor
namespace Go.Proofs.YtnmbnebofbdmfaaGreatDoor
open Go.RowKit
set_option linter.unusedVariables false

theorem OwnAt.but2 {w w' : World} {b g : Nat} {v : Value} {n : Nat} {f : Nat → Nd} (h : OwnAt w g v n f) (hb : BelowBut w.heap.size b w w') (hne : n ≠ 0 → g ≠ b) : OwnAt w' g v n f := by
  by_cases h0 : n = 0
  · obtain ⟨a, c, off, rfl, hn, _⟩ := h
    exact ⟨a, c, off, rfl, hn, .inl h0⟩
  · exact h.but hb (hne h0)
/-- What a list of nodes is at i. -/
def ndAt (L : List Nd) (i : Nat) : Nd := L.getD i ⟨0, 0, ⟨#[]⟩, ⟨#[]⟩, 0⟩

set_option maxRecDepth 100000 in
set_option maxHeartbeats 4000000 in
theorem idOf_law (a : Option Addr) (c n : Nat) (N : Nat → Nd) (w : World) (hn : n ≤ maxLen) (h : ArgIs w a n N) (hz : ∀ i, i < n → (N i).text.size ≤ maxLen ∧ (N i).name.size ≤ maxLen) (htab : Tab w.heap.size w) (hml : ML w) :
    Calls Tryz.prog 3 #[.agg #[.slice a n c]] w fun e w' => e = .returned (.bool true) ∧ Below w.heap.size w w' := by
  have HZ : Hid (∀ i, i < n → (N i).text.size ≤ maxLen ∧ (N i).name.size ≤ maxLen) := hz
  have H : Hid (ArgIs w a n N) := h
  have HTB : Hid (Tab w.heap.size w) := htab
  have HML : Hid (ML w) := hml
  clear hz h htab hml
  go_enter Tryz.func3, Tryz.ntmps3
  go_wp2_with fail
  have hbl0 : ∀ o, Below w.heap.size w (w.alloc o) := fun o => (Below.refl _ _).alloc (Nat.le_refl _) o
  refine (szValue_any a c n N _ hn (H.out.below (hbl0 _)) HZ.out).mono ?_
  rintro e w1 ⟨r, rfl, hr, hb1⟩
  have x1 : w1.cell? ⟨w.heap.size, 0, none⟩ = some (.slice a n c) := by rw [hb1.cell (by simp)]; simp [go_sem]
  have HB1 : Hid (Below w.heap.size w w1) := (hbl0 _).trans (hb1.mono (by simp))
  have z1 : w.heap.size < w1.heap.size := by have := hb1.size; simp at this; omega
  clear hb1 hbl0
  rcases hr with rfl | ⟨r0, hsm⟩
  · go_wp2
    go_ret
    exact ⟨rfl, HB1.out⟩
  have HSM : Hid (SmallN n N) := hsm
  have n20 : n ≤ 2 ^ 20 := hsm.1
  have r1 : ¬ r < 0 := by omega
  clear hsm
  go_wp2_with fail
  refine (toValue_cap a c n N _ n20 (H.out.below HB1.out)).mono ?_
  rintro e w2 ⟨b2, a2, c2, rfl, _, l2, m2, ho2, hb2⟩
  have x2 : w2.cell? ⟨w.heap.size, 0, none⟩ = some (.slice a n c) := (hb2.cell z1).trans x1
  have HB2 : Hid (Below w.heap.size w w2) := HB1.out.trans (hb2.mono HB1.out.size)
  have z2 : w.heap.size < w2.heap.size := by have := hb2.size; omega
  have HO2 : Hid (OwnAt w2 b2 (.slice a2 n c2) n N) := ho2
  have B2 := hb2.size
  clear ho2 hb2 l2 m2
  go_wp2_with fail
  refine (specId_own b2 n a2 c2 N _ HO2.out HSM.out).mono ?_
  rintro e w3 ⟨v3, q, g3, L, rfl, hq, hg3, ho3, hb3⟩
  obtain ⟨a3, c3, rfl⟩ := ho3.form
  have HQ : Hid (IdTold N n q L) := hq
  have x3 : w3.cell? ⟨w.heap.size, 0, none⟩ = some (.slice a n c) := (hb3.cell z2).trans x2
  have HB3 : Hid (Below w.heap.size w w3) := HB2.out.trans (hb3.mono HB2.out.size)
  have z3 : w.heap.size < w3.heap.size := by have := hb3.size; omega
  obtain ⟨m, hm⟩ : ∃ m, m = L.length := ⟨_, rfl⟩
  have hL0 : m ≠ 0 → L ≠ [] := fun h e => h (by rw [hm, e]; rfl)
  rw [← hm] at ho3 ⊢
  have HM : Hid (m = L.length) := hm
  have HL3 : Hid (m ≠ 0 → g3 < w3.heap.size) := fun h => ho3.lt h
  have HK3 : Hid (OwnAt w3 g3 (.slice a3 m c3) m (ndAt L)) := ho3
  clear hb3 hq HO2 ho3 hg3 hm
  go_wp2_with fail
  have al3 : ∀ o, Below w3.heap.size w3 (w3.alloc o) := fun o => (Below.refl _ _).alloc (Nat.le_refl _) o
  refine (toValue_cap a c n N _ n20 (H.out.below (HB3.out.trans ((al3 _).mono HB3.out.size)))).mono ?_
  rintro e w4 ⟨b4, a4, c4, rfl, cc4, l4, m4, ho4, hb4⟩
  have z34 := hb4.size
  simp at z34 l4
  have x4 : w4.cell? ⟨w.heap.size, 0, none⟩ = some (.slice a n c) := by rw [hb4.cell (by simp; omega)]; simp [World.cell?_alloc_past, z3, x3]
  have u4 : w4.cell? ⟨w3.heap.size, 0, none⟩ = some (.slice a3 m c3) := by rw [hb4.cell (by simp)]; simp [World.cell?_alloc_new]
  have hbb4 : Below w3.heap.size w3 w4 := (al3 _).trans (hb4.mono (by simp))
  have HB4 : Hid (Below w.heap.size w w4) := HB3.out.trans (hbb4.mono HB3.out.size)
  have z4 : w.heap.size < w4.heap.size := by omega
  have zu4 : w3.heap.size < w4.heap.size := by omega
  have HO4 : Hid (OwnAt w4 b4 (.slice a4 n c4) n N) := ho4
  have HK4 : Hid (OwnAt w4 g3 (.slice a3 m c3) m (ndAt L)) := HK3.out.below hbb4
  clear ho4 hb4 HK3 hbb4 al3
  go_wp2_with fail
  have hal : ∀ o, Below w4.heap.size w4 (w4.alloc o) := fun o => (Below.refl _ _).alloc (Nat.le_refl _) o
  refine (implId_own b4 n a4 c4 N _ (HO4.out.below (hal _)) HSM.out (HTB.out.up (HB4.out.trans ((hal _).mono HB4.out.size))) cc4 (HML.out.below (HB4.out.trans ((hal _).mono HB4.out.size)))).mono ?_
  rintro e w5 ⟨v5, g, g5, L5, rfl, hg, hg5, ho5, hb5⟩
  obtain ⟨rfl, rfl⟩ : g = q ∧ L5 = L := hg.same HQ.out
  rw [← HM.out] at ho5
  obtain ⟨a5, c5, rfl⟩ := ho5.form
  have x5 : w5.cell? ⟨w.heap.size, 0, none⟩ = some (.slice a n c) := by rw [hb5.cell (by simp; omega)]; simp [World.cell?_alloc_past, z4, x4]
  have u5 : w5.cell? ⟨w3.heap.size, 0, none⟩ = some (.slice a3 m c3) := by rw [hb5.cell (by simp; omega)]; simp [World.cell?_alloc_past, zu4, u4]
  have y5 : w5.cell? ⟨w4.heap.size, 0, none⟩ = some (.slice a4 n c4) := by rw [hb5.cell (by simp)]; simp [World.cell?_alloc_new]
  have hbb : Below w4.heap.size w4 w5 := (hal _).trans (hb5.mono (by simp))
  have HB5 : Hid (Below w.heap.size w w5) := HB4.out.trans (hbb.mono HB4.out.size)
  have z5 : w4.heap.size < w5.heap.size := by have := hb5.size; simp at this; omega
  have z5u : w3.heap.size < w5.heap.size := by omega
  have z5' : w.heap.size < w5.heap.size := by omega
  have HO5 : Hid (OwnAt w5 b4 (.slice a4 n c4) n N) := HO4.out.below hbb
  have HK5 : Hid (OwnAt w5 g3 (.slice a3 m c3) m (ndAt L5)) := HK4.out.below hbb
  have HG5 : Hid (OwnAt w5 g5 (.slice a5 m c5) m (ndAt L5)) := ho5
  have HGL : Hid (m ≠ 0 → w4.heap.size < g5 ∧ g5 < w5.heap.size) := fun h => by have := hg5 (hL0 h); simp at this; omega
  clear hb5 hbb hal hg HO4 HK4 ho5 hg5
  go_wp2_with fail
  have al5 : ∀ o, Below w5.heap.size w5 (w5.alloc o) := fun o => (Below.refl _ _).alloc (Nat.le_refl _) o
  refine (eqValue_any _ _ m (ndAt L5) _ ((HG5.out.below (al5 _)).slice) ((HK5.out.below (al5 _)).slice)).mono ?_
  rintro e w6 ⟨rfl, hb6⟩
  have B56 : Below w5.heap.size w5 w6 := (al5 _).trans (hb6.mono (by simp))
  have x6 : w6.cell? ⟨w.heap.size, 0, none⟩ = some (.slice a n c) := (B56.cell (by show w.heap.size < _; omega)).trans x5
  have u6 : w6.cell? ⟨w3.heap.size, 0, none⟩ = some (.slice a3 m c3) := (B56.cell (by show w3.heap.size < _; omega)).trans u5
  have y6 : w6.cell? ⟨w4.heap.size, 0, none⟩ = some (.slice a4 n c4) := (B56.cell z5).trans y5
  have v6 : w6.cell? ⟨w5.heap.size, 0, none⟩ = some (.slice a5 m c5) := by rw [hb6.cell (by simp)]; simp [World.cell?_alloc_new]
  have z56 := hb6.size
  simp at z56
  have z6 : w4.heap.size < w6.heap.size := by omega
  have z6' : w.heap.size < w6.heap.size := by omega
  have z6u : w3.heap.size < w6.heap.size := by omega
  have z6v : w5.heap.size < w6.heap.size := by omega
  have HB6 : Hid (Below w.heap.size w w6) := HB5.out.trans (B56.mono HB5.out.size)
  have HO6 : Hid (OwnAt w6 b4 (.slice a4 n c4) n N) := HO5.out.below B56
  have HK6 : Hid (OwnAt w6 g3 (.slice a3 m c3) m (ndAt L5)) := HK5.out.below B56
  have HG6 : Hid (OwnAt w6 g5 (.slice a5 m c5) m (ndAt L5)) := HG5.out.below B56
  clear hb6 HO5 HK5 HG5 B56 al5 x5 u5 y5
  go_wp2_with fail
  go_region_held3 (fun w' => w'.cell? ⟨w.heap.size, 0, none⟩ = some (.slice a n c) ∧ w'.cell? ⟨w4.heap.size, 0, none⟩ = some (.slice a4 n c4)) (first | exact ⟨x6, y6⟩ | exact ⟨(hc8 _ _ (Nat.lt_of_lt_of_le z6' zz7)).trans ((hc7 _ _ z6').trans x6), (hc8 _ _ (Nat.lt_of_lt_of_le z6 zz7)).trans ((hc7 _ _ z6).trans y6)⟩ | exact ⟨(hc7 _ _ z6').trans x6, (hc7 _ _ z6).trans y6⟩)
    (first | (go_at_call 6; refine (toValue_any a c n N _ n20 (H.out.below (HB6.out.drew))).mono ?_; rintro e w7 ⟨b7, a7, c7, rfl, l7, m7, ho7, hb7⟩; obtain ⟨hc7, hf7⟩ := bcell hb7; have zz7 := hb7.size) | (go_at_call 8; refine (eqValue_any _ _ n N _ ((HO6.out.below ((Below.drew (Below.refl w6.heap.size w6)).trans (hb7.mono (Nat.le_refl w6.heap.size)))).slice) ho7.slice).mono ?_; rintro e w8 ⟨rfl, hb8⟩; obtain ⟨hc8, hf8⟩ := bcell hb8))
  have B68 : Below w6.heap.size w6 w8 := ((Below.drew (Below.refl w6.heap.size w6)).trans (hb7.mono (Nat.le_refl w6.heap.size))).trans (hb8.mono zz7)
  have x8 : w8.cell? ⟨w.heap.size, 0, none⟩ = some (.slice a n c) := (B68.cell z6').trans x6
  have u8 : w8.cell? ⟨w3.heap.size, 0, none⟩ = some (.slice a3 m c3) := (B68.cell z6u).trans u6
  have y8 : w8.cell? ⟨w4.heap.size, 0, none⟩ = some (.slice a4 n c4) := (B68.cell z6).trans y6
  have v8 : w8.cell? ⟨w5.heap.size, 0, none⟩ = some (.slice a5 m c5) := (B68.cell z6v).trans v6
  have z68 := B68.size
  have HB8 : Hid (Below w.heap.size w w8) := HB6.out.trans (B68.mono HB6.out.size)
  have HO8 : Hid (OwnAt w8 b4 (.slice a4 n c4) n N) := HO6.out.below B68
  have HK8 : Hid (OwnAt w8 g3 (.slice a3 m c3) m (ndAt L5)) := HK6.out.below B68
  have HG8 : Hid (OwnAt w8 g5 (.slice a5 m c5) m (ndAt L5)) := HG6.out.below B68
  clear hb7 hb8 hc7 hf7 hc8 hf8 zz7 B68 ho7 HO6 HK6 HG6 x6 y6 u6 v6 l7 m7
  go_wp2_with fail
  refine (markValue_any _ b4 n N 1 _ (by omega) (by omega) HO8.out).mono ?_
  rintro e w9 ⟨rfl, hb9, ho9⟩
  have z89 := hb9.size
  have x9 : w9.cell? ⟨w.heap.size, 0, none⟩ = some (.slice a n c) := (hb9.cell (by omega) (by omega)).trans x8
  have u9 : w9.cell? ⟨w3.heap.size, 0, none⟩ = some (.slice a3 m c3) := (hb9.cell (by omega) (by omega)).trans u8
  have v9 : w9.cell? ⟨w5.heap.size, 0, none⟩ = some (.slice a5 m c5) := (hb9.cell (by omega) (by omega)).trans v8
  have HB9 : Hid (Below w.heap.size w w9) := HB8.out.trans (hb9.below HB8.out.size (by omega))
  have HK9 : Hid (OwnAt w9 g3 (.slice a3 m c3) m (ndAt L5)) := HK8.out.but2 hb9 (fun h => by have := HL3.out h; omega)
  have HG9 : Hid (OwnAt w9 g5 (.slice a5 m c5) m (ndAt L5)) := HG8.out.but2 hb9 (fun h => by have := HGL.out h; omega)
  clear hb9 ho9 HO8 HK8 HG8 x8 y8 u8 v8
  go_wp2_with fail
  refine (eqValue_any _ _ m (ndAt L5) _ HG9.out.slice HK9.out.slice).mono ?_
  rintro e w10 ⟨rfl, hb10⟩
  have z910 := hb10.size
  have x10 : w10.cell? ⟨w.heap.size, 0, none⟩ = some (.slice a n c) := (hb10.cell (by show w.heap.size < _; omega)).trans x9
  have u10 : w10.cell? ⟨w3.heap.size, 0, none⟩ = some (.slice a3 m c3) := (hb10.cell (by show w3.heap.size < _; omega)).trans u9
  have v10 : w10.cell? ⟨w5.heap.size, 0, none⟩ = some (.slice a5 m c5) := (hb10.cell (by show w5.heap.size < _; omega)).trans v9
  have HB10 : Hid (Below w.heap.size w w10) := HB9.out.trans (hb10.mono HB9.out.size)
  have HK10 : Hid (OwnAt w10 g3 (.slice a3 m c3) m (ndAt L5)) := HK9.out.below hb10
  have HG10 : Hid (OwnAt w10 g5 (.slice a5 m c5) m (ndAt L5)) := HG9.out.below hb10
  clear hb10 HK9 HG9 x9 u9 v9
  go_wp2_with fail
  obtain ⟨g6, hg6, HG10'⟩ : ∃ g6, (w4.heap.size < g6 ∧ g6 ≠ w5.heap.size ∧ (m ≠ 0 → g6 = g5)) ∧ Hid (OwnAt w10 g6 (.slice a5 m c5) m (ndAt L5)) := by
    by_cases hm0 : m = 0
    · refine ⟨w5.heap.size + 1, ⟨by omega, by omega, fun h => absurd hm0 h⟩, ?_⟩
      obtain ⟨a', c', off', e, hn', _⟩ := HG10.out
      exact ⟨a', c', off', e, hn', .inl hm0⟩
    · have := HGL.out hm0
      exact ⟨g5, ⟨by omega, by omega, fun _ => rfl⟩, HG10⟩
  clear HG10
  refine (markValue_any _ g6 m (ndAt L5) 1 _ (by omega) (by omega) HG10'.out).mono ?_
  rintro e w11 ⟨rfl, hb11, ho11⟩
  have z1011 := hb11.size
  have x11 : w11.cell? ⟨w.heap.size, 0, none⟩ = some (.slice a n c) := (hb11.cell (by omega) (by omega)).trans x10
  have u11 : w11.cell? ⟨w3.heap.size, 0, none⟩ = some (.slice a3 m c3) := (hb11.cell (by omega) (by omega)).trans u10
  have v11 : w11.cell? ⟨w5.heap.size, 0, none⟩ = some (.slice a5 m c5) := (hb11.cell (by omega) (by omega)).trans v10
  have HB11 : Hid (Below w.heap.size w w11) := HB10.out.trans (hb11.below HB10.out.size (by omega))
  have HK11 : Hid (OwnAt w11 g3 (.slice a3 m c3) m (ndAt L5)) := HK10.out.but2 hb11 (fun h => by have := HL3.out h; omega)
  have HG11 : Hid (OwnAt w11 g6 (.slice a5 m c5) m (fun i => mk (1 + 5 * i))) := ho11
  clear hb11 ho11 HK10 HG10' x10 u10 v10
  go_wp2_with fail
  refine (heldValue_any _ g6 m 1 _ (by omega) (by omega) HG11.out).mono ?_
  rintro e w12 ⟨rfl, hb12⟩
  have z1112 := hb12.size
  have x12 : w12.cell? ⟨w.heap.size, 0, none⟩ = some (.slice a n c) := (hb12.cell (by show w.heap.size < _; omega)).trans x11
  have u12 : w12.cell? ⟨w3.heap.size, 0, none⟩ = some (.slice a3 m c3) := (hb12.cell (by show w3.heap.size < _; omega)).trans u11
  have v12 : w12.cell? ⟨w5.heap.size, 0, none⟩ = some (.slice a5 m c5) := (hb12.cell (by show w5.heap.size < _; omega)).trans v11
  have HB12 : Hid (Below w.heap.size w w12) := HB11.out.trans (hb12.mono HB11.out.size)
  have HK12 : Hid (OwnAt w12 g3 (.slice a3 m c3) m (ndAt L5)) := HK11.out.below hb12
  have HG12 : Hid (OwnAt w12 g6 (.slice a5 m c5) m (fun i => mk (1 + 5 * i))) := HG11.out.below hb12
  clear hb12 HK11 HG11 x11 u11 v11
  go_wp2_with fail
  refine (toValue_cap a c n N _ n20 (H.out.below HB12.out)).mono ?_
  rintro e w13 ⟨b13, a13, c13, rfl, cc13, l13, m13, ho13, hb13⟩
  have z1213 := hb13.size
  have u13 : w13.cell? ⟨w3.heap.size, 0, none⟩ = some (.slice a3 m c3) := (hb13.cell (by show w3.heap.size < _; omega)).trans u12
  have v13 : w13.cell? ⟨w5.heap.size, 0, none⟩ = some (.slice a5 m c5) := (hb13.cell (by show w5.heap.size < _; omega)).trans v12
  have HB13 : Hid (Below w.heap.size w w13) := HB12.out.trans (hb13.mono HB12.out.size)
  have HO13 : Hid (OwnAt w13 b13 (.slice a13 n c13) n N) := ho13
  have HK13 : Hid (OwnAt w13 g3 (.slice a3 m c3) m (ndAt L5)) := HK12.out.below hb13
  have HG13 : Hid (OwnAt w13 g6 (.slice a5 m c5) m (fun i => mk (1 + 5 * i))) := HG12.out.below hb13
  clear hb13 ho13 HK12 HG12 x12 u12 v12 l13 m13
  go_wp2_with fail
  refine (implId_own b13 n a13 c13 N _ HO13.out HSM.out (HTB.out.up HB13.out) cc13 (HML.out.below HB13.out)).mono ?_
  rintro e w14 ⟨v14, g', g14, L14, rfl, hg, hg14, ho14, hb14⟩
  obtain ⟨rfl, rfl⟩ : g' = g ∧ L14 = L5 := hg.same HQ.out
  rw [← HM.out] at ho14
  obtain ⟨a14, c14, rfl⟩ := ho14.form
  have z1314 := hb14.size
  have u14 : w14.cell? ⟨w3.heap.size, 0, none⟩ = some (.slice a3 m c3) := (hb14.cell (by show w3.heap.size < _; omega)).trans u13
  have v14' : w14.cell? ⟨w5.heap.size, 0, none⟩ = some (.slice a5 m c5) := (hb14.cell (by show w5.heap.size < _; omega)).trans v13
  have z14u : w3.heap.size < w14.heap.size := by omega
  have z14v : w5.heap.size < w14.heap.size := by omega
  have HB14 : Hid (Below w.heap.size w w14) := HB13.out.trans (hb14.mono HB13.out.size)
  have HK14 : Hid (OwnAt w14 g3 (.slice a3 m c3) m (ndAt L14)) := HK13.out.below hb14
  have HG14 : Hid (OwnAt w14 g6 (.slice a5 m c5) m (fun i => mk (1 + 5 * i))) := HG13.out.below hb14
  have HH14 : Hid (OwnAt w14 g14 (.slice a14 m c14) m (ndAt L14)) := ho14
  clear hb14 ho14 HK13 HG13 u13 v13 hg hg14 HO13
  go_wp2_with fail
  have al14 : ∀ o, Below w14.heap.size w14 (w14.alloc o) := fun o => (Below.refl _ _).alloc (Nat.le_refl _) o
  refine (eqValue_any _ _ m (ndAt L14) _ ((HH14.out.below (al14 _)).slice) ((HK14.out.below (al14 _)).slice)).mono ?_
  rintro e w15 ⟨rfl, hb15⟩
  have B45 : Below w14.heap.size w14 w15 := (al14 _).trans (hb15.mono (by simp))
  have v15 : w15.cell? ⟨w5.heap.size, 0, none⟩ = some (.slice a5 m c5) := (B45.cell (by show w5.heap.size < _; omega)).trans v14'
  have z15 := B45.size
  have HB15 : Hid (Below w.heap.size w w15) := HB14.out.trans (B45.mono HB14.out.size)
  have HG15 : Hid (OwnAt w15 g6 (.slice a5 m c5) m (fun i => mk (1 + 5 * i))) := HG14.out.below B45
  clear hb15 HK14 HG14 HH14 al14 B45 v14' u14
  go_wp2_with fail
  refine (heldValue_any _ g6 m 1 _ (by omega) (by omega) HG15.out).mono ?_
  rintro e w16 ⟨rfl, hb16⟩
  have HB16 : Hid (Below w.heap.size w w16) := HB15.out.trans (hb16.mono HB15.out.size)
  clear hb16 HG15
  go_wp2
  go_ret
  exact ⟨rfl, HB16.out⟩

end Go.Proofs.YtnmbnebofbdmfaaGreatDoor
namespace Go.Proofs.YtnmbnebofbdmfaaGreatDoor
open Go.ChangeShapes Go.WideShapes Go.ChangeAt Go.RowKit
open Go.ChangeMaps (open_string shut_string)
set_option linter.unusedVariables false

set_option maxRecDepth 100000 in
/-- WHAT THE WALK GIVES, for every argument and every world that holds the tables. -/
theorem idof_contract (H : Type) (enc : TypeId × Value → H) (W : World) (base : Nat) (args : Array Value) (ds gs : List (DataW H)) (before : List MemPlace)
    (hval : ∀ (j : Nat) t v, Tryz.f3.params[j]? = some t → args[j]? = some v → Value.okWide Tryz.prog W .any base t v)
    (hW : DataW.Whole enc Tryz.prog Tryz.f3.params.toList Rows.fnExactIdOfSpec.vars false W args.toList ds gs before) (hL : laidMetH Tryz.prog Rows.fnExactIdOfRow.laid W) (hS : W.ShapedOpen Tryz.prog) :
    Calls Tryz.prog 3 args W fun e W' => ∃ v, e = .returned v ∧ Rows.fnExactIdOfSpec.post enc Tryz.prog Tryz.f3 false true false false W args v W' := by
  have hW' := hW
  obtain ⟨p, q, hA0, hV, rfl, hfz, hnd⟩ := hW
  have hA : DataW.TrodAll enc Tryz.prog W 0 (fun _ => true) true Tryz.f3.params.toList args.toList ds p := hA0
  rw [Tryz.params3] at hA hval
  obtain ⟨v0, vs0, d0, ds0, p0, q0, hargs, rfl, rfl, h0, r0⟩ := trodAll_cons hA
  obtain ⟨rfl, rfl, rfl⟩ := trodAll_nil r0
  obtain rfl : args = #[v0] := by cases args; simp_all
  obtain ⟨rfl, rfl⟩ := trodVars_none hV
  have k0 := h0
  have lt0 : ∀ x ∈ p0, x.block < W.heap.size := by obtain ⟨m, hm⟩ := k0; exact DataW.trod_lt m _ _ _ hm
  obtain ⟨a, n, c, N, rfl, hn, harg, hz⟩ := open_value (hval 0 24 v0 rfl rfl) h0
  clear hA0
  refine (idOf_law a c n N W hn harg hz (table (show laidMet Tryz.prog Rows.fnExactIdOfRow.laid W from hL)) (ml_of hS)).mono fun e W' ⟨he, bel⟩ => ?_
  subst he
  exact ⟨_, rfl, _, _, _, [], _, [], hW', trodAll_mk1 (shut_bool Tryz.underlying4 _), (trodAll_cons_mk (Below.trod laidOut (by kernel_rfl) (of_decide_eq_true (by kernel_rfl)) k0 bel lt0) trodAll_mk0), rfl, bel.frame _, fun h => by cases h⟩

theorem idof_reads (os : Os) {H : Type} (enc : TypeId × Value → H) : ∃ places, DataW.whole enc Tryz.prog ((layRunes (layTabs (World.holding Tryz.prog os ⟨#[], #[], []⟩))).forCall (fun _ _ => 0) ⟨#[], #[.agg #[.slice none 0 0]], []⟩).memory Tryz.f3.params.toList Rows.fnExactIdOfSpec.vars false #[Value.agg #[.slice none 0 0]].toList 8 = some ([.agg [.nil]], [], places) :=
  ⟨[], by kernel_rfl⟩
theorem idof_laid (os : Os) : laidMet Tryz.prog Rows.fnExactIdOfRow.laid ((layRunes (layTabs (World.holding Tryz.prog os ⟨#[], #[], []⟩))).forCall (fun _ _ => 0) ⟨#[], #[.agg #[.slice none 0 0]], []⟩).memory :=
  laidMet_of_run' 8 (by kernel_rfl) (by kernel_rfl)

set_option maxRecDepth 100000 in
theorem idof_lifted (os : Os) (started : os.Started) (H : Type) (enc : TypeId × Value → H) (F : Stop.Interp) :
    ReturnsInHanded {} Tryz.checked os 3 .any ((OpenSpec.ofChange Rows.fnExactIdOfSpec).preRow enc Tryz.prog Tryz.f3 Rows.fnExactIdOfRow.domain false Rows.fnExactIdOfRow.laid) (((OpenSpec.ofChange Rows.fnExactIdOfSpec).at F).post enc Tryz.prog Tryz.f3 false true false false) := by
  obtain ⟨places, hx⟩ := idof_reads os enc
  refine returnsInHanded_of_row (C := Tryz.checked) (s := OpenSpec.ofChange Rows.fnExactIdOfSpec) own started (by kernel_rfl) Tryz.func3
    (witness_row_at (enc := enc) (C := Tryz.checked) false (layRunes (layTabs (World.holding Tryz.prog os ⟨#[], #[], []⟩))) #[.agg #[.slice none 0 0]] rfl (by kernel_rfl) (by kernel_rfl) (by kernel_rfl)
      (OpenSpec.preRow_of_cond 8 hx (by kernel_rfl) (fun k hk => by cases hk) (by kernel_rfl) (idof_laid os))) ?_
  intro W base args ds gs before hval hW _ _ _ hL hS _
  exact idof_contract H enc W base args ds gs before hval hW hL hS

theorem idof_said : Rows.FnExactIdOfSaid :=
  OpenClaim.holds_of_cond 3 Tryz.f3 rfl rfl rfl rfl rfl rfl rfl ⟨rfl, rfl, rfl, rfl, rfl⟩ rfl rfl rfl rfl rfl (by kernel_rfl) Tryz.func3 (by kernel_rfl)
    (of_decide_eq_true (by kernel_rfl)) (by unfold Func.isWrapper; first | (rw [if_pos (by decide +kernel)]; kernel_rfl) | (rw [if_neg (by decide +kernel)]; exact ⟨rfl, rfl⟩))
    (fun os started H enc _ F => by rw [OpenClaim.pre_eq_preRow]; exact idof_lifted os started H enc F)

theorem idof_plain (f : FuncId) (fn : Func) (hf : Tryz.pinned.checked.prog.funcNamed "loop.example/g00274/laws.FnExactIdOf" = some f) (hfn : Tryz.pinned.checked.prog.funcs[f]? = some fn) :
    false = Tryz.pinned.checked.prog.looks [] ∧ ∀ (j : Nat) t, fn.params[j]? = some t → Tryz.pinned.checked.prog.wantsStandIn t = false := by
  obtain rfl : f = 3 := Option.some.inj ((show Tryz.prog.funcNamed "loop.example/g00274/laws.FnExactIdOf" = some 3 by kernel_rfl).symm.trans hf) |>.symm
  obtain rfl : fn = Tryz.f3 := (Option.some.inj (Tryz.func3.symm.trans hfn)).symm
  refine ⟨by kernel_rfl, fun j t ht => ?_⟩
  rw [Tryz.params3] at ht
  obtain rfl : t = 24 := by simpa using Array.mem_of_getElem? ht
  exact (show Tryz.prog.wantsStandIn 24 = false by kernel_rfl)

/-- THE CARD. -/
theorem idOf_card : Rows.FnExactIdOfCardSaid :=
  Claim7.holds_tied_plain_at .later [] _ _ _ _ idof_said (fun _ h => by cases h) (by kernel_rfl) (fun _ h => by cases h) fnExactIdOf_row_tie rfl ⟨rfl, rfl⟩ (by kernel_rfl) rfl idof_plain (by kernel_rfl)
#print axioms idOf_card

end Go.Proofs.YtnmbnebofbdmfaaGreatDoor
