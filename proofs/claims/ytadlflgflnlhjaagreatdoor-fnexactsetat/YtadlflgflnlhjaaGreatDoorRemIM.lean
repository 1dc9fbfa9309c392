/- A tree without what names lead to: the specification's l3Remove. A value without what a path leads to: the program and the specification. A value without what a path leads to: the program. -/
import Derived.Test.YtadlflgflnlhjaaGreatDoorSetG
import Derived.Test.YtadlflgflnlhjaaGreatDoorPathC
import Derived.Deep.RegionHeld3
import Derived.Test.YtadlflgflnlhjaaGreatDoorHasA
import Derived.Test.YtadlflgflnlhjaaGreatDoorSubL
import Derived.Test.YtadlflgflnlhjaaGreatDoorPutB
namespace Go.Proofs.YtadlflgflnlhjaaGreatDoor
open Go.RowKit
set_option linter.unusedVariables false

/-- WHAT l3Remove ANSWERS. -/
def RemIs (S : Nat → Prop) (t : Tr) (l : List ByteArray) (w : World) (e : Ending) (w' : World) : Prop :=
  ∃ (k n : Int) (tx : ByteArray) (an : Option Addr) (mn cn : Nat) (ak : Option Addr) (mk ck : Nat), e = .returned (.tuple #[.agg #[.int .i64 k, .int .i64 n, .string tx, .slice an mn cn, .slice ak mk ck], .bool (remT l t).isSome]) ∧ (∀ x, remT l t = some x → TreeIs w' (fun b => S b ∨ w.heap.size ≤ b) x (.agg #[.int .i64 k, .int .i64 n, .string tx, .slice an mn cn, .slice ak mk ck])) ∧ Below w.heap.size w w'

theorem lst_cons (f : Nat → ByteArray) (m : Nat) : lst f (m + 1) = f 0 :: lst (fun i => f (i + 1)) m := by
  unfold lst
  rw [List.range_succ_eq_map, List.map_cons, List.map_map]
  rfl

theorem tree_past {w w' : World} {S1 S2 : Nat → Prop} {t : Tr} {v : Value} {C : Nat} (h : TreeIs w S1 t v) (hb : BelowBut w.heap.size C w w') (h1 : ∀ b, S1 b → b < w.heap.size → b ≠ C) (h2 : ∀ b, S1 b → S2 b) : TreeIs w' S2 t v :=
  TreeIs.keep (fun b hS hlt => hb.block b hlt (h1 b hS hlt)) (fun b hS _ => h2 b hS) hb.size _ _ h
theorem tree_old {w w' : World} {S : Nat → Prop} {t : Tr} {v : Value} (h : TreeIs w S t v) (hb : Below w.heap.size w w') : TreeIs w' (fun b => S b ∧ b < w.heap.size) t v :=
  TreeIs.keep (fun b _ hlt => hb.block b hlt) (fun b hS hlt => ⟨hS, hlt⟩) hb.size _ _ h

end Go.Proofs.YtadlflgflnlhjaaGreatDoor
namespace Go.Proofs.YtadlflgflnlhjaaGreatDoor
open Go.RowKit
set_option linter.unusedVariables false

theorem nameds_sub {l l' : List Tr} (h : Tr.nameds l) (hs : ∀ t ∈ l', t ∈ l) : Tr.nameds l' := Tr.nameds_mem.2 fun t ht => Tr.nameds_mem.1 h t (hs t ht)
theorem rem_named : ∀ (l : List ByteArray) (t t' : Tr), t.named → remT l t = some t' → t'.named := by
  intro l
  induction l with
  | nil => intro t t' _ h; simp [remT] at h
  | cons x r ih =>
    intro t t' hn h
    obtain ⟨k, n, tx, nm, ks⟩ := t
    rw [remT] at h
    dsimp only [Tr.kind, Tr.names, Tr.kids] at h
    rw [Tr.named] at hn
    cases ha : atI k nm x ks.length with
    | none => rw [ha] at h; simp at h
    | some i =>
      have hi := atI_lt ha
      rw [ha] at h
      simp only [Option.bind_some] at h
      by_cases hr : r.isEmpty = true
      · rw [if_pos hr] at h
        obtain rfl := Option.some.inj h
        rw [cutK, Tr.named]
        refine ⟨fun h7 => ?_, nameds_sub hn.2 (fun t ht => List.mem_of_mem_eraseIdx ht)⟩
        rw [if_pos h7, List.length_eraseIdx_of_lt (by rw [hn.1 h7]; exact hi), List.length_eraseIdx_of_lt hi, hn.1 h7]
      · rw [if_neg hr, List.getElem?_eq_getElem hi] at h
        simp only [Option.bind_some] at h
        obtain ⟨y', hy', rfl⟩ := Option.map_eq_some_iff.1 h
        rw [withK, Tr.named]
        refine ⟨fun h7 => by rw [List.length_set]; exact hn.1 h7, Tr.nameds_mem.2 fun t ht => ?_⟩
        rcases List.mem_or_eq_of_mem_set ht with h1 | rfl
        · exact Tr.nameds_mem.1 hn.2 t h1
        · exact ih _ _ (Tr.nameds_mem.1 hn.2 _ (List.getElem_mem hi)) hy'

def CutTo (N : Nat → Nd) (n : Nat) (s : ByteArray) : Prop := AskedOf N n s ∧ nmsL s ≠ [] ∧ (goN N n 0 (nmsL s)).isSome = true
/-- WHAT RemoveAt ANSWERS. -/
def RTold (N : Nat → Nd) (n : Nat) (s : ByteArray) (q : Bool) (L : List Nd) : Prop := (q = true ∧ CutTo N n s ∧ ∃ k e, goN N n 0 (nmsL s) = some k ∧ IsEnd N n k e ∧ L = cutN N n k e) ∨ (q = false ∧ ¬ CutTo N n s ∧ L = [])
theorem RTold.same {N : Nat → Nd} {n : Nat} {s : ByteArray} {q r : Bool} {L M : List Nd} (h : RTold N n s q L) (k : RTold N n s r M) : q = r ∧ L = M := by
  rcases h with ⟨rfl, g, x, e, hx, he, rfl⟩ | ⟨rfl, g, rfl⟩ <;> rcases k with ⟨rfl, g', x', e', hx', he', rfl⟩ | ⟨rfl, g', rfl⟩
  · obtain rfl : x = x' := Option.some.inj (hx.symm.trans hx')
    obtain rfl := end_unique he he'
    exact ⟨rfl, rfl⟩
  · exact absurd g g'
  · exact absurd g' g
  · exact ⟨rfl, rfl⟩
def RmIs (N : Nat → Nd) (n : Nat) (s : ByteArray) (w : World) (e : Ending) (w' : World) : Prop :=
  ∃ v q b L, e = .returned (.tuple #[.agg #[v], .bool q]) ∧ RTold N n s q L ∧ (L ≠ [] → w.heap.size ≤ b ∧ b < w'.heap.size) ∧ OwnAt w' b v L.length (fun i => L.getD i ⟨0, 0, ⟨#[]⟩, ⟨#[]⟩, 0⟩) ∧ Below w.heap.size w w'
theorem RmIs.no {N : Nat → Nd} {n : Nat} {s : ByteArray} {w w' : World} (h : ¬ CutTo N n s) (hb : Below w.heap.size w w') : RmIs N n s w (.returned (.tuple #[.agg #[.slice none 0 0], .bool false])) w' :=
  ⟨_, _, 0, [], rfl, .inr ⟨rfl, h, rfl⟩, fun h => absurd rfl h, ⟨none, 0, 0, rfl, by decide, .inl rfl⟩, hb⟩
theorem cutN_len {N : Nat → Nd} {n k e : Nat} (he : IsEnd N n k e) : (cutN N n k e).length = k + (n - e) := by
  have h1 := he.1
  have h2 := he.2.1
  unfold cutN cutL
  rw [List.length_append, List.length_map, List.length_take, List.length_drop, List.length_map, List.length_range]
  omega
theorem RmIs.yes {N : Nat → Nd} {n k e B : Nat} {s : ByteArray} {w w' : World} {v : Value} (h : CutTo N n s) (hk : goN N n 0 (nmsL s) = some k) (he : IsEnd N n k e) (hB : w.heap.size ≤ B) (hn : n ≤ 2 ^ 20) (ho : OwnsN w' B v (cutN N n k e)) (hb : Below w.heap.size w w') : RmIs N n s w (.returned (.tuple #[.agg #[v], .bool true])) w' := by
  obtain ⟨b, h1, h2⟩ := ho.own (by rw [cutN_len he]; have := he.1; have := he.2.1; omega)
  exact ⟨v, true, b, cutN N n k e, rfl, .inl ⟨rfl, h, k, e, hk, he, rfl⟩, fun hn => ⟨Nat.le_trans hB (h1 hn).1, (h1 hn).2⟩, h2, hb⟩

theorem goN_lt {N : Nat → Nd} {n : Nat} : ∀ (l : List ByteArray) (k p : Nat), k < n → goN N n k l = some p → p < n := by
  intro l
  induction l with
  | nil => intro k p hk h; simp [goN] at h; omega
  | cons nm r ih =>
    intro k p hk h
    rw [goN] at h
    obtain ⟨q, hq, h'⟩ := Option.bind_eq_some_iff.1 h
    exact ih q p (kidsTo_mem (findP_kid hq)).2.1 h'

end Go.Proofs.YtadlflgflnlhjaaGreatDoor
namespace Go.Proofs.YtadlflgflnlhjaaGreatDoor
open Go.RowKit
set_option linter.unusedVariables false

theorem putL_nil {N : Nat → Nd} {n p e : Nat} (h : p ≤ e) (he : e ≤ n) : putL N n p e [] = cutN N n p e := by
  unfold putL cutN cutL
  rw [show p + (e - p) = e by omega, show 0 + p + (e - p) = e by omega, List.append_nil]
  congr 1
  · rw [← List.map_take, List.take_range, Nat.min_eq_left (by omega)]
    simp
  · apply List.ext_getElem?
    intro i
    rw [List.getElem?_map, List.getElem?_map, List.getElem?_map, List.getElem?_drop, List.getElem?_map]
    by_cases hi : i < n - e
    · rw [List.getElem?_range hi, List.getElem?_range (by omega)]
      simp only [Option.map_some]
      unfold mvN downN dn
      split
      · simp only [List.length_nil]
        congr 2
        omega
      · rfl
    · rw [List.getElem?_eq_none (by simpa using hi), List.getElem?_eq_none (by simp; omega)]
      rfl

theorem good_ups {N : Nat → Nd} {n : Nat} (h : GoodV N n) : ∀ i, i < n → -1 ≤ (N i).up ∧ (N i).up ≤ 2 ^ 20 := fun i hi => by
  have h1 := good_up h i hi
  have h2 := h.1.2.1
  have hp := good_pre h
  by_cases h0 : i = 0
  · subst h0
    have := hp.1
    omega
  · have := (hp.2 i (by omega) hi).1
    omega

end Go.Proofs.YtadlflgflnlhjaaGreatDoor
