/- What names lead to: the same by nodes and by trees. No program in this text. A value and a path of which something may be asked. -/
import Derived.Test.YtadlflgflnlhjaaGreatDoorL3G0
import Derived.Test.YtadlflgflnlhjaaGreatDoorSubL
import Derived.Test.YtadlflgflnlhjaaGreatDoorPathC
namespace Go.Proofs.YtadlflgflnlhjaaGreatDoor
open Go.RowKit
set_option linter.unusedVariables false

/-- Only a list and a map have parts. -/
theorem good_kids {N : Nat → Nd} {n k p : Nat} (h : GoodV N n) (hp : p ∈ kidsTo N k n) : (N k).kind = 6 ∨ (N k).kind = 7 := by
  obtain ⟨h1, h2, h3⟩ := kidsTo_mem hp
  have hpar : par N p = k := by unfold par; rw [h3]; rfl
  rcases (h.1.2.2 p h2).2.1 with ⟨e, _⟩ | ⟨_, _, _, _, ⟨h, _⟩ | ⟨h, _⟩⟩
  · omega
  · rw [hpar] at h; exact .inl h
  · rw [hpar] at h; exact .inr h
theorem good_up {N : Nat → Nd} {n : Nat} (h : GoodV N n) : ∀ i, i < n → (N i).up < (i : Int) := fun i hi => by
  have hp := good_pre h
  by_cases h0 : i = 0
  · subst h0
    rw [hp.1 hi]
    decide
  · exact (hp.2 i (by omega) hi).2.1

theorem parts_at {N : Nat → Nd} {k n i p : Nat} (h : (kidsTo N k n)[i]? = some p) : (partsTo N k n)[i]? = some (nmAt N k i p, p) := by
  unfold partsTo
  rw [List.getElem?_map, List.getElem?_zipIdx, h]
  simp

theorem hit_is {N : Nat → Nd} {n k i p : Nat} (hg : GoodV N n) (nm : ByteArray) (h : (kidsTo N k n)[i]? = some p) : hitI (N k).kind (kidNames N k (kidsTo N k n)) nm i = ((nmAt N k i p).toList == nm.toList) := by
  rcases good_kids hg (List.mem_of_getElem? h) with h6 | h7
  · unfold hitI nmAt
    rw [if_pos h6, h6]
    simp
  · have hn : (kidNames N k (kidsTo N k n)).getD i ByteArray.empty = (N p).name := by
      unfold kidNames
      rw [if_pos h7, List.getD_eq_getElem?_getD, List.getElem?_map, h]
      rfl
    unfold hitI nmAt
    rw [hn, if_neg (by rw [h7]; decide), h7]
    simp

theorem find_at {N : Nat → Nd} {n k : Nat} (hg : GoodV N n) (nm : ByteArray) : findP (partsTo N k n) nm = (atI (N k).kind (kidNames N k (kidsTo N k n)) nm (kidsTo N k n).length).bind fun i => (kidsTo N k n)[i]? := by
  cases ha : atI (N k).kind (kidNames N k (kidsTo N k n)) nm (kidsTo N k n).length with
  | none =>
    have hno : noneOf nm (partsTo N k n) := fun x hx => by
      obtain ⟨i, hi⟩ := List.mem_iff_getElem?.1 hx
      have hil : i < (kidsTo N k n).length := by
        have := (List.getElem?_eq_some_iff.1 hi).1
        rwa [partsTo_len] at this
      have hp : (kidsTo N k n)[i]? = some (kidsTo N k n)[i] := List.getElem?_eq_getElem hil
      have e := (parts_at hp).symm.trans hi
      obtain rfl := Option.some.inj e
      have := List.find?_eq_none.1 ha i (List.mem_range.2 hil)
      rw [hit_is hg nm hp] at this
      simpa using this
    rw [find_none hno]
    rfl
  | some i =>
    have hil := atI_lt ha
    have hp : (kidsTo N k n)[i]? = some (kidsTo N k n)[i] := List.getElem?_eq_getElem hil
    have hh : hitI (N k).kind (kidNames N k (kidsTo N k n)) nm i = true := List.find?_some ha
    have hit : hitOf nm ((partsTo N k n).take (i + 1)) := by
      refine ⟨(partsTo N k n).take i, (nmAt N k i (kidsTo N k n)[i], (kidsTo N k n)[i]), ?_, fun x hx => ?_, ?_⟩
      · rw [List.take_add_one, parts_at hp]; rfl
      · obtain ⟨j, hj⟩ := List.mem_iff_getElem?.1 hx
        have hjl := (List.getElem?_eq_some_iff.1 hj).1
        rw [List.length_take] at hjl
        have hji : j < i := by omega
        rw [List.getElem?_take_of_lt hji] at hj
        have hpj : (kidsTo N k n)[j]? = some (kidsTo N k n)[j] := List.getElem?_eq_getElem (by omega)
        have e := (parts_at hpj).symm.trans hj
        obtain rfl := Option.some.inj e
        have hne : hitI (N k).kind (kidNames N k (kidsTo N k n)) nm j = false := by
          have := (List.find?_range_eq_some.1 ha).2.2 j hji
          simpa using this
        rw [hit_is hg nm hpj] at hne
        exact hne
      · rw [← hit_is hg nm hp]; exact hh
    rw [find_hit hit (List.take_prefix _ _)]
    show some (lastN _) = (kidsTo N k n)[i]?
    rw [hp]
    congr 1
    unfold lastN
    rw [List.take_add_one, parts_at hp]
    simp

/-- BY NODES AND BY TREES THE SAME IS FOUND. -/
theorem get_go {N : Nat → Nd} {n : Nat} (hg : GoodV N n) : ∀ (l : List ByteArray) (k : Nat), k < n → getT (tree N n k) l = (goN N n k l).map (tree N n) := by
  intro l
  induction l with
  | nil => intro k hk; rfl
  | cons nm r ih =>
    intro k hk
    rw [goN, find_at hg nm, tree_eq hk, getT]
    show (atI (N k).kind (kidNames N k (kidsTo N k n)) nm ((kidsTo N k n).map (tree N n)).length).bind _ = _
    rw [List.length_map]
    cases ha : atI (N k).kind (kidNames N k (kidsTo N k n)) nm (kidsTo N k n).length with
    | none => rfl
    | some i =>
      have hil := atI_lt ha
      have hp : (kidsTo N k n)[i]? = some (kidsTo N k n)[i] := List.getElem?_eq_getElem hil
      have hm := kidsTo_mem (List.mem_of_getElem? hp)
      show (((kidsTo N k n).map (tree N n))[i]?).bind _ = Option.map _ (((kidsTo N k n)[i]?).bind _)
      rw [List.getElem?_map, hp]
      exact ih _ hm.2.1

end Go.Proofs.YtadlflgflnlhjaaGreatDoor
namespace Go.Proofs.YtadlflgflnlhjaaGreatDoor
open Go.RowKit
set_option linter.unusedVariables false

def nmsL (s : ByteArray) : List ByteArray := lst (namesF s.data.toList) (namesN s.data.toList)
/-- A value and a path of which it may be asked. -/
def AskedOf (N : Nat → Nd) (n : Nat) (s : ByteArray) : Prop := GoodV N n ∧ (namesL s.data.toList).isSome = true
theorem names60 (l : List UInt8) : namesN l ≤ 61 := by
  unfold namesN
  by_cases h : l.length ≤ 60
  · rw [names_pairs l h]
    split
    · show ((pairsL l).map _).length ≤ 61
      rw [List.length_map]
      have := pairs_len l
      omega
    · simp
  · have : namesL l = none := by
      unfold namesL
      rw [if_neg (fun k => h k.1)]
    rw [this]
    simp
theorem OwnS.argv {w : World} {g : Nat} {a : Option Addr} {n c : Nat} {f : Nat → ByteArray} (h : OwnS w g (.slice a n c) n f) : ArgS w a n f := h.arg

end Go.Proofs.YtadlflgflnlhjaaGreatDoor
