/- A good value's tree. A node with all its own, by itself: the program and the specification. -/
import Derived.Test.YtnmbnebofbdmfaaGreatDoorGoodOwn
import Derived.Test.YtnmbnebofbdmfaaGreatDoorTreeM
import Derived.Test.YtnmbnebofbdmfaaGreatDoorTreeD0
import Derived.Test.YtnmbnebofbdmfaaGreatDoorTreeF0
namespace Go.Proofs.YtnmbnebofbdmfaaGreatDoor
open Go.RowKit
set_option linter.unusedVariables false

theorem good_pre {N : Nat → Nd} {n : Nat} (h : GoodV N n) : Pre N n := h.1.2.2.pre
theorem text_empty {t : ByteArray} (h : noText t = true) : t = ByteArray.empty := by
  have h0 : t.toList = [] := List.isEmpty_iff.1 h
  rw [ByteArray.toList_eq] at h0
  cases t with
  | mk a => cases a with
    | mk l => simp at h0; subst h0; rfl
theorem good_noNames {N : Nat → Nd} {n : Nat} (h : GoodV N n) : NoNames N n := fun p h0 hp hk => by
  rcases (h.1.2.2 p hp).2.1 with ⟨e, _⟩ | ⟨_, _, _, _, ⟨_, h⟩ | ⟨h, _⟩⟩
  · omega
  · exact text_empty h
  · exact absurd h hk
theorem good_zero {N : Nat → Nd} {n : Nat} (h : GoodV N n) : (N 0).name = ByteArray.empty := by
  rcases (h.1.2.2 0 h.1.1).2.1 with ⟨_, _, h⟩ | ⟨h, _⟩
  · exact text_empty h
  · omega
theorem good_flat {N : Nat → Nd} {n : Nat} (h : GoodV N n) : (tree N n 0).flat ByteArray.empty (-1) 0 = (List.range n).map N := flat_whole (good_pre h) (good_noNames h) h.1.1 (good_zero h)
theorem good_cnt {N : Nat → Nd} {n : Nat} (h : GoodV N n) : (tree N n 0).cnt = n := by
  have := congrArg List.length (good_flat h)
  rw [Tr.flat_length] at this
  simpa using this
end Go.Proofs.YtnmbnebofbdmfaaGreatDoor
namespace Go.Proofs.YtnmbnebofbdmfaaGreatDoor
open Go.RowKit
set_option linter.unusedVariables false

/-- The nodes of k up to q, by themselves. -/
def subTo (N : Nat → Nd) (k q : Nat) : List Nd := ⟨(N k).kind, (N k).num, (N k).text, ⟨#[]⟩, -1⟩ :: seg N k (k + 1) q
theorem subTo_len (N : Nat → Nd) (k q : Nat) : (subTo N k q).length = q - (k + 1) + 1 := by unfold subTo; rw [List.length_cons, seg_len]
theorem subTo_snoc {N : Nat → Nd} {k q : Nat} (h : k < q) : subTo N k (q + 1) = subTo N k q ++ [{ N q with up := (N q).up - k }] := by
  unfold subTo
  rw [seg_cat N k (a := k + 1) (m := q) (e := q + 1) (by omega) (by omega), seg_cons N k (Nat.lt_succ_self q), seg_nil]
  rfl

/-- WHAT SubOf ANSWERS. -/
def STold (N : Nat → Nd) (n : Nat) (z : Int) (q : Bool) (L : List Nd) : Prop := (q = true ∧ HasN N n z ∧ ∃ e, IsEnd N n z.toNat e ∧ L = subTo N z.toNat e) ∨ (q = false ∧ ¬ HasN N n z ∧ L = [])
theorem STold.same {N : Nat → Nd} {n : Nat} {z : Int} {q r : Bool} {L M : List Nd} (h : STold N n z q L) (k : STold N n z r M) : q = r ∧ L = M := by
  rcases h with ⟨rfl, g, e, he, rfl⟩ | ⟨rfl, g, rfl⟩ <;> rcases k with ⟨rfl, g', e', he', rfl⟩ | ⟨rfl, g', rfl⟩
  · rw [end_unique he he']; exact ⟨rfl, rfl⟩
  · exact absurd g g'
  · exact absurd g' g
  · exact ⟨rfl, rfl⟩

/-- A row of nodes of the call's own, as a value's. -/
theorem OwnsN.own {w : World} {B : Nat} {v : Value} {L : List Nd} (h : OwnsN w B v L) (hl : L.length ≤ 2 ^ 30) : ∃ b, (L ≠ [] → B ≤ b ∧ b < w.heap.size) ∧ OwnAt w b v L.length (fun i => L.getD i ⟨0, 0, ⟨#[]⟩, ⟨#[]⟩, 0⟩) := by
  have hc := @World.ownsRow.cells _ _ _ _ _ _ _ h
  have hlt := @World.ownsRow.lt _ _ _ _ _ _ _ h
  rcases h.2 with ⟨rfl, e⟩ | ⟨g, cap, cur, rfl, hg, hh, hcap, _, hcs, _⟩
  · exact ⟨0, fun hn => absurd (List.eq_nil_of_length_eq_zero e) hn, none, 0, 0, by rw [e], hl, .inl e⟩
  · refine ⟨g, fun _ => hlt g rfl, _, cap, 0, rfl, hl, .inr ⟨rfl, (hlt g rfl).2, fun i hi => ?_, fun o ho => ?_⟩⟩
    · have hget : ∀ (l : List Nd) (i : Nat) (hi : i < l.length), (ndCells l)[i * 5]? = some (.int .i64 l[i].kind) ∧ (ndCells l)[i * 5 + 1]? = some (.int .i64 l[i].num) ∧ (ndCells l)[i * 5 + 2]? = some (.string l[i].text) ∧ (ndCells l)[i * 5 + 3]? = some (.string l[i].name) ∧ (ndCells l)[i * 5 + 4]? = some (.int .i64 l[i].up) := by
        intro l
        induction l with
        | nil => intro i hi; simp at hi
        | cons y l ih =>
          intro i hi
          have hcc : ndCells (y :: l) = [.int .i64 y.kind, .int .i64 y.num, .string y.text, .string y.name, .int .i64 y.up] ++ ndCells l := by simp [ndCells]
          rw [hcc]
          cases i with
          | zero => simp
          | succ i =>
            have := ih i (by simpa using hi)
            have e : ∀ j, ([Value.int .i64 y.kind, .int .i64 y.num, .string y.text, .string y.name, .int .i64 y.up] ++ ndCells l)[(i + 1) * 5 + j]? = (ndCells l)[i * 5 + j]? := fun j => by
              rw [List.getElem?_append_right (by simp; omega)]
              congr 1
              simp
              omega
            exact ⟨(e 0).trans this.1, (e 1).trans this.2.1, (e 2).trans this.2.2.1, (e 3).trans this.2.2.2.1, (e 4).trans this.2.2.2.2⟩
      have hadd : ∀ j : Nat, (⟨g, 0, none⟩ : Addr).add j = ⟨g, j, none⟩ := fun j => by unfold Addr.add; split <;> simp_all
      obtain ⟨q0, q1, q2, q3, q4⟩ := hget L i hi
      have hcc := fun j u hu => (hadd j) ▸ hc (g := g) rfl j u hu
      have eL : L.getD i ⟨0, 0, ⟨#[]⟩, ⟨#[]⟩, 0⟩ = L[i] := by rw [List.getD_eq_getElem?_getD, List.getElem?_eq_getElem hi]; rfl
      simp only [Nat.zero_add, eL]
      exact ⟨hcc _ _ q0, hcc _ _ q1, hcc _ _ q2, hcc _ _ q3, hcc _ _ q4⟩
    · simp [World.frozen?, hh]

def SubIs (N : Nat → Nd) (n : Nat) (z : Int) (w : World) (e : Ending) (w' : World) : Prop :=
  ∃ v q b L, e = .returned (.tuple #[.agg #[v], .bool q]) ∧ STold N n z q L ∧ (L ≠ [] → w.heap.size ≤ b ∧ b < w'.heap.size) ∧ OwnAt w' b v L.length (fun i => L.getD i ⟨0, 0, ⟨#[]⟩, ⟨#[]⟩, 0⟩) ∧ Below w.heap.size w w'

theorem SubIs.no {N : Nat → Nd} {n : Nat} {z : Int} {w w' : World} (h : ¬ HasN N n z) (hb : Below w.heap.size w w') : SubIs N n z w (.returned (.tuple #[.agg #[.slice none 0 0], .bool false])) w' :=
  ⟨_, _, 0, [], rfl, .inr ⟨rfl, h, rfl⟩, fun h => absurd rfl h, ⟨none, 0, 0, rfl, by decide, .inl rfl⟩, hb⟩
theorem SubIs.yes {N : Nat → Nd} {n k e B : Nat} {w w' : World} {v : Value} (h : HasN N n k) (he : IsEnd N n k e) (hB : w.heap.size ≤ B) (hn : n ≤ 2 ^ 20) (ho : OwnsN w' B v (subTo N k e)) (hb : Below w.heap.size w w') : SubIs N n k w (.returned (.tuple #[.agg #[v], .bool true])) w' := by
  obtain ⟨b, h1, h2⟩ := ho.own (by rw [subTo_len]; have := he.2.1; omega)
  exact ⟨v, true, b, subTo N k e, rfl, .inl ⟨rfl, h, e, by simpa using he, by simp⟩, fun hn => ⟨Nat.le_trans hB (h1 hn).1, (h1 hn).2⟩, h2, hb⟩

/-- The trees of nodes name their parts. -/
theorem tree_named (N : Nat → Nd) (n : Nat) : ∀ d k, n - k = d → k < n → (tree N n k).named := by
  intro d
  induction d using Nat.strongRecOn with
  | _ d ih =>
    intro k hd hk
    rw [tree_eq hk, Tr.named]
    refine ⟨fun h7 => by unfold kidNames; rw [if_pos h7]; simp, Tr.nameds_mem.2 fun t ht => ?_⟩
    obtain ⟨p, hp, rfl⟩ := List.mem_map.1 ht
    obtain ⟨p1, p2, p3⟩ := kidsTo_mem hp
    exact ih (n - p) (by omega) p rfl p2
theorem tree_sub {N : Nat → Nd} {n k e : Nat} (h : GoodV N n) (hk : k < n) (he : IsEnd N n k e) : (tree N n k).flat ⟨#[]⟩ (-1) 0 = subTo N k e := by
  rw [flat_tree (good_pre h) (good_noNames h) (n - k) k rfl hk e he]
  simp [subTo]
theorem tree_cnt_le {N : Nat → Nd} {n k : Nat} (h : GoodV N n) (hk : k < n) : (tree N n k).cnt ≤ n := by
  obtain ⟨e, he⟩ := end_of (N := N) hk
  have := congrArg List.length (tree_sub h hk he)
  rw [Tr.flat_length, subTo_len] at this
  have := he.2.1
  omega

end Go.Proofs.YtnmbnebofbdmfaaGreatDoor
