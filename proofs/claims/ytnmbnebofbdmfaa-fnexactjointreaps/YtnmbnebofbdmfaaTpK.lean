/- A key looked up: the program's find and GetKey, the specification's GetKey. -/
import Derived.Test.YtnmbnebofbdmfaaTpD
namespace Go.Proofs.Ytnmbnebofbdmfaa
open Go.RowKit
set_option linter.unusedVariables false

/-- The value of a key, and how many limbs are looked at. -/
def Bt.fnd (key : ByteArray) : Bt → Nat → Option (ByteArray × Nat)
  | .nil, _ => none
  | .node _ k v l r, s => if kLt key k then l.fnd key (s + 1) else if kLt k key then r.fnd key (s + 1) else some (v, s + 1)
theorem Bt.fnd_sh (key : ByteArray) (t : Bt) : ∀ s, t.sh.fnd key s = t.fnd key s := by
  induction t with
  | nil => intro s; rfl
  | node b k v l r ihl ihr => intro s; simp [Bt.sh, Bt.fnd, ihl, ihr]

/-- What find answers. -/
def FindIs (o : Option (ByteArray × Nat)) (e : Ending) (w' : World) : Prop := match o with
  | none => ∃ s : Nat, s ≤ 2 ^ 20 ∧ e = .returned (.tuple #[.pointer none, .int .i64 (s : Int)])
  | some (v, s) => ∃ b, e = .returned (.tuple #[.pointer (some ⟨b, 0, none⟩), .int .i64 (s : Int)]) ∧ w'.cell? ⟨b, 1, none⟩ = some (.string v) ∧ s ≤ 2 ^ 20

/-- What GetKey tells. -/
def GkTold (L : List Lb) (key v : ByteArray) (s : Int) (q : Bool) : Prop :=
  (GoodL L ∧ ∃ T : Bt, T.ok ∧ T.limbs 0 = L ∧ ((∃ m : Nat, T.fnd key 0 = some (v, m) ∧ s = (m : Int) ∧ q = true) ∨ (T.fnd key 0 = none ∧ v = ⟨#[]⟩ ∧ s = 0 ∧ q = false))) ∨ (¬ GoodL L ∧ v = ⟨#[]⟩ ∧ s = 0 ∧ q = false)
theorem GkTold.same {L : List Lb} {key v v' : ByteArray} {s s' : Int} {q q' : Bool} (h : GkTold L key v s q) (k : GkTold L key v' s' q') : v = v' ∧ s = s' ∧ q = q' := by
  rcases h with ⟨h1, T, _, h2, h3⟩ | ⟨h1, rfl, rfl, rfl⟩
  · rcases k with ⟨k1, S, _, k2, k3⟩ | ⟨k1, _⟩
    · have e : T.fnd key 0 = S.fnd key 0 := by rw [← Bt.fnd_sh, limbs_shape T S 0 (h2.trans k2.symm), Bt.fnd_sh]
      rcases h3 with ⟨m, h4, rfl, rfl⟩ | ⟨h4, rfl, rfl, rfl⟩
      · rcases k3 with ⟨m', k4, rfl, rfl⟩ | ⟨k4, _⟩
        · rw [e, k4] at h4
          cases h4
          exact ⟨rfl, rfl, rfl⟩
        · rw [e, k4] at h4; cases h4
      · rcases k3 with ⟨m', k4, _⟩ | ⟨k4, rfl, rfl, rfl⟩
        · rw [e, k4] at h4; cases h4
        · exact ⟨rfl, rfl, rfl⟩
    · exact absurd h1 k1
  · rcases k with ⟨k1, _⟩ | ⟨_, rfl, rfl, rfl⟩
    · exact absurd k1 h1
    · exact ⟨rfl, rfl, rfl⟩

end Go.Proofs.Ytnmbnebofbdmfaa
