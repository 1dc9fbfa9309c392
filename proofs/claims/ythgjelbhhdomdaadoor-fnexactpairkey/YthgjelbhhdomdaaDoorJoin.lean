/- Texts put one behind the other: the program's joinKey, by the library's contract of strings.Join. -/
import Derived.Test.YthgjelbhhdomdaaDoorRows
import Derived.Test.YthgjelbhhdomdaaDoorLib
import Derived.WalkKit
import Derived.WalkSpells
import Derived.WalkLawsBesides
import Derived.Handy
namespace Go.Proofs.YthgjelbhhdomdaaDoor
open Go.RowKit

theorem join_plain : ∀ ls : List (List UInt8), Lib.join ls [] = ls.flatten := by
  intro ls
  induction ls with
  | nil => rfl
  | cons a l ih =>
    cases l with
    | nil => simp [Lib.join]
    | cons b l => rw [List.flatten_cons, ← ih]; simp [Lib.join]

/-- All of them, one behind the other. -/
def catL (xs : List ByteArray) : List UInt8 := xs.flatMap fun x => x.data.toList

theorem join_cat (xs : List ByteArray) : Lib.join (xs.map (·.data.toList)) (⟨#[]⟩ : ByteArray).data.toList = catL xs := by
  show Lib.join _ [] = _
  rw [join_plain, catL, List.flatMap_def]

set_option maxHeartbeats 1000000 in
theorem joinKey_any (bk o c : Nat) (xs : List ByteArray) (w : World) (hcells : ∀ (j : Nat) x, xs[j]? = some x → w.cell? ⟨bk, o + j, none⟩ = some (.string x)) (hbk : bk < w.heap.size) (hN : xs.length ≤ 2 ^ 30) (hcap : xs.length ≤ c) (hlen : (catL xs).length ≤ 2 ^ 40) :
    Calls Tryd.prog 49 #[.slice (some ⟨bk, o, none⟩) xs.length c] w fun e w' => e = .returned (.string ⟨(catL xs).toArray⟩) ∧ Below w.heap.size w w' := by
  have HC : Hid (∀ (j : Nat) x, xs[j]? = some x → w.cell? ⟨bk, o + j, none⟩ = some (.string x)) := hcells
  have HL : Hid ((Lib.join (xs.map (·.data.toList)) (⟨#[]⟩ : ByteArray).data.toList).length ≤ 140737488355328) := by
    show _ ≤ _
    rw [join_cat]; omega
  have HJ : Hid (Lib.join (xs.map (·.data.toList)) (⟨#[]⟩ : ByteArray).data.toList = catL xs) := join_cat xs
  clear hcells hlen
  go_enter Tryd.func49, Tryd.ntmps49
  go_wp2_with fail
  refine (Tryd.strings_Join bk o c xs _ _ HC.out hbk (by omega) hcap HL.out).mono ?_
  rintro e w1 ⟨rfl, hb1⟩
  rw [HJ.out]
  have HB : Hid (Below w.heap.size w w1) := hb1
  clear hb1 HL HJ HC
  go_wp2
  go_ret
  exact ⟨rfl, HB.out⟩

set_option maxHeartbeats 1000000 in
theorem joinKey_none (a : Option Addr) (c : Nat) (w : World) :
    Calls Tryd.prog 49 #[.slice a 0 c] w fun e w' => e = .returned (.string ⟨#[]⟩) ∧ Below w.heap.size w w' := by
  go_enter Tryd.func49, Tryd.ntmps49
  go_wp2_with fail
  refine (Tryd.strings_Join_none a c _ _).mono ?_
  rintro e w1 ⟨rfl, rfl⟩
  go_wp2
  go_ret
  exact ⟨rfl, Below.refl _ _⟩

end Go.Proofs.YthgjelbhhdomdaaDoor
