/- strconv.AppendInt at this program, by the shelf's contract. -/
import Derived.Test.YtjbjgkkkkghcgaaGreatDoorAppQ
import Derived.Test.YtjbjgkkkkghcgaaGreatDoorShelf
namespace Go.Proofs.YtjbjgkkkkghcgaaGreatDoor
open Go.RowKit

/-- The library's table of powers of ten reads as the text lays it, whatever is done from block B on. -/
def Tab (B : Nat) (w : World) : Prop := Lib.TabBelow Tryz.prog B w "internal/strconv.uint64pow10" .u64 Lib.pow10Tab

theorem appendInt_any (B : Nat) (v : Value) (l : List UInt8) (x : Int) (w : World) (h0 : -1000000000 ≤ x) (h1 : x ≤ 1000000000) (hown : OwnsB w B v l) (hB : B ≤ w.heap.size) (hl : l.length ≤ 2 ^ 40) (htab : Tab B w) :
    Calls Tryz.prog 89 #[v, .int .i64 x, .int .i64 10] w fun e w' => ∃ v', e = .returned v' ∧ OwnsB w' B v' (l ++ Lib.itoa x) ∧ Below B w w' := by
  have h := Any.strconv_AppendInt_10 Tryz.laysAI B l.length x (by omega) (by omega) v (Lib.byteCells l) w hown hB (by omega) htab
  refine Calls.mono h ?_
  rintro e w' ⟨v', rfl, ho, hb, _⟩
  refine ⟨v', rfl, ?_, hb⟩
  unfold OwnsB
  rw [List.length_append, show Lib.byteCells (l ++ Lib.itoa x) = Lib.byteCells l ++ Lib.byteCells (Lib.itoa x) by simp [Lib.byteCells]]
  exact ho

end Go.Proofs.YtjbjgkkkkghcgaaGreatDoor
