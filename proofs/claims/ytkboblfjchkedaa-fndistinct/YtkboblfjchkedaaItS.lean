/- Runes of a text that are plain, gone through one by one, whatever else lies in memory. No condition. -/
import Derived.Test.YtkboblfjchkedaaSuD
import Derived.Laws.RangeString
namespace Go.Proofs.Ytkboblfjchkedaa
open Go.RowKit
set_option linter.unusedVariables false

/-- The place in a text, turned. -/
def turnI (w : World) (b : Nat) (s : ByteArray) (p : Nat) : World := { w with heap := w.heap.setIfInBounds b (.stringIter s p) }
theorem turnI_size (w : World) (b : Nat) (s : ByteArray) (p : Nat) : (turnI w b s p).heap.size = w.heap.size := by simp [turnI]
theorem turnI_at {w : World} {b : Nat} (s : ByteArray) (p : Nat) (h : b < w.heap.size) : (turnI w b s p).heap[b]? = some (.stringIter s p) := by simp [turnI, h]
theorem turnI_kept (w : World) (b : Nat) (s : ByteArray) (p : Nat) : KeptO (fun k => k = b) w (turnI w b s p) :=
  ⟨rfl, rfl, rfl, by rw [turnI_size]; exact Nat.le_refl _, fun k hk hn => by
    show (w.heap.setIfInBounds b _)[k]? = _
    rw [Array.getElem?_setIfInBounds_ne (fun e => hn e.symm)]⟩
theorem next_at {P : Program} {w : World} {b pos : Nat} {s : ByteArray} (ty : TypeId) (h : w.heap[b]? = some (.stringIter s pos)) (hp : pos < s.size) (ha : (s[pos]'hp).toNat < 128) :
    (Instr.next (.pointer (some ⟨b, 0, none⟩)) true ty).run P w = .ok (.tuple #[.bool true, .int .i64 pos, .int .i32 (s[pos]'hp).toNat]) (turnI w b s (pos + 1)) := by
  simp only [Instr.next, getObj, setObj, Sem.run_bind, Sem.run, h, Result.andThen, hp, if_true, decode_ascii s pos hp ha]
  simp [goInt, turnI]
theorem next_end {P : Program} {w : World} {b pos : Nat} {s : ByteArray} (ty : TypeId) (h : w.heap[b]? = some (.stringIter s pos)) (hp : ¬ pos < s.size) :
    (Instr.next (.pointer (some ⟨b, 0, none⟩)) true ty).run P w = .ok (.tuple #[.bool false]) w := by
  simp [Instr.next, getObj, Sem.run, h, hp]
theorem asc_at {s : ByteArray} (h : Asc s) (i : Nat) (hi : i < s.size) : (s[i]'hi).toNat < 128 := by
  refine h _ ?_
  show s[i]'hi ∈ s.data.toList
  rw [Array.mem_toList_iff]
  exact Array.getElem_mem hi
end Go.Proofs.Ytkboblfjchkedaa
