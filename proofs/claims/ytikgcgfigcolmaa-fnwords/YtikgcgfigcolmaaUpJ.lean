/- Bytes read as postings: the program's UnpackPostings. No condition. -/
import Derived.Test.YtikgcgfigcolmaaUpI
import Derived.Test.YtikgcgfigcolmaaAp
namespace Go.Proofs.Ytikgcgfigcolmaa
open Go.RowKit
set_option linter.unusedVariables false

theorem strL_empU (acc : List UInt8) : (strL acc).toList.isEmpty = acc.isEmpty := by
  rw [ByteArray.toList_eq]
  simp [strL]
theorem infoPostA : (Try.prog.info? 43).map (fun i => (i.zero, i.size, i.bytes)) = some (some (.agg #[.int .i64 0, .int .i64 0]), 2, 16) := by kernel_rfl
def poC (y : DPosting) : List Value := [.int .i64 y.1, .int .i64 y.2]
/-- append(out, p) of postings. -/
theorem app_post {w : World} {ops : Array Oper} {rest : List Oper} {o : Oper} {a : Act} {Q : Exit → Act → World → Prop} (hgd : o.guard = none) (s x : Operand)
    (ho : o.op = .call { callee := .builtin .append, args := #[s, x], argTypes := #[39, 39] })
    (B : Nat) (v : Value) (l : List DPosting) (hs : a.eval s = v) (hown : OwnL poC 43 2 w B v l) (b : Nat) (y : DPosting) (hx : a.eval x = .slice (some ⟨b, 0, none⟩) 1 1) (hc : w.cell? ⟨b, 0, none⟩ = some (.int .i64 y.1)) (hc1 : w.cell? ⟨b, 1, none⟩ = some (.int .i64 y.2))
    (hL : l.length < 2 ^ 30) (hbase : B ≤ w.heap.size)
    (h : ∀ v' w', OwnL poC 43 2 w' B v' (l ++ [y]) → Below B w w' → Grew w w' v v' → wpList Try.prog ops Q rest (a.put o.dst v') w') : wpList Try.prog ops Q (o :: rest) a w := by
  obtain ⟨i0, hi, hz0, hz1, hz2⟩ := info_parts infoPostA
  exact wpList_app1 poC hgd s x 39 ho B 43 i0 _ 2 16 Try.underlying39 hi hz0 hz1 hz2 rfl (by decide) (by decide) v l hs hown b y hx rfl (fun u hu => by
    simp [poC] at hu
    rcases hu with rfl | rfl <;> rfl) (fun j u hj => by
    match j, hj with
    | 0, hj => obtain rfl : Value.int .i64 y.1 = u := by simpa [poC] using hj
               exact hc
    | 1, hj => obtain rfl : Value.int .i64 y.2 = u := by simpa [poC] using hj
               exact hc1
    | j + 2, hj => simp [poC] at hj) hL hbase h
theorem cell_b1 (w : World) (u v : Value) (T : TypeId) : (w.alloc (.cells #[u, v] T)).cell? ⟨w.heap.size, 0, none⟩ = some u ∧ (w.alloc (.cells #[u, v] T)).cell? ⟨w.heap.size, 1, none⟩ = some v := by simp [World.cell?_alloc_new]
def smallP (l : List DPosting) : Prop := ∀ x ∈ l, -1 ≤ x.1 ∧ x.1 ≤ 2 ^ 40 ∧ 0 ≤ x.2 ∧ x.2 ≤ 2 ^ 40
theorem smallP.snoc {l : List DPosting} {a b : Int} (h : smallP l) (h1 : -1 ≤ a) (h2 : a ≤ 2 ^ 40) (h3 : 0 ≤ b) (h4 : b ≤ 2 ^ 40) : smallP (l ++ [(a, b)]) := fun x hx => by
  rcases List.mem_append.1 hx with h' | h'
  · exact h x h'
  · obtain rfl := List.mem_singleton.1 h'
    exact ⟨h1, h2, h3, h4⟩
theorem post_is {w : World} {B : Nat} {a : Option Addr} {n c : Nat} {L : List DPosting} (h : OwnL poC 43 2 w B (.slice a n c) L) (hl : L.length ≤ 2 ^ 30) (hz : smallP L) : (kRow kPosting).is true w (fun k => B ≤ k) [.slice a n c] L :=
  own_kRow (K := kPosting) (fun _ => rfl) h (by unfold maxLen; omega) (fun x hx W S => by
    obtain ⟨h1, h2, h3, h4⟩ := hz x hx
    obtain ⟨x0, x1⟩ := x
    exact kPosting_shut ⟨by omega, by omega⟩ ⟨by omega, by omega⟩)

/-- What UnpackPostings answers. -/
def RUnpackPostings (x0 : ByteArray) (w : World) (e : Ending) (w' : World) : Prop := ∃ (a0 : Option Addr) (n0 c0 : Nat) (T0 : Nat → Prop), e = .returned (.tuple #[.slice a0 n0 c0, .bool (fUnpackPostings x0).2]) ∧ (kRow kPosting).is true w' T0 [.slice a0 n0 c0] (fUnpackPostings x0).1 ∧ (∀ k, T0 k → w.heap.size ≤ k) ∧ sums kPosting.cnt (fUnpackPostings x0).1 ≤ 2 ^ 26 ∧ Below w.heap.size w w'
theorem RUnpack_no {s : ByteArray} {w w' : World} (h : fUnpackPostings s = ([], false)) (hb : Below w.heap.size w w') : RUnpackPostings s w (.returned (.tuple #[.slice none 0 0, .bool false])) w' := by
  unfold RUnpackPostings
  rw [h]
  exact ⟨none, 0, 0, fun _ => False, rfl, row_nil _ _ _ _ _ _, fun k hk => hk.elim, by simp [sums], hb⟩
theorem cnt_posts (l : List DPosting) : sums kPosting.cnt l = l.length * 2 := sums_const 2 l

theorem parseU_step (f cnt : Nat) (last : Int) (l : List UInt8) (hf : l.length ≤ f) (hne : l ≠ []) : ∃ g, parseU f cnt last l = (match rd2 l with
    | none => none
    | some (a, r) => match rd2 r with
      | none => none
      | some (m, r') => if cnt = 0 then none else (parseU g (cnt - 1) (last + a + 1) r').map fun q => (last + a + 1, m) :: q) ∧ l.length ≤ g + 1 := by
  cases l with
  | nil => exact absurd rfl hne
  | cons b t =>
    cases f with
    | zero => simp at hf
    | succ g => exact ⟨g, by rw [parseU]; rfl, hf⟩

end Go.Proofs.Ytikgcgfigcolmaa
