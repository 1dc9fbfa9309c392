/- Postings copied: append of a whole list behind none, and the program's slices.Clone. No condition. -/
import Derived.Test.YtdaomklgcdfllaaUpJ
import Derived.RangeFuncNested
namespace Go.Proofs.Ytdaomklgcdfllaa
open Go.RowKit
set_option linter.unusedVariables false

theorem own_empC (W : World) (e : TypeId) (size B : Nat) (hB : B ≤ W.heap.size) : (W.alloc (.cells #[] e)).ownsRow B e size (.slice (some ⟨W.heap.size, 0, none⟩) 0 0) 0 [] :=
  ⟨by simp, .inr ⟨W.heap.size, 0, #[], rfl, hB, World.alloc_heap_new W _, Nat.le_refl _, Nat.zero_le _, by simp, by simp⟩⟩
theorem own_empP (w : World) (B : Nat) (hB : B ≤ w.heap.size) : OwnL poC 76 2 (w.alloc (.cells #[] 76)) B (.slice (some ⟨w.heap.size, 0, none⟩) 0 0) [] := own_empC w _ 2 B hB
theorem posts_cells {w : World} {S : Nat → Prop} {ad : Addr} {n c : Nat} {l : List DPosting} (h : (kRow kPosting).is false w S [.slice (some ad) n c] l) : ∀ j u, (l.flatMap poC)[j]? = some u → w.cell? (ad.add j) = some u := by
  intro j u hu
  have hlen : (l.flatMap poC).length = l.length * 2 := by
    clear h hu
    induction l with
    | nil => rfl
    | cons y t ih => rw [List.flatMap_cons, List.length_append, ih, List.length_cons]; show 2 + _ = _; omega
  have hj : j < l.length * 2 := by rw [← hlen]; exact (List.getElem?_eq_some_iff.1 hu).1
  obtain ⟨x, hx⟩ : ∃ x, l[j / 2]? = some x := ⟨_, List.getElem?_eq_getElem (by omega)⟩
  obtain ⟨b, off, B, C, e, hb, _, hi, _, hc⟩ := row_at h hx
  obtain ⟨x0, x1⟩ := x
  obtain ⟨rfl, _, _⟩ := kPosting_open hi
  have := flat_get (cs := poC) (n := 2) (fun _ => rfl) l (j / 2) (j % 2) (x0, x1) hx (by omega)
  rw [show j / 2 * 2 + j % 2 = j by omega, hu] at this
  have h1 := (hc (j % 2) u this.symm).1
  obtain rfl : ad = ⟨b, off, none⟩ := by injection e
  rw [show ((⟨b, off, none⟩ : Addr).add j) = ⟨b, off + j, none⟩ by unfold Addr.add; split <;> simp_all]
  rw [show off + j / 2 * kPosting.wd + j % 2 = off + j by show off + j / 2 * 2 + j % 2 = off + j; omega] at h1
  exact h1
theorem posts_one (l : List DPosting) : ∀ u ∈ l.flatMap poC, u.oneCell' = true := by
  intro u hu
  obtain ⟨y, _, hy⟩ := List.mem_flatMap.1 hu
  simp [poC] at hy
  rcases hy with rfl | rfl <;> rfl
theorem posts_len (l : List DPosting) : (l.flatMap poC).length = l.length * 2 := by
  induction l with
  | nil => rfl
  | cons y t ih => rw [List.flatMap_cons, List.length_append, ih, List.length_cons]; show 2 + _ = _; omega
theorem posts_ok {w : World} {S : Nat → Prop} {o : Bool} {a : Option Addr} {n c : Nat} {l : List DPosting} (h : (kRow kPosting).is o w S [.slice a n c] l) : ∀ x ∈ l, IntOk x.1 ∧ IntOk x.2 := by
  intro x hx
  obtain ⟨i, hi⟩ := List.getElem?_of_mem hx
  obtain ⟨b, off, B, C, _, _, _, hk, _⟩ := row_at h hi
  obtain ⟨x0, x1⟩ := x
  obtain ⟨_, h1, h2⟩ := kPosting_open hk
  exact ⟨h1, h2⟩
/-- append(none, l...) of postings. -/
theorem app_posts {w : World} {ops : Array Oper} {rest : List Oper} {o : Oper} {a : Act} {Q : Exit → Act → World → Prop} (hgd : o.guard = none) (s x : Operand)
    (ho : o.op = .call { callee := .builtin .append, args := #[s, x], argTypes := #[74, 74] })
    (B : Nat) (v : Value) (hs : a.eval s = v) (hown : OwnL poC 76 2 w B v []) (ad : Addr) (n c : Nat) (S : Nat → Prop) (l : List DPosting) (hx : a.eval x = .slice (some ad) n c) (hr : (kRow kPosting).is false w S [.slice (some ad) n c] l)
    (hL : l.length ≤ 2 ^ 30) (hbase : B ≤ w.heap.size)
    (h : ∀ a' n' c' w', (kRow kPosting).is true w' (fun k => B ≤ k) [.slice a' n' c'] l → Below B w w' → wpList Try.prog ops Q rest (a.put o.dst (.slice a' n' c')) w') : wpList Try.prog ops Q (o :: rest) a w := by
  obtain ⟨i0, hi, hz0, hz1, hz2⟩ := info_parts infoPostA
  have hn := row_len hr
  refine wpList_append_own_at w hgd s x 74 ho B 76 i0 _ 2 16 Try.underlying74 hi hz0 hz1 hz2 rfl (by decide) v 0 [] hs hown ad n c (l.flatMap poC) hx (by rw [posts_len, hn]) (posts_cells hr) (posts_one l) (by unfold maxLen; omega) (by omega) hbase fun v' w' h2 h3 _ h5 => ?_
  have ho' : OwnL poC 76 2 w' B v' l := by
    unfold OwnL
    rw [← hn]
    simpa using h2
  obtain ⟨a', c', rfl, _⟩ := ho'.form
  refine h a' _ c' w' ?_ ?_
  · exact own_kRow (K := kPosting) (fun _ => rfl) ho' (by unfold maxLen; omega) (fun x hx W S => by
      obtain ⟨h1, h2⟩ := posts_ok hr x hx
      obtain ⟨x0, x1⟩ := x
      exact kPosting_shut h1 h2)
  · exact ⟨h3.os, h3.tape, h3.output, h3.size, fun k hk => h3.block k (by omega) (fun e => by have := (World.ownsRow.lt hown k e.symm).1; omega)⟩

/-- A list copied. -/
def RPosts (l : List DPosting) (w : World) (e : Ending) (w' : World) : Prop := ∃ (a : Option Addr) (n c : Nat), e = .returned (.slice a n c) ∧ (kRow kPosting).is true w' (fun k => w.heap.size ≤ k) [.slice a n c] l ∧ Below w.heap.size w w'
end Go.Proofs.Ytdaomklgcdfllaa
