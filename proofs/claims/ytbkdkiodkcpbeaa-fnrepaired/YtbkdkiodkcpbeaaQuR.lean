/- A text of weights, gone through rune by rune: the program's weigh, by any function that tells which are meant. No condition but that rows fit in memory. -/
import Derived.Test.YtbkdkiodkcpbeaaQuV
import Derived.Laws.RangeString
namespace Go.Proofs.Ytbkdkiodkcpbeaa
open Go.RowKit
set_option linter.unusedVariables false

/-- The place in a text, turned. -/
def turnA (w : World) (b : Nat) (s : ByteArray) (p : Nat) : World := { w with heap := w.heap.setIfInBounds b (.stringIter s p) }
theorem turnA_size (w : World) (b : Nat) (s : ByteArray) (p : Nat) : (turnA w b s p).heap.size = w.heap.size := by simp [turnA]
theorem turnA_at {w : World} {b : Nat} (s : ByteArray) (p : Nat) (h : b < w.heap.size) : (turnA w b s p).heap[b]? = some (.stringIter s p) := by simp [turnA, h]
theorem turnA_kept (w : World) (b : Nat) (s : ByteArray) (p : Nat) : KeptO (fun k => k = b) w (turnA w b s p) :=
  ⟨rfl, rfl, rfl, by rw [turnA_size]; exact Nat.le_refl _, fun k hk hn => by
    show (w.heap.setIfInBounds b _)[k]? = _
    rw [Array.getElem?_setIfInBounds_ne (fun e => hn e.symm)]⟩
theorem nextA_at {P : Program} {w : World} {b pos : Nat} {s : ByteArray} (ty : TypeId) (h : w.heap[b]? = some (.stringIter s pos)) (hp : pos < s.size) (ha : (s[pos]'hp).toNat < 128) :
    (Instr.next (.pointer (some ⟨b, 0, none⟩)) true ty).run P w = .ok (.tuple #[.bool true, .int .i64 pos, .int .i32 (s[pos]'hp).toNat]) (turnA w b s (pos + 1)) := by
  simp only [Instr.next, getObj, setObj, Sem.run_bind, Sem.run, h, Result.andThen, hp, if_true, decode_ascii s pos hp ha]
  simp [goInt, turnA]
theorem nextA_end {P : Program} {w : World} {b pos : Nat} {s : ByteArray} (ty : TypeId) (h : w.heap[b]? = some (.stringIter s pos)) (hp : ¬ pos < s.size) :
    (Instr.next (.pointer (some ⟨b, 0, none⟩)) true ty).run P w = .ok (.tuple #[.bool false]) w := by
  simp [Instr.next, getObj, Sem.run, h, hp]

def ruC (y : Int) : List Value := [.int .i32 y]
theorem infoRuneA : (Try.prog.info? 21).map (fun i => (i.zero, i.size, i.bytes)) = some (some (.int .i32 0), 1, 4) := by kernel_rfl
/-- append(out, r) of runes. -/
theorem app_rune {w : World} {ops : Array Oper} {rest : List Oper} {o : Oper} {a : Act} {Q : Exit → Act → World → Prop} (hgd : o.guard = none) (s x : Operand)
    (ho : o.op = .call { callee := .builtin .append, args := #[s, x], argTypes := #[111, 111] })
    (B : Nat) (v : Value) (l : List Int) (hs : a.eval s = v) (hown : OwnL ruC 21 1 w B v l) (b : Nat) (y : Int) (hx : a.eval x = .slice (some ⟨b, 0, none⟩) 1 1) (hc : w.cell? ⟨b, 0, none⟩ = some (.int .i32 y))
    (hL : l.length < 2 ^ 30) (hbase : B ≤ w.heap.size)
    (h : ∀ v' w', OwnL ruC 21 1 w' B v' (l ++ [y]) → Below B w w' → Grew w w' v v' → wpList Try.prog ops Q rest (a.put o.dst v') w') : wpList Try.prog ops Q (o :: rest) a w := by
  obtain ⟨i0, hi, hz0, hz1, hz2⟩ := info_parts infoRuneA
  exact wpList_app1 ruC hgd s x 111 ho B 21 i0 _ 1 4 Try.underlying111 hi hz0 hz1 hz2 rfl (by decide) (by decide) v l hs hown b y hx rfl (fun u hu => by simp [ruC] at hu; rw [hu]; rfl) (fun j u hj => by
    match j, hj with
    | 0, hj => obtain rfl : Value.int .i32 y = u := by simpa [ruC] using hj
               exact hc) hL hbase h
/-- string(runes). -/
theorem conv_runes {w : World} {B : Nat} {a : Option Addr} {n c : Nat} {l : List Int} (h : OwnL ruC 21 1 w B (.slice a n c) l) : (convert 111 9 (.slice a n c)).run Try.prog w = .ok (.string (runesBytes l)) w := by
  have hcells := @World.ownsRow.cells _ _ _ _ _ _ _ h
  obtain ⟨a', c', e, hc⟩ := h.form
  obtain ⟨rfl, rfl, rfl⟩ : a = a' ∧ n = l.length ∧ c = c' := by simpa using e
  obtain ⟨h1, ⟨e2, e0⟩ | ⟨g, cap, cur, e, h3, h4, h5⟩⟩ := h
  · have : l = [] := List.eq_nil_of_length_eq_zero e0
    subst this
    cases e2
    exact run_convert_runes_nil _ _ _ 21 0 0 Try.underlying111 Try.underlying21 Try.underlying9
  · have ea : a = some ⟨g, 0, none⟩ := by injection e
    subst ea
    have := run_convert_runes (P := Try.prog) w 111 9 21 ⟨g, 0, none⟩ l.length c l (Nat.le_refl _) Try.underlying111 Try.underlying21 Try.underlying9 (fun i hi => by
      have := hcells (g := g) rfl i (.int .i32 l[i]) (by
        have h2 := flat_get (cs := ruC) (n := 1) (fun _ => rfl) l i 0 l[i] (List.getElem?_eq_getElem hi) (by decide)
        simpa [ruC] using h2)
      rw [show ((⟨g, 0, none⟩ : Addr).add i) = ⟨g, 0 + i, none⟩ by unfold Addr.add; split <;> simp_all] at this
      rw [show ((⟨g, 0, none⟩ : Addr).add i) = ⟨g, 0 + i, none⟩ by unfold Addr.add; split <;> simp_all, List.getD_eq_getElem?_getD, List.getElem?_eq_getElem hi]
      exact this)
    rw [List.take_length] at this
    exact this
theorem encode_plain {r : Int} (h0 : 0 ≤ r) (h1 : r < 128) : Utf8.encode r = ⟨#[UInt8.ofNat r.toNat]⟩ := by
  have hv : Utf8.valid r = true := by unfold Utf8.valid; simp; omega
  unfold Utf8.encode
  simp only [hv, if_true]
  rw [if_pos (by omega)]
theorem runes_plain_aux : ∀ (l : List Int) (s : ByteArray), (∀ x ∈ l, 0 ≤ x ∧ x < 128) → (l.foldl (fun r n => r ++ Utf8.encode n) s).data.toList = s.data.toList ++ l.map fun n => UInt8.ofNat n.toNat
  | [], s, _ => by simp
  | x :: t, s, h => by
    have hx := h x (by simp)
    simp only [List.foldl_cons, List.map_cons]
    rw [runes_plain_aux t _ (fun y hy => h y (by simp [hy])), encode_plain hx.1 hx.2]
    simp
theorem runes_plain (l : List Int) (h : ∀ x ∈ l, 0 ≤ x ∧ x < 128) : runesBytes l = strOfNums l := by
  refine ByteArray.ext (Array.toList_inj.1 ?_)
  unfold runesBytes
  rw [runes_plain_aux l _ h, strOfNums_data]
  rfl
/-- The weights as a text. -/
def wtT (l : List DCopy) : ByteArray := strOfNums (l.map (·.1))
theorem wtT_size (l : List DCopy) : (wtT l).size = l.length := by unfold wtT; rw [strOfNums_size, List.length_map]
theorem wtT_at {l : List DCopy} (h : okTil l l.length = true) {k : Nat} (hk : k < (wtT l).size) : (((wtT l)[k]'hk).toNat : Int) = (cp l k).1 ∧ ((wtT l)[k]'hk).toNat < 128 := by
  have hl : k < l.length := by rw [← wtT_size]; exact hk
  have e : (wtT l)[k]'hk = UInt8.ofNat ((cp l k).1).toNat := by
    show (wtT l).data[k] = _
    have h2 : (wtT l).data.toList[k]? = some (UInt8.ofNat ((cp l k).1).toNat) := by
      show ((l.map (·.1)).map fun n => UInt8.ofNat n.toNat)[k]? = _
      rw [List.getElem?_map, List.getElem?_map, cp_at hl]
      rfl
    rw [Array.getElem?_toList] at h2
    obtain ⟨_, h3⟩ := Array.getElem?_eq_some_iff.1 h2
    exact h3
  obtain ⟨h1, h2, _⟩ := cpAt_ok (okTil_at h hl)
  rw [e]
  have : (UInt8.ofNat ((cp l k).1).toNat).toNat = ((cp l k).1).toNat := by
    rw [UInt8.toNat_ofNat']
    exact Nat.mod_eq_of_lt (by omega)
  rw [this]
  omega
end Go.Proofs.Ytbkdkiodkcpbeaa
