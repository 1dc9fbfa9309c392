/- How many of the words each text has: the specification's l10Marks. No condition but that they fit in memory. Words that are unlike: the program's and the specification's. No condition but that they fit in memory. Rankings for words: the program's. No condition but that they fit in memory. -/
import Derived.Test.YtdaomklgcdfllaaHtM
import Derived.Test.YtdaomklgcdfllaaRfM
import Derived.Test.YtdaomklgcdfllaaRkI
import Derived.Test.YtdaomklgcdfllaaWdI
import Derived.Test.YtdaomklgcdfllaaQRoI
import Derived.Test.YtdaomklgcdfllaaLoL
namespace Go.Proofs.Ytdaomklgcdfllaa
open Go.RowKit
set_option linter.unusedVariables false

theorem sz_str {ws : List ByteArray} {i : Nat} {x : ByteArray} (h : ws[i]? = some x) : x.size ≤ (kRow kStr).sz ws := by
  have h1 := sums_ge kStr.sz ws i x h
  have h2 : kStr.sz x = x.size := rfl
  have h3 : (kRow kStr).sz ws = ws.length + sums kStr.sz ws := rfl
  omega
/-- What the marks are. -/
def RMarks (x : DWords) (ws : List ByteArray) (w : World) (e : Ending) (w' : World) : Prop :=
  (fMarks x ws = none ∧ e = .returned (.tuple #[.slice none 0 0, .bool false]) ∧ Below w.heap.size w w') ∨
  ∃ g M, fMarks x ws = some M ∧ e = .returned (.tuple #[.slice (some ⟨g, 0, none⟩) M.length M.length, .bool true]) ∧ w.heap.size ≤ g ∧ MkAt w' g M ∧ BndM M (2 ^ 30) ∧ M.length ≤ 40 ∧ Below w.heap.size w w'

end Go.Proofs.Ytdaomklgcdfllaa
namespace Go.Proofs.Ytdaomklgcdfllaa
open Go.RowKit
set_option linter.unusedVariables false

/-- One of them is the text. -/
def hasB (l : List ByteArray) (s : ByteArray) : Bool := l.any fun y => decide (y = s)
theorem has_drop {l : List ByteArray} {k : Nat} {x : ByteArray} (h : l[k]? = some x) (s : ByteArray) : hasB (l.drop k) s = (decide (x = s) || hasB (l.drop (k + 1)) s) := by
  have hk := (List.getElem?_eq_some_iff.1 h)
  unfold hasB
  rw [List.drop_eq_getElem_cons hk.1, hk.2, List.any_cons]

def RIdx (l : List ByteArray) (s : ByteArray) (w : World) (e : Ending) (w' : World) : Prop := Below w.heap.size w w' ∧ ((hasB l s = true ∧ ∃ k : Nat, e = .returned (.int .i64 k)) ∨ (hasB l s = false ∧ e = .returned (.int .i64 (-1))))

set_option maxRecDepth 100000 in
set_option maxHeartbeats 2000000 in
theorem index_k (l : List ByteArray) (a : Option Addr) (n c : Nat) (S : Nat → Prop) (s : ByteArray) (w : World) (h : (kRow kStr).is false w S [.slice a n c] l) :
    Calls Try.prog 124 #[.slice a n c, .string s] w (RIdx l s w) := by
  have hnl := row_len h
  have hmx : n ≤ 9223372036854775807 := by obtain ⟨_, _, _, h, _⟩ := row_form h; rw [hnl]; exact h
  have HNL : Hid (n = l.length) := hnl
  have H : Hid ((kRow kStr).is false w S [.slice a n c] l) := h
  obtain ⟨q, hq⟩ : ∃ q, q = hasB l s := ⟨_, rfl⟩
  have HQ : Hid (q = hasB l s) := hq
  clear h hnl hq
  go_enter Try.func124, Try.ntmps124
  go_wp2_with fail
  go_loopw [8] (fun iv wr => ∃ (k : Nat), k ≤ n ∧ iv = .int .i64 k ∧ Hid (hasB (l.drop k) s = q) ∧ Below w.heap.size w wr) (fun iv _ => n - (intOf iv).toNat)
  case atStart => exact ⟨0, Nat.zero_le _, rfl, HQ.out.symm, Below.refl _ _⟩
  case round =>
    obtain ⟨k, hk, rfl, HI, hnx⟩ := hrel
    by_cases hlt : k < n
    · obtain ⟨x, hx⟩ : ∃ x, l[k]? = some x := ⟨_, List.getElem?_eq_getElem (by rw [← HNL.out]; exact hlt)⟩
      obtain ⟨b, off, B, C, rfl, hb, _, hi, _, hc⟩ := row_at (Kd.below H.out hnx) hx
      obtain ⟨rfl, _⟩ := hi
      have A0 : wr.cell? ⟨b, off + k, none⟩ = some (.string x) := by have := (hc 0 _ rfl).1; simpa [kInt, kStr, kBool] using this
      have i0 : (0 : Int) ≤ (k : Int) := by omega
      have i1 : (k : Int) < (n : Int) := by omega
      have HI1 : Hid ((decide (x = s) || hasB (l.drop (k + 1)) s) = q) := by have := HI.out; rw [has_drop hx] at this; exact this
      clear hc hx HI
      by_cases hxs : x = s
      · have HF : Hid (hasB l s = true) := by have := HI1.out; rw [decide_eq_true hxs, Bool.true_or] at this; show _ = _; rw [← HQ.out, ← this]
        subst hxs
        clear HI1
        go_wp2
        go_ret
        exact ⟨hnx, .inl ⟨HF.out, k, rfl⟩⟩
      · have HI2 : Hid (hasB (l.drop (k + 1)) s = q) := by have := HI1.out; rw [decide_eq_false hxs, Bool.false_or] at this; exact this
        have heq : (s.toList == x.toList) = false := by rw [eq_texts]; exact decide_eq_false (fun e => hxs e.symm)
        have heq2 : ¬ s.toList = x.toList := by simpa using heq
        clear HI1 hxs
        go_wp2
        go_roundw
        case rel => exact ⟨k + 1, by omega, by go_num, HI2, hnx⟩
        case measure => simp [intOf]; omega
    · have HF : Hid (hasB l s = false) := by
        have := HI.out
        rw [show k = l.length by rw [← HNL.out]; omega, List.drop_length] at this
        show _ = _
        rw [← HQ.out, ← this]
        rfl
      go_wp2
      go_ret
      exact ⟨hnx, .inr ⟨HF.out, rfl⟩⟩

set_option maxRecDepth 100000 in
set_option maxHeartbeats 1000000 in
theorem contains_k (l : List ByteArray) (a : Option Addr) (n c : Nat) (S : Nat → Prop) (s : ByteArray) (w : World) (h : (kRow kStr).is false w S [.slice a n c] l) :
    Calls Try.prog 107 #[.slice a n c, .string s] w fun e w' => e = .returned (.bool (hasB l s)) ∧ Below w.heap.size w w' := by
  have hcon := index_k l a n c S s w h
  clear h
  go_enter Try.func107, Try.ntmps107
  go_wp2_with fail
  refine hcon.mono ?_
  rintro e w1 ⟨hb, ⟨hq, k, rfl⟩ | ⟨hq, rfl⟩⟩
  · have HQ : Hid (hasB l s = true) := hq
    have HB : Hid (Below w.heap.size w w1) := hb
    have i0 : (0 : Int) ≤ (k : Int) := by omega
    clear hq hb
    go_wp2
    go_ret
    exact ⟨by rw [HQ.out]; rfl, HB.out⟩
  · have HQ : Hid (hasB l s = false) := hq
    have HB : Hid (Below w.heap.size w w1) := hb
    clear hq hb
    go_wp2
    go_ret
    exact ⟨by rw [HQ.out]; rfl, HB.out⟩

set_option maxRecDepth 100000 in
set_option maxHeartbeats 2000000 in
theorem areUnlike_k (ws : List ByteArray) (a : Option Addr) (n c : Nat) (S : Nat → Prop) (w : World) (h : (kRow kStr).is true w S [.slice a n c] ws) (z : (kRow kStr).sz ws ≤ 2 ^ 20) :
    Calls Try.prog 79 #[.slice a n c] w fun e w' => e = .returned (.bool (fDistinct ws)) ∧ Below w.heap.size w w' := by
  have hnl := row_len h
  have hmx : n ≤ 9223372036854775807 := by obtain ⟨_, _, _, h, _⟩ := row_form h; rw [hnl]; exact h
  have hnc : n ≤ c := by obtain ⟨_, _, e, _, h⟩ := row_form h; simp only [List.cons.injEq, Value.slice.injEq, and_true] at e; have := h rfl; omega
  have HNL : Hid (n = ws.length) := hnl
  have H : Hid ((kRow kStr).is false w S [.slice a n c] ws) := Kd.read _ h
  have HZ : Hid ((kRow kStr).sz ws ≤ 2 ^ 20) := z
  obtain ⟨q, hq⟩ : ∃ q, q = fDistinct ws := ⟨_, rfl⟩
  have HQ : Hid (q = (unlike [] ws && decide (ws.length ≤ 5))) := hq
  rw [← hq]
  clear h hnl hq z
  by_cases c5 : (5 : Int) < (n : Int)
  · have HF : Hid (q = false) := by show _ = _; rw [HQ.out, decide_eq_false (by rw [← HNL.out]; omega), Bool.and_false]
    go_enter Try.func79, Try.ntmps79
    go_wp2
    go_ret
    exact ⟨by rw [HF.out]; rfl, Below.refl _ _⟩
  have HQ1 : Hid (unlike (ws.take 0) (ws.drop 0) = q) := by show _ = _; rw [HQ.out, decide_eq_true (by rw [← HNL.out]; omega), Bool.and_true]; simp
  clear HQ
  go_enter Try.func79, Try.ntmps79
  go_wp2_with fail
  go_loopw [10] (fun iv wr => ∃ (k : Nat), k ≤ n ∧ iv = .int .i64 k ∧ Hid (unlike (ws.take k) (ws.drop k) = q) ∧ Below w.heap.size w wr) (fun iv _ => n - (intOf iv).toNat)
  case atStart => exact ⟨0, Nat.zero_le _, rfl, HQ1, Below.refl _ _⟩
  case round =>
    obtain ⟨k, hk, rfl, HI, hnx⟩ := hrel
    by_cases hlt : k < n
    · obtain ⟨x, hx⟩ : ∃ x, ws[k]? = some x := ⟨_, List.getElem?_eq_getElem (by rw [← HNL.out]; exact hlt)⟩
      obtain ⟨b, off, B, C, hab, hb, _, hi, _, hc⟩ := row_at (Kd.below H.out hnx) hx
      obtain ⟨rfl, _⟩ := hi
      have A0 : wr.cell? ⟨b, off + k, none⟩ = some (.string x) := by have := (hc 0 _ rfl).1; simpa [kInt, kStr, kBool] using this
      have i0 : (0 : Int) ≤ (k : Int) := by omega
      have i1 : (k : Int) < (n : Int) := by omega
      have k0 : ¬ (k : Int) < 0 := by omega
      have kc : (k : Int) ≤ (c : Int) := by omega
      have HI1 : Hid (((isWordB x && !hasB (ws.take k) x) && unlike (ws.take (k + 1)) (ws.drop (k + 1))) = q) := by have := HI.out; rw [un_drop hx] at this; exact this
      have HXZ : Hid (x.size ≤ 2 ^ 20) := Nat.le_trans (sz_str hx) HZ.out
      have HRT : Hid ((kRow kStr).is false w S [.slice a k c] (ws.take k)) := row_take H.out hk
      have HBR : Hid (Below w.heap.size w wr) := hnx
      subst hab
      clear hc hx HI hb hnx
      go_wp2_with fail
      refine (isWord_k x _ HXZ.out).mono ?_
      rintro e w1 ⟨rfl, hb1⟩
      have HB1 : Hid (Below w.heap.size w w1) := HBR.out.trans (hb1.mono HBR.out.size)
      clear hb1
      cases hw : isWordB x with
      | false =>
        have HF : Hid (q = false) := by have := HI1.out; rw [hw] at this; exact this.symm
        clear HI1 hw
        go_wp2
        go_ret
        exact ⟨by rw [HF.out]; rfl, HB1.out⟩
      | true =>
        have HI2 : Hid ((!hasB (ws.take k) x && unlike (ws.take (k + 1)) (ws.drop (k + 1))) = q) := by have := HI1.out; rw [hw] at this; exact this
        clear HI1 hw
        go_wp2_with fail
        refine (contains_k (ws.take k) _ k c S x _ (Kd.below HRT.out HB1.out)).mono ?_
        rintro e w2 ⟨rfl, hb2⟩
        have HB2 : Hid (Below w.heap.size w w2) := HB1.out.trans (hb2.mono HB1.out.size)
        clear hb2
        cases hh : hasB (ws.take k) x with
        | true =>
          have HF : Hid (q = false) := by have := HI2.out; rw [hh] at this; exact this.symm
          clear HI2 hh
          go_wp2
          go_ret
          exact ⟨by rw [HF.out]; rfl, HB2.out⟩
        | false =>
          have HI3 : Hid (unlike (ws.take (k + 1)) (ws.drop (k + 1)) = q) := by have := HI2.out; rw [hh] at this; exact this
          clear HI2 hh
          go_wp2
          go_roundw
          case rel => exact ⟨k + 1, by omega, by go_num, HI3, HB2.out⟩
          case measure => simp [intOf]; omega
    · have HF : Hid (q = true) := by
        have := HI.out
        rw [show k = ws.length by rw [← HNL.out]; omega, List.drop_length, unlike] at this
        exact this.symm
      go_wp2
      go_ret
      exact ⟨by rw [HF.out]; rfl, hnx⟩

set_option maxRecDepth 100000 in
set_option maxHeartbeats 2000000 in
theorem l11Distinct_k (ws : List ByteArray) (a : Option Addr) (n c : Nat) (S : Nat → Prop) (w : World) (h : (kRow kStr).is true w S [.slice a n c] ws) (z : (kRow kStr).sz ws ≤ 2 ^ 20) :
    Calls Try.prog 75 #[.slice a n c] w fun e w' => e = .returned (.bool (fDistinct ws)) ∧ Below w.heap.size w w' := by
  have hnl := row_len h
  have hmx : n ≤ 9223372036854775807 := by obtain ⟨_, _, _, h, _⟩ := row_form h; rw [hnl]; exact h
  have hnc : n ≤ c := by obtain ⟨_, _, e, _, h⟩ := row_form h; simp only [List.cons.injEq, Value.slice.injEq, and_true] at e; have := h rfl; omega
  have HNL : Hid (n = ws.length) := hnl
  have H : Hid ((kRow kStr).is false w S [.slice a n c] ws) := Kd.read _ h
  have HZ : Hid ((kRow kStr).sz ws ≤ 2 ^ 20) := z
  obtain ⟨q, hq⟩ : ∃ q, q = fDistinct ws := ⟨_, rfl⟩
  have HQ : Hid ((unlike (ws.take 0) (ws.drop 0) && decide (ws.length ≤ 5)) = q) := hq.symm
  rw [← hq]
  clear h hnl hq z
  go_enter Try.func75, Try.ntmps75
  go_wp2_with fail
  go_loopw [9] (fun iv wr => ∃ (k : Nat), k ≤ n ∧ iv = .int .i64 k ∧ Hid ((unlike (ws.take k) (ws.drop k) && decide (ws.length ≤ 5)) = q) ∧ Below w.heap.size w wr) (fun iv _ => n - (intOf iv).toNat)
  case atStart => exact ⟨0, Nat.zero_le _, rfl, HQ, Below.refl _ _⟩
  case round =>
    obtain ⟨k, hk, rfl, HI, hnx⟩ := hrel
    by_cases hlt : k < n
    · obtain ⟨x, hx⟩ : ∃ x, ws[k]? = some x := ⟨_, List.getElem?_eq_getElem (by rw [← HNL.out]; exact hlt)⟩
      obtain ⟨b, off, B, C, hab, hb, _, hi, _, hc⟩ := row_at (Kd.below H.out hnx) hx
      obtain ⟨rfl, _⟩ := hi
      have A0 : wr.cell? ⟨b, off + k, none⟩ = some (.string x) := by have := (hc 0 _ rfl).1; simpa [kInt, kStr, kBool] using this
      have i0 : (0 : Int) ≤ (k : Int) := by omega
      have i1 : (k : Int) < (n : Int) := by omega
      have k0 : ¬ (k : Int) < 0 := by omega
      have kc : (k : Int) ≤ (c : Int) := by omega
      obtain ⟨R, hR⟩ : ∃ R, R = (unlike (ws.take (k + 1)) (ws.drop (k + 1)) && decide (ws.length ≤ 5)) := ⟨_, rfl⟩
      have HR : Hid (R = (unlike (ws.take (k + 1)) (ws.drop (k + 1)) && decide (ws.length ≤ 5))) := hR
      have HI1 : Hid ((isWordB x && (!hasB ((ws.take k).drop 0) x && R)) = q) := by
        have := HI.out
        rw [un_drop hx] at this
        simp only [Bool.and_assoc] at this
        show _ = _
        rw [hR, ← this]
        rfl
      have HXZ : Hid (x.size ≤ 2 ^ 20) := Nat.le_trans (sz_str hx) HZ.out
      have HRT : Hid ((kRow kStr).is false w S [.slice a k c] (ws.take k)) := row_take H.out hk
      have HBR : Hid (Below w.heap.size w wr) := hnx
      have HTL : Hid ((ws.take k).length = k) := by show _ = _; rw [List.length_take, ← HNL.out]; omega
      subst hab
      clear hc hx HI hb hnx hR
      go_wp2_with fail
      refine (l10Word_k x _ HXZ.out).mono ?_
      rintro e w1 ⟨rfl, hb1⟩
      have HB1 : Hid (Below w.heap.size w w1) := HBR.out.trans (hb1.mono HBR.out.size)
      clear hb1
      cases hw : isWordB x with
      | false =>
        have HF : Hid (q = false) := by have := HI1.out; rw [hw] at this; exact this.symm
        clear HI1 hw
        go_wp2
        go_ret
        exact ⟨by rw [HF.out]; rfl, HB1.out⟩
      | true =>
        have HI2 : Hid ((!hasB ((ws.take k).drop 0) x && R) = q) := by have := HI1.out; rw [hw] at this; exact this
        clear HI1 hw
        go_wp2_with fail
        go_loopw [21] (fun jv wq => ∃ (j : Nat), j ≤ k ∧ jv = .int .i64 j ∧ Hid ((!hasB ((ws.take k).drop j) x && R) = q) ∧ Below w1.heap.size w1 wq) (fun jv _ => k - (intOf jv).toNat)
        case atStart => exact ⟨0, Nat.zero_le _, rfl, HI2, Below.refl _ _⟩
        case round =>
          obtain ⟨j, hj, rfl, HJ, hnq⟩ := hrel
          have HBQ : Hid (Below w.heap.size w wr) := HB1.out.trans (hnq.mono HB1.out.size)
          by_cases hjl : j < k
          · obtain ⟨y, hy⟩ : ∃ y, (ws.take k)[j]? = some y := ⟨_, List.getElem?_eq_getElem (by rw [HTL.out]; exact hjl)⟩
            obtain ⟨b3, off3, B3, C3, hab3, hb3, _, hi3, _, hc3⟩ := row_at (Kd.below HRT.out HBQ.out) hy
            obtain ⟨rfl, _⟩ := hi3
            obtain ⟨rfl, rfl⟩ : b = b3 ∧ off = off3 := by injection hab3 with e; injection e with e1 e2; exact ⟨e1, e2⟩
            have D0 : wr.cell? ⟨b, off + j, none⟩ = some (.string y) := by have := (hc3 0 _ rfl).1; simpa [kInt, kStr, kBool] using this
            have j0 : (0 : Int) ≤ (j : Int) := by omega
            have j1 : (j : Int) < (k : Int) := by omega
            have HJ1 : Hid ((!(decide (y = x) || hasB ((ws.take k).drop (j + 1)) x) && R) = q) := by have := HJ.out; rw [has_drop hy] at this; exact this
            clear hc3 hy HJ hab3 hb3
            by_cases hyx : y = x
            · have HF : Hid (q = false) := by have := HJ1.out; rw [decide_eq_true hyx] at this; exact this.symm
              subst hyx
              clear HJ1
              go_wp2
              go_ret
              exact ⟨by rw [HF.out]; rfl, HBQ.out⟩
            · have HJ2 : Hid ((!hasB ((ws.take k).drop (j + 1)) x && R) = q) := by have := HJ1.out; rw [decide_eq_false hyx, Bool.false_or] at this; exact this
              have heq : (y.toList == x.toList) = false := by rw [eq_texts]; exact decide_eq_false hyx
              have heq2 : ¬ y.toList = x.toList := by simpa using heq
              clear HJ1 hyx
              go_wp2
              go_roundw
              case rel => exact ⟨j + 1, by omega, by go_num, HJ2, hnq⟩
              case measure => simp [intOf]; omega
          · have j1 : ¬ (j : Int) < (k : Int) := by omega
            have HE : Hid ((unlike (ws.take (k + 1)) (ws.drop (k + 1)) && decide (ws.length ≤ 5)) = q) := by
              have := HJ.out
              rw [List.drop_eq_nil_of_le (by rw [HTL.out]; omega), HR.out] at this
              exact this
            clear HJ
            go_wp2
            go_roundw
            case rel => exact ⟨k + 1, by omega, by go_num, HE, HBQ.out⟩
            case measure => simp [intOf]; omega
    · have i1 : ¬ (k : Int) < (n : Int) := by omega
      have HE : Hid (decide (n ≤ 5) = q) := by
        have := HI.out
        rw [show k = ws.length by rw [← HNL.out]; omega, List.drop_length, unlike, Bool.true_and, ← HNL.out] at this
        exact this
      by_cases c5 : (n : Int) ≤ 5
      · have HF : Hid (q = true) := by have := HE.out; rw [decide_eq_true (by omega)] at this; exact this.symm
        clear HE
        go_wp2
        go_ret
        exact ⟨by rw [HF.out]; rfl, hnx⟩
      · have HF : Hid (q = false) := by have := HE.out; rw [decide_eq_false (by omega)] at this; exact this.symm
        clear HE
        go_wp2
        go_ret
        exact ⟨by rw [HF.out]; rfl, hnx⟩
end Go.Proofs.Ytdaomklgcdfllaa
namespace Go.Proofs.Ytdaomklgcdfllaa
open Go.RowKit
set_option linter.unusedVariables false

/-- append(out, r) of rankings at a step of a statement that draws its order. -/
theorem step_rk {w : World} {ops : Array Oper} {o : Oper} {a : Act} {K : Act → World → Prop} {Q : Exit → Act → World → Prop} {E : Prop} (hgd : o.guard = none) (s x : Operand)
    (ho : o.op = .call { callee := .builtin .append, args := #[s, x], argTypes := #[37, 37] })
    (B : Nat) (v : Value) (L : List DRanking) (hs : a.eval s = v) {w0 w1 : World} (hown : RBld w0 B v L) (hb : Below w0.heap.size w0 w1) (hb2 : Below w1.heap.size w1 w) (b : Nat) (cv : Value) (r : DRanking) (hx : a.eval x = .slice (some ⟨b, 0, none⟩) 1 1) (hcv : cv.oneCell' = true) (hc : w.cell? ⟨b, 0, none⟩ = some cv)
    (hr : kRanking.is true w1 (fun k => w0.heap.size ≤ k) [cv] r)
    (hL : L.length < 2 ^ 30) (hbase : B ≤ w0.heap.size)
    (h : ∀ g cap w', RBld w' B (.slice (some ⟨g, 0, none⟩) (L.length + 1) cap) (L ++ [r]) → Below B w w' → K (a.put o.dst (.slice (some ⟨g, 0, none⟩) (L.length + 1) cap)) w') : if Region.wanted o (yielded ops a.tmps) = true then Oper.wp Try.prog o a w K Q else E := by
  obtain ⟨i0, hi, hz0, hz1, hz2⟩ := info_parts infoRkA
  obtain ⟨cs, T, h1, h2, h3, h4, h5⟩ := hown
  have hbw := hb.trans (hb2.mono hb.size)
  have z0 := hb.size
  have z1 := hb2.size
  have hbm : (cs.length + 1) * 24 ≤ 140737488355328 := by omega
  have ho2 := h2.below hbw
  refine step_append_lies w hgd s x 37 ho B 86 i0 _ 1 24 Try.underlying37 hi hz0 hz1 hz2 rfl (by decide) v cs.length (cs.flatMap vC) hs ho2 ⟨b, 0, none⟩ 1 1 (vC cv) hx rfl (fun j u hj => ?_) (fun u hu => by simp [vC] at hu; rw [hu]; exact hcv) (by decide) (by unfold maxLen; omega) hbm (by omega) _ rfl fun g cap w' h6 h7 h8 _ => ?_
  · match j, hj with
    | 0, hj =>
      obtain rfl : cv = u := by simpa [vC] using hj
      exact hc
  · have hgrew : GrewO w w' v (.slice (some ⟨g, 0, none⟩) (cs.length + 1) cap) := by
      refine ⟨⟨h7.os, h7.tape, h7.output, h7.size, fun k hk hn => h7.block k hk (fun e => hn e.symm)⟩, ?_⟩
      rcases h8 with e | e
      · exact .inl e.symm
      · exact .inr ⟨g, rfl, by omega⟩
    have hR : RBld w' B (.slice (some ⟨g, 0, none⟩) (cs.length + 1) cap) (L ++ [r]) := by
      refine RBld.grew (S := fun k => w0.heap.size ≤ k ∧ k < w1.heap.size) h1 (fun i q hq => ?_) (fun i k hik hk => ?_) h5 (Kd.below (Kd.tight _ hr (fun k hk h' => ⟨h', hk⟩)) hb2) (fun k hk => ?_) (fun i k hik hk hS => ?_) ?_ hgrew
      · obtain ⟨c', h9, h10⟩ := h3 i q hq
        exact ⟨c', h9, Kd.below h10 hbw⟩
      · obtain ⟨h9, h10, h11⟩ := h4 i k hik hk
        exact ⟨h9, by omega, h11⟩
      · exact ⟨by omega, by omega, fun e => by have := (World.ownsRow.lt h2 k e).2; omega⟩
      · have := (h4 i k hik hk).2.1
        omega
      · unfold OwnL
        rw [List.length_append, List.flatMap_append]
        simpa using h6
    rw [h1] at hR ⊢
    exact h g cap w' hR ⟨h7.os, h7.tape, h7.output, h7.size, fun k hk => h7.block k (by omega) (fun e => by have := (World.ownsRow.lt ho2 k e.symm).1; omega)⟩

/-- What RankingsFor answers. -/
def RRankingsFor (x0 : DWords) (x1 : List ByteArray) (w : World) (e : Ending) (w' : World) : Prop := ∃ (a0 : Option Addr) (n0 c0 : Nat) (T0 : Nat → Prop), e = .returned (.tuple #[.slice a0 n0 c0, .bool (fRankingsFor x0 x1).2]) ∧ (kRow kRanking).is true w' T0 [.slice a0 n0 c0] (fRankingsFor x0 x1).1 ∧ (∀ k, T0 k → w.heap.size ≤ k) ∧ sums kRanking.cnt (fRankingsFor x0 x1).1 ≤ 2 ^ 26 ∧ Below w.heap.size w w'
theorem RRankingsFor.no {x0 : DWords} {x1 : List ByteArray} {w w' : World} (h : (fGoodWords x0 && fDistinct x1) = false) (hb : Below w.heap.size w w') : RRankingsFor x0 x1 w (.returned (.tuple #[.slice none 0 0, .bool false])) w' := by
  unfold RRankingsFor fRankingsFor
  rw [if_neg (by rw [h]; exact Bool.false_ne_true)]
  exact ⟨none, 0, 0, fun _ => False, rfl, row_nil _ _ _ _ _ _, fun k hk => hk.elim, by simp [sums], hb⟩
theorem sums_small {α : Type} (f : α → Nat) (c : Nat) : ∀ (l : List α), (∀ x ∈ l, f x ≤ c) → sums f l ≤ c * l.length
  | [], _ => by simp [sums]
  | x :: t, h => by
    have h1 := h x (by simp)
    have h2 := sums_small f c t fun y hy => h y (by simp [hy])
    simp only [sums, List.length_cons, Nat.mul_add, Nat.mul_one]
    omega
theorem rks_cnt {x0 : DWords} {x1 : List ByteArray} (h : fGoodWords x0 = true) (h2 : fDistinct x1 = true) : sums kRanking.cnt (rksOf x0 x1) ≤ 2 ^ 26 := by
  have hg := rks_good h h2
  have h5 := (good_len hg).1
  have h6 := sums_small kRanking.cnt 120 (rksOf x0 x1) fun r hr => by
    have := (good_len hg).2 r hr
    show sums kScored.cnt r ≤ 120
    have e : sums kScored.cnt r = r.length * 2 := sums_const 2 r
    rw [e]
    omega
  have h7 := Nat.mul_le_mul_left 120 h5
  omega
theorem RRankingsFor.yes {x0 : DWords} {x1 : List ByteArray} {w w' : World} (h : fGoodWords x0 = true) (h2 : fDistinct x1 = true) {a : Option Addr} {n c B : Nat} (hr : (kRow kRanking).is true w' (fun q => B ≤ q) [.slice a n c] (rksOf x0 x1)) (hB : w.heap.size ≤ B) (hb : Below w.heap.size w w') : RRankingsFor x0 x1 w (.returned (.tuple #[.slice a n c, .bool true])) w' := by
  unfold RRankingsFor fRankingsFor
  rw [if_pos (by rw [h, h2]; rfl)]
  exact ⟨a, n, c, _, rfl, hr, fun k hk => Nat.le_trans hB hk, rks_cnt h h2, hb⟩
theorem rks_take {x : DWords} {ws : List ByteArray} {k : Nat} {s : ByteArray} (h : ws[k]? = some s) : rksOf x (ws.take (k + 1)) = rksOf x (ws.take k) ++ [rkOf x.1 (findL s x.2)] := by
  rw [List.take_add_one, h]
  unfold rksOf
  rw [List.map_append]
  rfl

set_option maxRecDepth 100000 in
set_option maxHeartbeats 8000000 in
theorem implRankingsFor_k (x0 : DWords) (C0 : List Value) (S0 : Nat → Prop) (x1 : List ByteArray) (a1 : Option Addr) (n1 c1 : Nat) (S1 : Nat → Prop) (w : World) (h0 : kWords.is true w S0 C0 x0) (z0 : kWords.sz x0 ≤ 2 ^ 20) (h1 : (kRow kStr).is true w S1 [.slice a1 n1 c1] x1) (z1 : (kRow kStr).sz x1 ≤ 2 ^ 20) :
    Calls Try.prog 42 #[.agg C0.toArray, .slice a1 n1 c1] w (RRankingsFor x0 x1 w) := by
  obtain ⟨tx, es⟩ := x0
  have HK : Hid (kWords.is false w S0 C0 (tx, es)) := Kd.read _ h0
  obtain ⟨a, c, T, rfl, g0, hmx, hr, _⟩ := kWords_open HK.out
  have HZ0 : Hid (kWords.sz (tx, es) ≤ 2 ^ 20) := z0
  have HZ : Hid ((kRow kEntry).sz es ≤ 2 ^ 20) := by have : kWords.sz (tx, es) = 0 + (kRow kEntry).sz es := rfl; show _ ≤ _; omega
  have HZ1 : Hid ((kRow kStr).sz x1 ≤ 2 ^ 20) := z1
  have HRW : Hid ((kRow kEntry).is false w T [.slice a es.length c] es) := hr
  have HW : Hid ((kRow kStr).is true w S1 [.slice a1 n1 c1] x1) := h1
  have HN1 : Hid (n1 = x1.length) := row_len h1
  clear h0 z0 h1 z1 hr
  show Calls Try.prog 42 #[.agg #[.int .i64 tx, .slice a es.length c], .slice a1 n1 c1] w _
  go_enter Try.func42, Try.ntmps42
  go_wp2_with fail
  refine (implGoodWords_k (tx, es) [.int .i64 tx, .slice a es.length c] S0 _ (Kd.below HK.out (below_a1r _ _)) HZ0.out).mono ?_
  rintro e w1 ⟨rfl, hb1⟩
  have X0 : w1.cell? ⟨w.heap.size, 0, none⟩ = some (.int .i64 tx) := by rw [hb1.cell (by simp)]; simp [go_sem]
  have X1 : w1.cell? ⟨w.heap.size, 1, none⟩ = some (.slice a es.length c) := by rw [hb1.cell (by simp)]; simp [go_sem]
  have HB1 : Hid (Below w.heap.size w w1) := (below_a1r _ _).trans (hb1.mono (by simp))
  clear hb1
  cases hg : fGoodWords (tx, es) with
  | false =>
    have HNO : Hid ((fGoodWords (tx, es) && fDistinct x1) = false) := by show _ = _; rw [hg]; rfl
    clear hg
    go_wp2
    refine bodyPost_ret (v := .tuple #[.slice none 0 0, .bool false]) (by simp [results, Try.results42, go_sem]) rfl ?_
    exact RRankingsFor.no HNO.out HB1.out
  | true =>
    have HG : Hid (fGoodWords (tx, es) = true) := hg
    clear hg
    go_wp2_with fail
    refine (areUnlike_k x1 a1 n1 c1 S1 _ (Kd.below HW.out HB1.out) HZ1.out).mono ?_
    rintro e w2 ⟨rfl, hb2⟩
    have Y0 := cell_later hb2 X0
    have Y1 := cell_later hb2 X1
    have HB2 : Hid (Below w.heap.size w w2) := HB1.out.trans (hb2.mono HB1.out.size)
    clear hb2 X0 X1
    cases hd : fDistinct x1 with
    | false =>
      have HNO : Hid ((fGoodWords (tx, es) && fDistinct x1) = false) := by show _ = _; rw [hd, Bool.and_false]
      clear hd
      go_wp2
      refine bodyPost_ret (v := .tuple #[.slice none 0 0, .bool false]) (by simp [results, Try.results42, go_sem]) rfl ?_
      exact RRankingsFor.no HNO.out HB2.out
    | true =>
      have HD : Hid (fDistinct x1 = true) := hd
      have hn5 : n1 ≤ 5 := by unfold fDistinct at hd; simp only [Bool.and_eq_true, decide_eq_true_eq] at hd; rw [HN1.out]; exact hd.2
      have HRI : Hid (Rises es) := good_rises HG.out
      obtain ⟨t0, t40⟩ := good_texts HG.out
      have HPW : Hid (∀ s, PostW tx (findL s es)) := good_post HG.out
      have z2 : w.heap.size ≤ w2.heap.size := HB2.out.size
      have HR2 : Hid ((kRow kEntry).is false w2 T [.slice a es.length c] es) := Kd.below HRW.out HB2.out
      clear hd
      go_wp2_with fail
      go_loopw [6, 19] (fun ov iv wr => ∃ (k : Nat), k ≤ n1 ∧ iv = .int .i64 k ∧ Hid (RBld wr w2.heap.size ov (rksOf (tx, es) (x1.take k))) ∧ Below w2.heap.size w2 wr) (fun _ iv _ => n1 - (intOf iv).toNat)
      case atStart => exact ⟨0, Nat.zero_le _, rfl, RBld.nil _ _, Below.refl _ _⟩
      case round =>
        obtain ⟨k, hk, rfl, HO, hnx⟩ := hrel
        obtain ⟨oa, oc, hov, _⟩ := HO.out.form
        subst hov
        have HLK : Hid ((rksOf (tx, es) (x1.take k)).length = k) := by show _ = _; unfold rksOf; rw [List.length_map, List.length_take, ← HN1.out]; omega
        rw [HLK.out] at HO ⊢
        have zw := hnx.size
        have HBR : Hid (Below w2.heap.size w2 wr) := hnx
        have HBW : Hid (Below w.heap.size w wr) := HB2.out.trans (hnx.mono z2)
        have Z0 : wr.cell? ⟨w.heap.size, 0, none⟩ = some (.int .i64 tx) := cell_later hnx Y0
        have Z1 : wr.cell? ⟨w.heap.size, 1, none⟩ = some (.slice a es.length c) := cell_later hnx Y1
        by_cases hlt : k < n1
        · obtain ⟨s, hx⟩ : ∃ s, x1[k]? = some s := ⟨_, List.getElem?_eq_getElem (by rw [← HN1.out]; exact hlt)⟩
          obtain ⟨b, off, B, C, rfl, hb, _, hi, _, hc⟩ := row_at (Kd.below (Kd.read _ HW.out) HBW.out) hx
          obtain ⟨rfl, _⟩ := hi
          have A0 : wr.cell? ⟨b, off + k, none⟩ = some (.string s) := by have := (hc 0 _ rfl).1; simpa [kInt, kStr, kBool] using this
          have i0 : (0 : Int) ≤ (k : Int) := by omega
          have i1 : (k : Int) < (n1 : Int) := by omega
          have HTK : Hid (rksOf (tx, es) (x1.take (k + 1)) = rksOf (tx, es) (x1.take k) ++ [rkOf tx (findL s es)]) := rks_take hx
          have HDR : Hid (Below wr.heap.size wr wr.drew) := (Below.refl _ _).drew
          have HC1 : Hid (Calls Try.prog 81 #[.agg #[.int .i64 tx, .slice a es.length c], .string s] wr.drew fun e w' => ∃ (la : Option Addr) (ln lc : Nat) (U : Nat → Prop), e = .returned (.slice la ln lc) ∧ (kRow kPosting).is false w' U [.slice la ln lc] (findL s es) ∧ (∀ k, U k → T k) ∧ Below wr.drew.heap.size wr.drew w') := listOf_k tx es s a es.length c T _ (Kd.below HR2.out HBR.out.drew) HRI.out (by have := HZ.out; have h3 : (kRow kEntry).sz es = es.length + sums kEntry.sz es := rfl; omega)
          clear hc hx hnx hb
          go_wp2_with fail
          go_region_law (first
            | (go_simp; go_at_call 81; refine HC1.out.mono ?_; rintro e w3 ⟨la, ln, lc, U, rfl, hl3, _, hb3⟩; have HL3 : Hid ((kRow kPosting).is false w3 U [.slice la ln lc] (findL s es)) := hl3; have HB3 : Hid (Below wr.heap.size wr w3) := HDR.out.trans hb3; have V0 := cell_later HB3.out Z0; clear hl3 hb3)
            | (go_simp; go_at_call 80; refine (rankingOf_k (findL s es) la ln lc U tx _ HL3.out (HPW.out s) t0 t40).mono ?_; rintro e w4 ⟨ra, rn, rc, rfl, hr4, hb4⟩; have HB4 : Hid (Below wr.heap.size wr w4) := HB3.out.trans (hb4.mono HB3.out.size); have HR4 : Hid (kRanking.is true w4 (fun q => wr.heap.size ≤ q) [.slice ra rn rc] (rkOf tx (findL s es))) := Kd.mono hr4 (fun q hq => Nat.le_trans HB3.out.size hq); clear hr4 hb4)
            | (refine step_rk (by rfl) _ _ (by rfl) w2.heap.size _ (rksOf (tx, es) (x1.take k)) (by rfl) HO.out HB4.out (below_a1r _ _) _ (.slice ra rn rc) (rkOf tx (findL s es)) (by rfl) rfl (by simp [go_sem]) HR4.out (by rw [HLK.out]; omega) zw ?_; intro g5 cap5 w5 hb5 hbl5))
          all_goals
            have HO5 : Hid (RBld w5 w2.heap.size (.slice (some ⟨g5, 0, none⟩) (k + 1) cap5) (rksOf (tx, es) (x1.take (k + 1)))) := by rw [HTK.out]; rw [HLK.out] at hb5; exact hb5
            have HB5 : Hid (Below w2.heap.size w2 w5) := HBR.out.trans (((HB4.out.trans ((below_a1r _ _).mono HB4.out.size)).mono zw).trans hbl5)
            rw [HLK.out]
            clear hb5 hbl5
            go_wp2
            go_roundw
            case rel => exact ⟨k + 1, by omega, by go_num, HO5, HB5.out⟩
            case measure => simp [intOf]; omega
        · have i1 : ¬ (k : Int) < (n1 : Int) := by omega
          have hfull : x1.take k = x1 := List.take_of_length_le (by rw [← HN1.out]; omega)
          have HRR : Hid ((kRow kRanking).is true wr (fun q => w2.heap.size ≤ q) [.slice oa k oc] (rksOf (tx, es) x1)) := by have := HO.out; rw [hfull] at this; exact this.row (by unfold rksOf; rw [List.length_map, ← HN1.out]; omega)
          clear hfull hnx
          go_wp2
          refine bodyPost_ret (v := .tuple #[.slice oa k oc, .bool true]) (by simp [results, Try.results42, go_sem]) rfl ?_
          exact RRankingsFor.yes HG.out HD.out HRR.out z2 HBW.out
end Go.Proofs.Ytdaomklgcdfllaa
