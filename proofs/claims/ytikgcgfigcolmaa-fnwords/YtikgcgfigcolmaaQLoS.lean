/- Words that are good: the program's. No condition but that they fit in memory. An entry looked for by halving: the program's listOf. No condition but that the words rise. An entry looked for by halving: slices.BinarySearchFunc. No condition but that the words rise. Postings copied: append of a whole list behind none, and the program's slices.Clone. No condition. A word's postings: the program's listOf and PostingsOf. No condition but that they fit in memory. A word's postings: the specification's. No condition but that they fit in memory. -/
import Derived.Test.YtikgcgfigcolmaaWgM
import Derived.Test.YtikgcgfigcolmaaWdI
import Derived.Test.YtikgcgfigcolmaaPoI
import Derived.Test.YtikgcgfigcolmaaLoM
import Derived.Test.YtikgcgfigcolmaaUpJ
import Derived.RangeFuncNested
import Derived.Test.YtikgcgfigcolmaaWgS
namespace Go.Proofs.Ytikgcgfigcolmaa
open Go.RowKit
set_option linter.unusedVariables false

theorem szEntI {es : List DEntry} {i : Nat} {x : ByteArray} {l : List DPosting} (h : es[i]? = some (x, l)) : x.size ≤ (kRow kEntry).sz es := by
  have h1 := sums_ge kEntry.sz es i (x, l) h
  have h2 : kEntry.sz (x, l) = x.size + (l.length + sums kPosting.sz l) := rfl
  have h3 : (kRow kEntry).sz es = es.length + sums kEntry.sz es := rfl
  omega
theorem leq_is (a b : ByteArray) : (Op.bytesLess a.toList b.toList || a.toList == b.toList) = !lessB b a := by
  unfold lessB
  rw [by_total b.toList a.toList]
  simp

set_option maxRecDepth 100000 in
set_option maxHeartbeats 8000000 in
theorem implGoodWords_k (x0 : DWords) (C0 : List Value) (S0 : Nat → Prop) (w : World) (h0 : kWords.is false w S0 C0 x0) (z0 : kWords.sz x0 ≤ 2 ^ 20) :
    Calls Try.prog 15 #[.agg C0.toArray] w fun e w' => e = .returned (.bool (fGoodWords x0)) ∧ Below w.heap.size w w' := by
  obtain ⟨tx, es⟩ := x0
  obtain ⟨a, c, T, rfl, g0, hmx, hr, _⟩ := kWords_open h0
  have hz : (kRow kEntry).sz es ≤ 2 ^ 20 := by have : kWords.sz (tx, es) = 0 + (kRow kEntry).sz es := rfl; omega
  obtain ⟨q, hq⟩ : ∃ q, q = fGoodWords (tx, es) := ⟨_, rfl⟩
  have HQ : Hid (q = (decide (0 ≤ tx ∧ tx ≤ 40) && decide (es.length ≤ 200) && entOk tx ⟨#[]⟩ es)) := hq
  have HRW : Hid ((kRow kEntry).is false w T [.slice a es.length c] es) := hr
  have HZ : Hid ((kRow kEntry).sz es ≤ 2 ^ 20) := hz
  rw [← hq]
  obtain ⟨n, hn⟩ : ∃ n, n = es.length := ⟨_, rfl⟩
  have HN : Hid (n = es.length) := hn
  rw [← hn] at HRW ⊢
  have hmx' : n ≤ 9223372036854775807 := by rw [hn]; exact hmx
  clear h0 z0 hz hq hr hmx hn
  show Calls Try.prog 15 #[.agg #[.int .i64 tx, .slice a n c]] w _
  by_cases c1 : tx < 0
  · have HF : Hid (q = false) := by show _ = _; rw [HQ.out, decide_eq_false (by omega)]; rfl
    go_enter Try.func15, Try.ntmps15
    go_wp2
    go_ret
    exact ⟨by rw [HF.out]; rfl, by go_grown⟩
  by_cases c2 : 40 < tx
  · have HF : Hid (q = false) := by show _ = _; rw [HQ.out, decide_eq_false (by omega)]; rfl
    go_enter Try.func15, Try.ntmps15
    go_wp2
    go_ret
    exact ⟨by rw [HF.out]; rfl, by go_grown⟩
  by_cases c3 : (200 : Int) < (n : Int)
  · have HF : Hid (q = false) := by show _ = _; rw [HQ.out, decide_eq_false (p := es.length ≤ 200) (by rw [← HN.out]; omega), Bool.and_false]; rfl
    go_enter Try.func15, Try.ntmps15
    go_wp2
    go_ret
    exact ⟨by rw [HF.out]; rfl, by go_grown⟩
  have HQ2 : Hid (entOk tx ⟨#[]⟩ es = q) := by show _ = _; rw [HQ.out, decide_eq_true (by omega), decide_eq_true (p := es.length ≤ 200) (by rw [← HN.out]; omega)]; rfl
  clear HQ
  go_enter Try.func15, Try.ntmps15
  go_wp2_with fail
  obtain ⟨W0, hW0⟩ : ∃ W0, W0 = w.alloc (.cells #[.int .i64 tx, .slice a n c] 27) := ⟨_, rfl⟩
  rw [← hW0]
  have b0 : Below w.heap.size w W0 := by rw [hW0]; exact below_a1 _ _
  have X0 : W0.cell? ⟨w.heap.size, 0, none⟩ = some (.int .i64 tx) := by rw [hW0]; simp [go_sem]
  have zW0 : w.heap.size < W0.heap.size := by rw [hW0]; simp
  clear hW0
  go_loopw [3, 23] (fun lv iv wr => ∃ (k : Nat) (last : ByteArray), k ≤ n ∧ iv = .int .i64 k ∧ lv = .string last ∧ Hid (entOk tx last (es.drop k) = q) ∧ Below W0.heap.size W0 wr) (fun _ iv _ => n - (intOf iv).toNat)
  case atStart => exact ⟨0, ⟨#[]⟩, Nat.zero_le _, rfl, rfl, HQ2, Below.refl _ _⟩
  case round =>
    obtain ⟨k, last, hk, rfl, rfl, HI, hnx⟩ := hrel
    have zw := hnx.size
    have Y0 := cell_later hnx X0
    by_cases hlt : k < n
    · obtain ⟨⟨x, l⟩, hx⟩ : ∃ x, es[k]? = some x := ⟨_, List.getElem?_eq_getElem (by rw [← HN.out]; exact hlt)⟩
      have hrow := Kd.below HRW.out (b0.trans (hnx.mono (by omega)))
      obtain ⟨b, off, B, C, rfl, hb, _, hi, _, hc⟩ := row_at hrow hx
      obtain ⟨la, lc, TL, rfl, gx, gl, hl, _⟩ := kEntry_open hi
      have A0 : wr.cell? ⟨b, off + k * 2, none⟩ = some (.string x) := (hc 0 _ rfl).1
      have A1 : wr.cell? ⟨b, off + k * 2 + 1, none⟩ = some (.slice la l.length lc) := (hc 1 _ rfl).1
      have i0 : (0 : Int) ≤ (k : Int) := by omega
      have i1 : (k : Int) < (n : Int) := by omega
      have hdr : es.drop k = (x, l) :: es.drop (k + 1) := by
        rw [List.drop_eq_getElem_cons (by rw [← HN.out]; exact hlt)]
        congr 1
        exact (List.getElem?_eq_some_iff.1 hx).2
      have HI1 : Hid ((isWordB x && lessB last x && !l.isEmpty && postOk tx (-1) l && entOk tx x (es.drop (k + 1))) = q) := by have := HI.out; rw [hdr, entOk] at this; exact this
      have HXS : Hid (x.size ≤ 2 ^ 20) := Nat.le_trans (szEntI hx) HZ.out
      have HL : Hid ((kRow kPosting).is false wr TL [.slice la l.length lc] l) := hl
      clear hdr HI hi hl hc hrow hx
      go_wp2_with fail
      refine (isWord_k x _ HXS.out).mono ?_
      rintro e w1 ⟨rfl, hb1⟩
      have B1 : Below wr.heap.size wr w1 := (below_a1 _ _).trans (hb1.mono (by simp))
      have E0 : w1.cell? ⟨wr.heap.size, 0, none⟩ = some (.string x) := by rw [hb1.cell (by simp)]; simp [go_sem]
      have E1 : w1.cell? ⟨wr.heap.size, 1, none⟩ = some (.slice la l.length lc) := by rw [hb1.cell (by simp)]; simp [go_sem]
      have Z0 := cell_later B1 Y0
      have HL1 : Hid ((kRow kPosting).is false w1 TL [.slice la l.length lc] l) := Kd.below HL.out B1
      have HB1 : Hid (Below W0.heap.size W0 w1) := hnx.trans (B1.mono zw)
      have HBW : Hid (Below w.heap.size w w1) := b0.trans (HB1.out.mono (by omega))
      clear hb1 B1 HL A0 A1 Y0 hnx
      cases w1' : isWordB x with
      | false =>
        have HF : Hid (q = false) := by have := HI1.out; rw [w1'] at this; exact this.symm
        clear HI1 w1'
        go_wp2
        go_ret
        exact ⟨by rw [HF.out]; rfl, HBW.out⟩
      | true =>
        have hle := leq_is x last
        cases w2 : lessB last x with
        | false =>
          rw [w2] at hle
          have HF : Hid (q = false) := by have := HI1.out; rw [w1', w2] at this; exact this.symm
          clear HI1 w1' w2
          go_wp2
          go_ret
          exact ⟨by rw [HF.out]; rfl, HBW.out⟩
        | true =>
          rw [w2] at hle
          by_cases w3 : l.length = 0
          · have HF : Hid (q = false) := by have := HI1.out; rw [w1', w2, isEmpty_len, decide_eq_true w3] at this; exact this.symm
            have w3' : ((l.length : Int) == 0) = true := by rw [beq_iff_eq]; omega
            clear HI1 w1' w2 w3
            go_wp2
            go_ret
            exact ⟨by rw [HF.out]; rfl, HBW.out⟩
          · have w3' : ((l.length : Int) == 0) = false := by rw [beq_eq_false_iff_ne]; omega
            have HI2 : Hid ((postOk tx (-1) l && entOk tx x (es.drop (k + 1))) = q) := by have := HI1.out; rw [w1', w2, isEmpty_len, decide_eq_false w3] at this; exact this
            clear HI1 w1' w2 w3
            go_wp2_with fail
            refine (arePostings_k l la _ lc TL tx _ HL1.out).mono ?_
            rintro e w2 ⟨rfl, hb2⟩
            have E02 := cell_later hb2 E0
            have HB2 : Hid (Below W0.heap.size W0 w2) := HB1.out.trans (hb2.mono HB1.out.size)
            have HBW2 : Hid (Below w.heap.size w w2) := HBW.out.trans (hb2.mono HBW.out.size)
            clear hb2 E0 E1 Z0
            cases w4 : postOk tx (-1) l with
            | false =>
              have HF : Hid (q = false) := by have := HI2.out; rw [w4] at this; exact this.symm
              clear HI2 w4
              go_wp2
              go_ret
              exact ⟨by rw [HF.out]; rfl, HBW2.out⟩
            | true =>
              have HI3 : Hid (entOk tx x (es.drop (k + 1)) = q) := by have := HI2.out; rw [w4] at this; exact this
              clear HI2 w4
              go_wp2
              go_roundw
              case rel => exact ⟨k + 1, x, by omega, by go_num, rfl, HI3, HB2.out⟩
              case measure => simp [intOf]; omega
    · have HF : Hid (q = true) := by
        have := HI.out
        rw [show k = es.length by rw [← HN.out]; omega, List.drop_length, entOk] at this
        exact this.symm
      go_wp2
      go_ret
      exact ⟨by rw [HF.out]; rfl, b0.trans (hnx.mono (by omega))⟩
end Go.Proofs.Ytikgcgfigcolmaa
namespace Go.Proofs.Ytikgcgfigcolmaa
open Go.RowKit
set_option linter.unusedVariables false

set_option maxRecDepth 100000 in
set_option maxHeartbeats 1000000 in
theorem listOf1_k (x s : ByteArray) (a : Option Addr) (n c : Nat) (w : World) :
    Calls Try.prog 93 #[.agg #[.string x, .slice a n c], .string s] w fun e w' => e = .returned (.int .i64 (cmpB x s)) ∧ Below w.heap.size w w' := by
  go_enter Try.func93, Try.ntmps93
  go_wp2_with (first | (go_at_call 94; refine (Try.strings_Compare _ _ _).mono ?_; rintro e w' ⟨rfl, rfl⟩))
  go_ret
  exact ⟨rfl, by go_grown⟩

/-- How many entries' words lie ahead of s. -/
def ahead (s : ByteArray) : List DEntry → Nat
  | [] => 0
  | (x, _) :: r => if lessB x s = true then ahead s r + 1 else 0
def wordAtE (es : List DEntry) (i : Nat) : ByteArray := ((es[i]?).map Prod.fst).getD ⟨#[]⟩
/-- The list of the entry with the word s. -/
def findL (s : ByteArray) : List DEntry → List DPosting
  | [] => []
  | (x, l) :: r => if x = s then l else findL s r
theorem findL_at {s : ByteArray} : ∀ (es : List DEntry) (i : Nat) (l : List DPosting), Rises es → es[i]? = some (s, l) → findL s es = l
  | [], i, l, _, h => by simp at h
  | (x, m) :: r, 0, l, _, h => by
    simp only [List.getElem?_cons_zero, Option.some.injEq, Prod.mk.injEq] at h
    rw [findL, if_pos h.1]
    exact h.2
  | (x, m) :: r, i + 1, l, hr, h => by
    have hx : lessB x s = true := hr 0 (i + 1) x m s l (by omega) rfl h
    have hne : ¬ x = s := fun e => by rw [e, lessB_irr] at hx; cases hx
    rw [findL, if_neg hne]
    exact findL_at r i l (fun i j x l y m hij hi hj => hr (i + 1) (j + 1) x l y m (by omega) (by simpa using hi) (by simpa using hj)) (by simpa using h)
theorem findL_none {s : ByteArray} : ∀ (es : List DEntry), (∀ (i : Nat) (x : ByteArray) (l : List DPosting), es[i]? = some (x, l) → x ≠ s) → findL s es = []
  | [], _ => rfl
  | (x, m) :: r, h => by
    rw [findL, if_neg (h 0 x m rfl)]
    exact findL_none r (fun i y l hi => h (i + 1) y l (by simpa using hi))
/-- How far a search has come. -/
def Nar (s : ByteArray) (es : List DEntry) (lo hi : Nat) : Prop := (∀ (i : Nat) (x : ByteArray) (l : List DPosting), i < lo → es[i]? = some (x, l) → lessB x s = true) ∧ ∀ (i : Nat) (x : ByteArray) (l : List DPosting), hi ≤ i → es[i]? = some (x, l) → lessB x s = false
theorem Nar.up {s : ByteArray} {es : List DEntry} {lo hi m : Nat} {x : ByteArray} {l : List DPosting} (h : Nar s es lo hi) (hr : Rises es) (hm : es[m]? = some (x, l)) (hx : lessB x s = true) : Nar s es (m + 1) hi :=
  ⟨fun i y k hi hy => by
    by_cases e : i = m
    · subst e
      rw [hm] at hy
      simp only [Option.some.injEq, Prod.mk.injEq] at hy
      rw [← hy.1]
      exact hx
    · exact lessB_trans (hr i m y k x l (by omega) hy hm) hx, h.2⟩
theorem Nar.down {s : ByteArray} {es : List DEntry} {lo hi m : Nat} {x : ByteArray} {l : List DPosting} (h : Nar s es lo hi) (hr : Rises es) (hm : es[m]? = some (x, l)) (hx : lessB x s = false) : Nar s es lo m :=
  ⟨h.1, fun i y k hi hy => by
    by_cases e : i = m
    · subst e
      rw [hm] at hy
      simp only [Option.some.injEq, Prod.mk.injEq] at hy
      rw [← hy.1]
      exact hx
    · cases hl : lessB y s with
      | false => rfl
      | true => rw [lessB_trans (hr m i x l y k (by omega) hm hy) hl] at hx; cases hx⟩
theorem Nar.found {s : ByteArray} {es : List DEntry} {k : Nat} {x : ByteArray} {l : List DPosting} (h : Nar s es k k) (hr : Rises es) (hm : es[k]? = some (x, l)) : findL s es = if x = s then l else [] := by
  by_cases e : x = s
  · subst e
    rw [if_pos rfl]
    exact findL_at es k l hr hm
  · rw [if_neg e]
    refine findL_none es (fun i y m hy he => ?_)
    subst he
    by_cases hi : i < k
    · have := h.1 i _ m hi hy
      rw [lessB_irr] at this
      cases this
    · by_cases hk : i = k
      · subst hk
        rw [hm] at hy
        simp only [Option.some.injEq, Prod.mk.injEq] at hy
        exact e hy.1
      · have h1 := hr k i x l y m (by omega) hm hy
        have h2 := h.2 k x l (Nat.le_refl _) hm
        rw [h1] at h2
        cases h2
theorem Nar.none {s : ByteArray} {es : List DEntry} {k : Nat} (h : Nar s es k k) (hk : es.length ≤ k) : findL s es = [] := by
  refine findL_none es (fun i y m hy he => ?_)
  subst he
  have := h.1 i _ m (by have := (List.getElem?_eq_some_iff.1 hy).1; omega) hy
  rw [lessB_irr] at this
  cases this
end Go.Proofs.Ytikgcgfigcolmaa
namespace Go.Proofs.Ytikgcgfigcolmaa
open Go.RowKit
set_option linter.unusedVariables false

set_option maxRecDepth 100000 in
set_option maxHeartbeats 4000000 in
theorem search_k (es : List DEntry) (s : ByteArray) (a : Option Addr) (n c : Nat) (S : Nat → Prop) (w : World) (h : (kRow kEntry).is false w S [.slice a n c] es) (hr : Rises es) (hn30 : n ≤ 2 ^ 30) :
    Calls Try.prog 92 #[.slice a n c, .string s, .func (.func 93) #[] #[]] w fun e w' => ∃ (k : Nat) (b : Bool), e = .returned (.tuple #[.int .i64 k, .bool b]) ∧ ((b = true ∧ ∃ l, es[k]? = some (s, l)) ∨ (b = false ∧ findL s es = [])) ∧ Below w.heap.size w w' := by
  have HN : Hid (n = es.length) := row_len h
  have HR : Hid (Rises es) := hr
  have HRW : Hid ((kRow kEntry).is false w S [.slice a n c] es) := h
  clear h hr
  go_enter Try.func92, Try.ntmps92
  go_wp2_with fail
  go_loopw [9, 10] (fun lv hv wr => ∃ lo hi : Nat, lv = .int .i64 lo ∧ hv = .int .i64 hi ∧ lo ≤ hi ∧ hi ≤ n ∧ Hid (Nar s es lo hi) ∧ Below w.heap.size w wr) (fun lv hv _ => (intOf hv).toNat - (intOf lv).toNat)
  case atStart => exact ⟨0, n, rfl, rfl, Nat.zero_le _, Nat.le_refl _, ⟨fun i x l hi => by omega, fun i x l hi hx => by have := (List.getElem?_eq_some_iff.1 hx).1; rw [← HN.out] at this; omega⟩, Below.refl _ _⟩
  case round =>
    obtain ⟨lo, hi, rfl, rfl, hlh, hin, HI, hnx⟩ := hrel
    have zw := hnx.size
    by_cases hlt : lo < hi
    · obtain ⟨m, hm⟩ : ∃ m, m = (lo + hi) / 2 := ⟨_, rfl⟩
      have em : ((lo : Int) + (hi : Int)) / 2 = (m : Int) := by omega
      have hmn : m < n := by omega
      have hm1 : lo ≤ m := by omega
      have hm2 : m < hi := by omega
      obtain ⟨⟨x, l⟩, hx⟩ : ∃ x, es[m]? = some x := ⟨_, List.getElem?_eq_getElem (by rw [← HN.out]; exact hmn)⟩
      obtain ⟨b, off, B, C, rfl, hb, _, hi', _, hc⟩ := row_at (Kd.below HRW.out hnx) hx
      obtain ⟨la, lc, TL, rfl, gx, gl, hl, _⟩ := kEntry_open hi'
      have A0 : wr.cell? ⟨b, off + m * 2, none⟩ = some (.string x) := (hc 0 _ rfl).1
      have A1 : wr.cell? ⟨b, off + m * 2 + 1, none⟩ = some (.slice la l.length lc) := (hc 1 _ rfl).1
      have i0 : (0 : Int) ≤ (m : Int) := by omega
      have i1 : (m : Int) < (n : Int) := by omega
      have HX : Hid (es[m]? = some (x, l)) := hx
      have hcl := listOf1_k x s la l.length lc wr
      have hcz := cmpB_less x s
      clear hi' hl hc hx hm
      cases hw : lessB x s with
      | true =>
        have c1 : cmpB x s < 0 := hcz.2 hw
        have HI2 : Hid (Nar s es (m + 1) hi) := HI.out.up HR.out HX.out hw
        clear hw hcz HI
        generalize cmpB x s = z at *
        go_wp2_with fail
        refine hcl.mono ?_
        rintro e w1 ⟨rfl, hb1⟩
        go_wp2
        go_roundw
        case rel => exact ⟨m + 1, hi, by rfl, rfl, by omega, hin, HI2, hnx.trans (hb1.mono zw)⟩
        case measure => simp only [intOf]; omega
      | false =>
        have c1 : ¬ cmpB x s < 0 := fun h => by rw [hcz.1 h] at hw; cases hw
        have HI2 : Hid (Nar s es lo m) := HI.out.down HR.out HX.out hw
        clear hw hcz HI
        generalize cmpB x s = z at *
        go_wp2_with fail
        refine hcl.mono ?_
        rintro e w1 ⟨rfl, hb1⟩
        go_wp2
        go_roundw
        case rel => exact ⟨lo, m, rfl, rfl, by omega, by omega, HI2, hnx.trans (hb1.mono zw)⟩
        case measure => simp only [intOf]; omega
    · obtain rfl : hi = lo := by omega
      by_cases hl' : hi < n
      · obtain ⟨⟨x, l⟩, hx⟩ : ∃ x, es[hi]? = some x := ⟨_, List.getElem?_eq_getElem (by rw [← HN.out]; exact hl')⟩
        obtain ⟨b, off, B, C, rfl, hb, _, hi', _, hc⟩ := row_at (Kd.below HRW.out hnx) hx
        obtain ⟨la, lc, TL, rfl, gx, gl, hl, _⟩ := kEntry_open hi'
        have A0 : wr.cell? ⟨b, off + hi * 2, none⟩ = some (.string x) := (hc 0 _ rfl).1
        have A1 : wr.cell? ⟨b, off + hi * 2 + 1, none⟩ = some (.slice la l.length lc) := (hc 1 _ rfl).1
        have i0 : (0 : Int) ≤ (hi : Int) := by omega
        have i1 : (hi : Int) < (n : Int) := by omega
        have HX : Hid (es[hi]? = some (x, l)) := hx
        have HF : Hid (findL s es = if x = s then l else []) := HI.out.found HR.out hx
        have hcl := listOf1_k x s la l.length lc wr
        have hcz := cmpB_zero x s
        clear hi' hl hc hx
        by_cases hw : x = s
        · have c1 : (cmpB x s == 0) = true := by rw [beq_iff_eq]; exact hcz.2 hw
          have HX2 : Hid (es[hi]? = some (s, l)) := by have := HX.out; rw [hw] at this; exact this
          clear hw hcz HI HF
          generalize cmpB x s = z at *
          go_wp2_with fail
          refine hcl.mono ?_
          rintro e w1 ⟨rfl, hb1⟩
          go_wp2
          refine bodyPost_ret (v := .tuple #[.int .i64 (hi : Int), .bool true]) (by simp [results, Try.results92, go_sem]) rfl ?_
          exact ⟨hi, true, rfl, .inl ⟨rfl, l, HX2.out⟩, hnx.trans (hb1.mono zw)⟩
        · have c1 : (cmpB x s == 0) = false := by rw [beq_eq_false_iff_ne]; exact fun h => hw (hcz.1 h)
          have HF2 : Hid (findL s es = []) := by have := HF.out; rw [if_neg hw] at this; exact this
          clear hw hcz HI HF
          generalize cmpB x s = z at *
          go_wp2_with fail
          refine hcl.mono ?_
          rintro e w1 ⟨rfl, hb1⟩
          go_wp2
          refine bodyPost_ret (v := .tuple #[.int .i64 (hi : Int), .bool false]) (by simp [results, Try.results92, go_sem]) rfl ?_
          exact ⟨hi, false, rfl, .inr ⟨rfl, HF2.out⟩, hnx.trans (hb1.mono zw)⟩
      · have HF2 : Hid (findL s es = []) := HI.out.none (by rw [← HN.out]; omega)
        have i1 : ¬ (hi : Int) < (n : Int) := by omega
        go_wp2
        refine bodyPost_ret (v := .tuple #[.int .i64 (hi : Int), .bool false]) (by simp [results, Try.results92, go_sem]) rfl ?_
        exact ⟨hi, .inl ⟨rfl, HF2.out, hnx⟩⟩
end Go.Proofs.Ytikgcgfigcolmaa
namespace Go.Proofs.Ytikgcgfigcolmaa
open Go.RowKit
set_option linter.unusedVariables false

theorem own_empC (W : World) (e : TypeId) (size B : Nat) (hB : B ≤ W.heap.size) : (W.alloc (.cells #[] e)).ownsRow B e size (.slice (some ⟨W.heap.size, 0, none⟩) 0 0) 0 [] :=
  ⟨by simp, .inr ⟨W.heap.size, 0, #[], rfl, hB, World.alloc_heap_new W _, Nat.le_refl _, Nat.zero_le _, by simp, by simp⟩⟩
theorem own_empP (w : World) (B : Nat) (hB : B ≤ w.heap.size) : OwnL poC 43 2 (w.alloc (.cells #[] 43)) B (.slice (some ⟨w.heap.size, 0, none⟩) 0 0) [] := own_empC w _ 2 B hB
theorem posts_cells {w : World} {S : Nat → Prop} {ad : Addr} {n c : Nat} {l : List DPosting} (h : (kRow kPosting).is false w S [.slice (some ad) n c] l) : ∀ j u, (l.flatMap poC)[j]? = some u → w.cell? (ad.add j) = some u := by
  intro j u hu
  have hlen : (l.flatMap poC).length = l.length * 2 := by
    clear h hu
    induction l with
    | nil => rfl
    | cons y t ih => rw [List.flatMap_cons, List.length_append, ih, List.length_cons]; show 2 + _ = _; omega
  have hj : j < l.length * 2 := by rw [← hlen]; exact (List.getElem?_eq_some_iff.1 hu).1
  obtain ⟨x, hx⟩ : ∃ x, l[j / 2]? = some x := ⟨_, List.getElem?_eq_getElem (by omega)⟩
  obtain ⟨b, off, B, C, e, hb, _, hi, _, hc⟩ := row_at h hx
  obtain ⟨x0, x1⟩ := x
  obtain ⟨rfl, _, _⟩ := kPosting_open hi
  have := flat_get (cs := poC) (n := 2) (fun _ => rfl) l (j / 2) (j % 2) (x0, x1) hx (by omega)
  rw [show j / 2 * 2 + j % 2 = j by omega, hu] at this
  have h1 := (hc (j % 2) u this.symm).1
  obtain rfl : ad = ⟨b, off, none⟩ := by injection e
  rw [show ((⟨b, off, none⟩ : Addr).add j) = ⟨b, off + j, none⟩ by unfold Addr.add; split <;> simp_all]
  rw [show off + j / 2 * kPosting.wd + j % 2 = off + j by show off + j / 2 * 2 + j % 2 = off + j; omega] at h1
  exact h1
theorem posts_one (l : List DPosting) : ∀ u ∈ l.flatMap poC, u.oneCell' = true := by
  intro u hu
  obtain ⟨y, _, hy⟩ := List.mem_flatMap.1 hu
  simp [poC] at hy
  rcases hy with rfl | rfl <;> rfl
theorem posts_len (l : List DPosting) : (l.flatMap poC).length = l.length * 2 := by
  induction l with
  | nil => rfl
  | cons y t ih => rw [List.flatMap_cons, List.length_append, ih, List.length_cons]; show 2 + _ = _; omega
theorem posts_ok {w : World} {S : Nat → Prop} {o : Bool} {a : Option Addr} {n c : Nat} {l : List DPosting} (h : (kRow kPosting).is o w S [.slice a n c] l) : ∀ x ∈ l, IntOk x.1 ∧ IntOk x.2 := by
  intro x hx
  obtain ⟨i, hi⟩ := List.getElem?_of_mem hx
  obtain ⟨b, off, B, C, _, _, _, hk, _⟩ := row_at h hi
  obtain ⟨x0, x1⟩ := x
  obtain ⟨_, h1, h2⟩ := kPosting_open hk
  exact ⟨h1, h2⟩
/-- append(none, l...) of postings. -/
theorem app_posts {w : World} {ops : Array Oper} {rest : List Oper} {o : Oper} {a : Act} {Q : Exit → Act → World → Prop} (hgd : o.guard = none) (s x : Operand)
    (ho : o.op = .call { callee := .builtin .append, args := #[s, x], argTypes := #[39, 39] })
    (B : Nat) (v : Value) (hs : a.eval s = v) (hown : OwnL poC 43 2 w B v []) (ad : Addr) (n c : Nat) (S : Nat → Prop) (l : List DPosting) (hx : a.eval x = .slice (some ad) n c) (hr : (kRow kPosting).is false w S [.slice (some ad) n c] l)
    (hL : l.length ≤ 2 ^ 30) (hbase : B ≤ w.heap.size)
    (h : ∀ a' n' c' w', (kRow kPosting).is true w' (fun k => B ≤ k) [.slice a' n' c'] l → Below B w w' → wpList Try.prog ops Q rest (a.put o.dst (.slice a' n' c')) w') : wpList Try.prog ops Q (o :: rest) a w := by
  obtain ⟨i0, hi, hz0, hz1, hz2⟩ := info_parts infoPostA
  have hn := row_len hr
  refine wpList_append_own_at w hgd s x 39 ho B 43 i0 _ 2 16 Try.underlying39 hi hz0 hz1 hz2 rfl (by decide) v 0 [] hs hown ad n c (l.flatMap poC) hx (by rw [posts_len, hn]) (posts_cells hr) (posts_one l) (by unfold maxLen; omega) (by omega) hbase fun v' w' h2 h3 _ h5 => ?_
  have ho' : OwnL poC 43 2 w' B v' l := by
    unfold OwnL
    rw [← hn]
    simpa using h2
  obtain ⟨a', c', rfl, _⟩ := ho'.form
  refine h a' _ c' w' ?_ ?_
  · exact own_kRow (K := kPosting) (fun _ => rfl) ho' (by unfold maxLen; omega) (fun x hx W S => by
      obtain ⟨h1, h2⟩ := posts_ok hr x hx
      obtain ⟨x0, x1⟩ := x
      exact kPosting_shut h1 h2)
  · exact ⟨h3.os, h3.tape, h3.output, h3.size, fun k hk => h3.block k (by omega) (fun e => by have := (World.ownsRow.lt hown k e.symm).1; omega)⟩

/-- A list copied. -/
def RPosts (l : List DPosting) (w : World) (e : Ending) (w' : World) : Prop := ∃ (a : Option Addr) (n c : Nat), e = .returned (.slice a n c) ∧ (kRow kPosting).is true w' (fun k => w.heap.size ≤ k) [.slice a n c] l ∧ Below w.heap.size w w'
set_option maxRecDepth 100000 in
set_option maxHeartbeats 2000000 in
theorem cloneP_k (l : List DPosting) (a : Option Addr) (n c : Nat) (S : Nat → Prop) (w : World) (h : (kRow kPosting).is false w S [.slice a n c] l) (hL : l.length ≤ 2 ^ 30) :
    Calls Try.prog 55 #[.slice a n c] w (RPosts l w) := by
  have HR : Hid ((kRow kPosting).is false w S [.slice a n c] l) := h
  clear h
  cases a with
  | none =>
    have HL : Hid (l = []) := by
      obtain ⟨a', c', e, _, _, h0 | ⟨b, off, B, C, e', _⟩⟩ := HR.out
      · exact h0
      · simp at e
        rw [← e.1] at e'
        cases e'
    have hnil : ∀ w : World, (binOp .eql 39 (.slice none n c) (.slice none 0 0)).run Try.prog w = .ok (.bool true) w := fun w => by kernel_rfl
    go_enter Try.func55, Try.ntmps55
    go_wp2
    go_ret
    exact ⟨none, 0, 0, rfl, by rw [HL.out]; exact row_nil _ _ _ _ _ _, Below.refl _ _⟩
  | some ad =>
    have HOE : Hid (OwnL poC 43 2 (w.alloc (.cells #[] 43)) w.heap.size (.slice (some ⟨w.heap.size, 0, none⟩) 0 0) []) := own_empP w w.heap.size (Nat.le_refl _)
    have HR1 : Hid ((kRow kPosting).is false (w.alloc (.cells #[] 43)) S [.slice (some ad) n c] l) := Kd.below HR.out (below_a1' _ _)
    have hnil : ∀ w : World, (binOp .eql 39 (.slice (some ad) n c) (.slice none 0 0)).run Try.prog w = .ok (.bool false) w := fun w => by kernel_rfl
    go_enter Try.func55, Try.ntmps55
    go_wp2_with (first | (at_builtin; go_loud (refine app_posts rfl _ _ rfl w.heap.size _ rfl HOE.out ad n c S l rfl HR1.out hL (by simp) ?_)))
    intro a' n' c' w' hk hb
    have HK : Hid ((kRow kPosting).is true w' (fun k => w.heap.size ≤ k) [.slice a' n' c'] l) := hk
    have HB : Hid (Below w.heap.size w w') := (below_a1' _ _).trans hb
    clear hk hb
    go_wp2
    go_ret
    exact ⟨a', n', c', rfl, HK.out, HB.out⟩
end Go.Proofs.Ytikgcgfigcolmaa
namespace Go.Proofs.Ytikgcgfigcolmaa
open Go.RowKit
set_option linter.unusedVariables false

theorem szEntL {es : List DEntry} {i : Nat} {x : ByteArray} {l : List DPosting} (h : es[i]? = some (x, l)) : l.length ≤ (kRow kEntry).sz es := by
  have h1 := sums_ge kEntry.sz es i (x, l) h
  have h2 : kEntry.sz (x, l) = x.size + (l.length + sums kPosting.sz l) := rfl
  have h3 : (kRow kEntry).sz es = es.length + sums kEntry.sz es := rfl
  omega
theorem findL_len (s : ByteArray) : ∀ es : List DEntry, (findL s es).length ≤ sums kEntry.sz es
  | [] => by simp [findL]
  | (x, l) :: r => by
    have ih := findL_len s r
    have h2 : sums kEntry.sz ((x, l) :: r) = (x.size + (l.length + sums kPosting.sz l)) + sums kEntry.sz r := rfl
    rw [findL]
    split <;> omega

set_option maxRecDepth 100000 in
set_option maxHeartbeats 2000000 in
theorem listOf_k (tx : Int) (es : List DEntry) (s : ByteArray) (a : Option Addr) (n c : Nat) (S : Nat → Prop) (w : World) (h : (kRow kEntry).is false w S [.slice a n c] es) (hr : Rises es) (hn30 : n ≤ 2 ^ 30) :
    Calls Try.prog 56 #[.agg #[.int .i64 tx, .slice a n c], .string s] w fun e w' => ∃ (la : Option Addr) (ln lc : Nat) (T : Nat → Prop), e = .returned (.slice la ln lc) ∧ (kRow kPosting).is false w' T [.slice la ln lc] (findL s es) ∧ (∀ k, T k → S k) ∧ Below w.heap.size w w' := by
  have HR : Hid (Rises es) := hr
  have HRW : Hid ((kRow kEntry).is false w S [.slice a n c] es) := h
  have HN : Hid (n = es.length) := row_len h
  clear h hr
  go_enter Try.func56, Try.ntmps56
  go_wp2_with fail
  refine (search_k es s a n c S _ (Kd.below HRW.out (below_a1 _ _)) HR.out hn30).mono ?_
  rintro e w1 ⟨k, b, rfl, hq, hb1⟩
  have X1 : w1.cell? ⟨w.heap.size, 1, none⟩ = some (.slice a n c) := by rw [hb1.cell (by simp)]; simp [go_sem]
  have B1 : Below w.heap.size w w1 := (below_a1 _ _).trans (hb1.mono (by simp))
  have hrow := Kd.below HRW.out B1
  have HB1 : Hid (Below w.heap.size w w1) := B1
  clear hb1 B1
  rcases hq with ⟨rfl, l, hx⟩ | ⟨rfl, hf⟩
  · obtain ⟨b, off, B, C, rfl, hb, _, hi', hBS, hc⟩ := row_at hrow hx
    obtain ⟨la, lc, TL, rfl, gx, gl, hl, hTB⟩ := kEntry_open hi'
    have HTS : Hid (∀ k, TL k → S k) := fun k hk => hBS k (hTB k hk)
    have A0 : w1.cell? ⟨b, off + k * 2, none⟩ = some (.string s) := (hc 0 _ rfl).1
    have A1 : w1.cell? ⟨b, off + k * 2 + 1, none⟩ = some (.slice la l.length lc) := (hc 1 _ rfl).1
    have hk : k < n := by rw [HN.out]; exact (List.getElem?_eq_some_iff.1 hx).1
    have i0 : (0 : Int) ≤ (k : Int) := by omega
    have i1 : (k : Int) < (n : Int) := by omega
    have HL : Hid ((kRow kPosting).is false w1 TL [.slice la l.length lc] (findL s es)) := by show (kRow kPosting).is _ _ _ _ _; rw [findL_at es k l HR.out hx]; exact hl
    clear hi' hl hc hx hrow hBS hTB
    go_wp2
    go_ret
    exact ⟨la, l.length, lc, TL, rfl, HL.out, HTS.out, HB1.out⟩
  · have HF : Hid (findL s es = []) := hf
    clear hf hrow
    go_wp2
    go_ret
    exact ⟨none, 0, 0, fun _ => False, rfl, by rw [HF.out]; exact row_nil _ _ _ _ _ _, fun _ h => h.elim, HB1.out⟩

/-- PostingsOf. -/
def fPostingsOf : DWords → ByteArray → List DPosting × Bool := fun x s => if (fGoodWords x && isWordB s) = true then (findL s x.2, true) else ([], false)
/-- What PostingsOf answers. -/
def RPostingsOf (x0 : DWords) (x1 : ByteArray) (w : World) (e : Ending) (w' : World) : Prop := ∃ (a0 : Option Addr) (n0 c0 : Nat) (T0 : Nat → Prop), e = .returned (.tuple #[.slice a0 n0 c0, .bool (fPostingsOf x0 x1).2]) ∧ (kRow kPosting).is true w' T0 [.slice a0 n0 c0] (fPostingsOf x0 x1).1 ∧ (∀ k, T0 k → w.heap.size ≤ k) ∧ sums kPosting.cnt (fPostingsOf x0 x1).1 ≤ 2 ^ 26 ∧ Below w.heap.size w w'
theorem RPo_no {x : DWords} {s : ByteArray} {w w' : World} (h : fPostingsOf x s = ([], false)) (hb : Below w.heap.size w w') : RPostingsOf x s w (.returned (.tuple #[.slice none 0 0, .bool false])) w' := by
  unfold RPostingsOf
  rw [h]
  exact ⟨none, 0, 0, fun _ => False, rfl, row_nil _ _ _ _ _ _, fun k hk => hk.elim, by simp [sums], hb⟩
theorem RPo_yes {t : Int} {es : List DEntry} {s : ByteArray} {w w1 w' : World} {a : Option Addr} {n c : Nat} (h : fPostingsOf (t, es) s = (findL s es, true)) (hz : (kRow kEntry).sz es ≤ 2 ^ 20) (h1 : w.heap.size ≤ w1.heap.size) (hr : (kRow kPosting).is true w' (fun k => w1.heap.size ≤ k) [.slice a n c] (findL s es)) (hb : Below w.heap.size w w') : RPostingsOf (t, es) s w (.returned (.tuple #[.slice a n c, .bool true])) w' := by
  unfold RPostingsOf
  rw [h]
  refine ⟨a, n, c, _, rfl, hr, fun k hk => Nat.le_trans h1 hk, ?_, hb⟩
  rw [cnt_posts]
  have := findL_len s es
  have h3 : (kRow kEntry).sz es = es.length + sums kEntry.sz es := rfl
  show (findL s es).length * 2 ≤ _
  omega

set_option maxRecDepth 100000 in
set_option maxHeartbeats 4000000 in
theorem implPostingsOf_k (x0 : DWords) (C0 : List Value) (S0 : Nat → Prop) (x1 : ByteArray) (w : World) (h0 : kWords.is false w S0 C0 x0) (z0 : kWords.sz x0 ≤ 2 ^ 20) (h1 : x1.size ≤ 2 ^ 20) :
    Calls Try.prog 17 #[.agg C0.toArray, .string x1] w (RPostingsOf x0 x1 w) := by
  obtain ⟨tx, es⟩ := x0
  have HK : Hid (kWords.is false w S0 C0 (tx, es)) := h0
  obtain ⟨a, c, T, rfl, g0, hmx, hr, _⟩ := kWords_open h0
  have HZ0 : Hid (kWords.sz (tx, es) ≤ 2 ^ 20) := z0
  have HZ : Hid ((kRow kEntry).sz es ≤ 2 ^ 20) := by have : kWords.sz (tx, es) = 0 + (kRow kEntry).sz es := rfl; show _ ≤ _; omega
  have HRW : Hid ((kRow kEntry).is false w T [.slice a es.length c] es) := hr
  have HL20 : Hid (es.length ≤ 2 ^ 20) := by have := HZ.out; have h3 : (kRow kEntry).sz es = es.length + sums kEntry.sz es := rfl; show _ ≤ _; omega
  have HF : Hid (fPostingsOf (tx, es) x1 = if (fGoodWords (tx, es) && isWordB x1) = true then (findL x1 es, true) else ([], false)) := rfl
  clear h0 z0 hr
  show Calls Try.prog 17 #[.agg #[.int .i64 tx, .slice a es.length c], .string x1] w _
  go_enter Try.func17, Try.ntmps17
  go_wp2_with fail
  refine (implGoodWords_k (tx, es) [.int .i64 tx, .slice a es.length c] S0 _ (Kd.below HK.out (below_a1 _ _)) HZ0.out).mono ?_
  rintro e w1 ⟨rfl, hb1⟩
  have X0 : w1.cell? ⟨w.heap.size, 0, none⟩ = some (.int .i64 tx) := by rw [hb1.cell (by simp)]; simp [go_sem]
  have X1 : w1.cell? ⟨w.heap.size, 1, none⟩ = some (.slice a es.length c) := by rw [hb1.cell (by simp)]; simp [go_sem]
  have HB1 : Hid (Below w.heap.size w w1) := (below_a1 _ _).trans (hb1.mono (by simp))
  clear hb1
  cases hg : fGoodWords (tx, es) with
  | false =>
    have HNO : Hid (fPostingsOf (tx, es) x1 = ([], false)) := by have := HF.out; rw [hg] at this; exact this
    clear hg
    go_wp2
    refine bodyPost_ret (v := .tuple #[.slice none 0 0, .bool false]) (by simp [results, Try.results17, go_sem]) rfl ?_
    exact RPo_no HNO.out HB1.out
  | true =>
    have HRI : Hid (Rises es) := good_rises hg
    have HF1 : Hid (fPostingsOf (tx, es) x1 = if isWordB x1 = true then (findL x1 es, true) else ([], false)) := by have := HF.out; rw [hg] at this; exact this
    clear hg HF
    go_wp2_with fail
    refine (isWord_k x1 _ h1).mono ?_
    rintro e w2 ⟨rfl, hb2⟩
    have Y0 := cell_later hb2 X0
    have Y1 := cell_later hb2 X1
    have HB2 : Hid (Below w.heap.size w w2) := HB1.out.trans (hb2.mono HB1.out.size)
    clear hb2 X0 X1
    cases hw : isWordB x1 with
    | false =>
      have HNO : Hid (fPostingsOf (tx, es) x1 = ([], false)) := by have := HF1.out; rw [hw] at this; exact this
      clear hw
      go_wp2
      refine bodyPost_ret (v := .tuple #[.slice none 0 0, .bool false]) (by simp [results, Try.results17, go_sem]) rfl ?_
      exact RPo_no HNO.out HB2.out
    | true =>
      have HYES : Hid (fPostingsOf (tx, es) x1 = (findL x1 es, true)) := by have := HF1.out; rw [hw] at this; exact this
      clear hw HF1
      go_wp2_with fail
      refine (listOf_k tx es x1 a es.length c T _ (Kd.below HRW.out HB2.out) HRI.out (by have := HL20.out; omega)).mono ?_
      rintro e w3 ⟨la, ln, lc, T3, rfl, hl3, _, hb3⟩
      have HL3 : Hid ((kRow kPosting).is false w3 T3 [.slice la ln lc] (findL x1 es)) := hl3
      have HB3 : Hid (Below w.heap.size w w3) := HB2.out.trans (hb3.mono HB2.out.size)
      clear hl3 hb3
      go_wp2_with fail
      refine (cloneP_k (findL x1 es) la ln lc T3 _ HL3.out (by have := findL_len x1 es; have h3 : (kRow kEntry).sz es = es.length + sums kEntry.sz es := rfl; have := HZ.out; omega)).mono ?_
      rintro e w4 ⟨ca, cn, cc, rfl, hl4, hb4⟩
      have HL4 : Hid ((kRow kPosting).is true w4 (fun k => w3.heap.size ≤ k) [.slice ca cn cc] (findL x1 es)) := hl4
      have HB4 : Hid (Below w.heap.size w w4) := HB3.out.trans (hb4.mono HB3.out.size)
      clear hl4 hb4
      go_wp2
      refine bodyPost_ret (v := .tuple #[.slice ca cn cc, .bool true]) (by simp [results, Try.results17, go_sem]) rfl ?_
      exact RPo_yes HYES.out HZ.out HB3.out.size HL4.out HB4.out
end Go.Proofs.Ytikgcgfigcolmaa
namespace Go.Proofs.Ytikgcgfigcolmaa
open Go.RowKit
set_option linter.unusedVariables false

theorem findL_drop {s : ByteArray} {es : List DEntry} {k : Nat} {x : ByteArray} {l : List DPosting} (h : es[k]? = some (x, l)) : findL s (es.drop k) = if x = s then l else findL s (es.drop (k + 1)) := by
  have hk := (List.getElem?_eq_some_iff.1 h)
  rw [List.drop_eq_getElem_cons hk.1, hk.2, findL]

theorem ent_full (t : Int) : ∀ (es : List DEntry) (last : ByteArray), entOk t last es = true → ∀ (i : Nat) (x : ByteArray) (l : List DPosting), es[i]? = some (x, l) → l ≠ []
  | [], last, _, i, x, l, h => by simp at h
  | (y, m) :: r, last, hk, 0, x, l, h => by
    rw [entOk] at hk
    simp only [Bool.and_eq_true] at hk
    simp only [List.getElem?_cons_zero, Option.some.injEq, Prod.mk.injEq] at h
    rw [← h.2]
    intro e
    have := hk.1.1.2
    rw [e] at this
    simp at this
  | (y, m) :: r, last, hk, i + 1, x, l, h => by
    rw [entOk] at hk
    simp only [Bool.and_eq_true] at hk
    exact ent_full t r y hk.2 i x l (by simpa using h)
def Full (es : List DEntry) : Prop := ∀ (i : Nat) (x : ByteArray) (l : List DPosting), es[i]? = some (x, l) → l ≠ []
theorem good_full {t : Int} {es : List DEntry} (h : fGoodWords (t, es) = true) : Full es := by
  unfold fGoodWords at h
  simp only [Bool.and_eq_true] at h
  exact ent_full t es _ h.2
theorem row_some {α : Type} {K : Kd α} {o : Bool} {w : World} {S : Nat → Prop} {a : Option Addr} {n c : Nat} {l : List α} (h : (kRow K).is o w S [.slice a n c] l) (hl : l ≠ []) : ∃ ad, a = some ad := by
  cases l with
  | nil => exact absurd rfl hl
  | cons x t =>
    obtain ⟨b, off, _, _, e, _⟩ := row_at h (i := 0) rfl
    exact ⟨_, e⟩

set_option maxRecDepth 100000 in
set_option maxHeartbeats 4000000 in
theorem l10Postings_k (tx : Int) (es : List DEntry) (s : ByteArray) (a : Option Addr) (n c : Nat) (S : Nat → Prop) (w : World) (h : (kRow kEntry).is false w S [.slice a n c] es) (hz : (kRow kEntry).sz es ≤ 2 ^ 20) (hfu : Full es) :
    Calls Try.prog 89 #[.agg #[.int .i64 tx, .slice a n c], .string s] w (RPosts (findL s es) w) := by
  have HRW : Hid ((kRow kEntry).is false w S [.slice a n c] es) := h
  have hn : n = es.length := row_len h
  have HN : Hid (n = es.length) := hn
  have HZ : Hid ((kRow kEntry).sz es ≤ 2 ^ 20) := hz
  have hn20 : n ≤ 2 ^ 20 := by have h3 : (kRow kEntry).sz es = es.length + sums kEntry.sz es := rfl; omega
  have HFU : Hid (Full es) := hfu
  obtain ⟨G, hG⟩ : ∃ G, G = findL s es := ⟨_, rfl⟩
  have HG : Hid (G = findL s es) := hG
  rw [← hG]
  clear h hz hn hG hfu
  go_enter Try.func89, Try.ntmps89
  go_wp2_with fail
  obtain ⟨W0, hW0⟩ : ∃ W0, W0 = w.alloc (.cells #[.int .i64 tx, .slice a n c] 27) := ⟨_, rfl⟩
  rw [← hW0]
  have b0 : Below w.heap.size w W0 := by rw [hW0]; exact below_a1 _ _
  have zW0 : w.heap.size ≤ W0.heap.size := b0.size
  clear hW0
  go_loopw [10] (fun iv wr => ∃ (k : Nat), k ≤ n ∧ iv = .int .i64 k ∧ Hid (findL s (es.drop k) = G) ∧ Below W0.heap.size W0 wr) (fun iv _ => n - (intOf iv).toNat)
  case atStart => exact ⟨0, Nat.zero_le _, rfl, HG.out.symm, Below.refl _ _⟩
  case round =>
    obtain ⟨k, hk, rfl, HI, hnx⟩ := hrel
    have zw := hnx.size
    by_cases hlt : k < n
    · obtain ⟨⟨x, l⟩, hx⟩ : ∃ x, es[k]? = some x := ⟨_, List.getElem?_eq_getElem (by rw [← HN.out]; exact hlt)⟩
      have hrow := Kd.below HRW.out (b0.trans (hnx.mono (by omega)))
      obtain ⟨b, off, B, C, rfl, hb, _, hi, _, hc⟩ := row_at hrow hx
      obtain ⟨la, lc, TL, rfl, gx, gl, hl, _⟩ := kEntry_open hi
      have A0 : wr.cell? ⟨b, off + k * 2, none⟩ = some (.string x) := (hc 0 _ rfl).1
      have A1 : wr.cell? ⟨b, off + k * 2 + 1, none⟩ = some (.slice la l.length lc) := (hc 1 _ rfl).1
      have i0 : (0 : Int) ≤ (k : Int) := by omega
      have i1 : (k : Int) < (n : Int) := by omega
      have HI1 : Hid ((if x = s then l else findL s (es.drop (k + 1))) = G) := by have := HI.out; rw [findL_drop hx] at this; exact this
      obtain ⟨ad, rfl⟩ := row_some hl (HFU.out k x l hx)
      have HL : Hid ((kRow kPosting).is false wr TL [.slice (some ad) l.length lc] l) := hl
      have hl20 : l.length ≤ 2 ^ 20 := Nat.le_trans (szEntL hx) HZ.out
      have HNX : Hid (Below W0.heap.size W0 wr) := hnx
      clear HI hi hl hc hrow hx
      by_cases hw : x = s
      · have HGL : Hid (l = G) := by have := HI1.out; rw [if_pos hw] at this; exact this
        have t0 : (x.toList == s.toList) = true := by rw [hw]; simp
        clear HI1 hw
        have HOE : Hid (OwnL poC 43 2 ((wr.alloc (.cells #[.string x, .slice (some ad) l.length lc] 85)).alloc (.cells #[] 43)) w.heap.size (.slice (some ⟨wr.heap.size + 1, 0, none⟩) 0 0) []) := by
          have := own_empP (wr.alloc (.cells #[.string x, .slice (some ad) l.length lc] 85)) w.heap.size (by simp; omega)
          show OwnL _ _ _ _ _ _ _
          simpa using this
        have HR1 : Hid ((kRow kPosting).is false ((wr.alloc (.cells #[.string x, .slice (some ad) l.length lc] 85)).alloc (.cells #[] 43)) TL [.slice (some ad) l.length lc] l) := Kd.below (Kd.below HL.out (below_a1 _ _)) (below_a1 _ _)
        have HB1 : Hid (Below w.heap.size w ((wr.alloc (.cells #[.string x, .slice (some ad) l.length lc] 85)).alloc (.cells #[] 43))) := ((b0.trans (hnx.mono (by omega))).trans ((below_a1 _ _).mono (by omega))).trans ((below_a1 _ _).mono (by simp; omega))
        go_wp2_with (first | (at_builtin; refine app_posts rfl _ _ rfl w.heap.size _ rfl HOE.out ad l.length lc TL l rfl HR1.out (by omega) (by simp; omega) ?_))
        intro a' n' c' w' hk' hb'
        have HK : Hid ((kRow kPosting).is true w' (fun k => w.heap.size ≤ k) [.slice a' n' c'] G) := by rw [← HGL.out]; exact hk'
        have HB : Hid (Below w.heap.size w w') := HB1.out.trans hb'
        clear hk' hb'
        go_wp2
        go_ret
        exact ⟨a', n', c', rfl, HK.out, HB.out⟩
      · have HI2 : Hid (findL s (es.drop (k + 1)) = G) := by have := HI1.out; rw [if_neg hw] at this; exact this
        have t0 : (x.toList == s.toList) = false := by
          rw [beq_eq_false_iff_ne, ByteArray.toList_eq, ByteArray.toList_eq]
          intro e
          exact hw (ByteArray.ext (Array.toList_inj.1 e))
        clear HI1 hw
        go_wp2
        go_roundw
        case rel => exact ⟨k + 1, by omega, by rfl, HI2, by go_grown⟩
        case measure => simp only [intOf]; omega
    · have HGN : Hid (G = []) := by have := HI.out; rw [List.drop_eq_nil_of_le (by rw [← HN.out]; omega)] at this; exact this.symm
      have i1 : ¬ (k : Int) < (n : Int) := by omega
      go_wp2
      go_ret
      exact ⟨none, 0, 0, rfl, by rw [HGN.out]; exact row_nil _ _ _ _ _ _, b0.trans (hnx.mono (by omega))⟩

end Go.Proofs.Ytikgcgfigcolmaa
