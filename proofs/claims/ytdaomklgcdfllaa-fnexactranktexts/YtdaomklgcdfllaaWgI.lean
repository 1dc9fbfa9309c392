/- Words that are good: the program's. No condition but that they fit in memory. -/
import Derived.Test.YtdaomklgcdfllaaWgM
import Derived.Test.YtdaomklgcdfllaaWdI
import Derived.Test.YtdaomklgcdfllaaPoI
namespace Go.Proofs.Ytdaomklgcdfllaa
open Go.RowKit
set_option linter.unusedVariables false

theorem szEntI {es : List DEntry} {i : Nat} {x : ByteArray} {l : List DPosting} (h : es[i]? = some (x, l)) : x.size ≤ (kRow kEntry).sz es := by
  have h1 := sums_ge kEntry.sz es i (x, l) h
  have h2 : kEntry.sz (x, l) = x.size + (l.length + sums kPosting.sz l) := rfl
  have h3 : (kRow kEntry).sz es = es.length + sums kEntry.sz es := rfl
  omega
theorem leq_is (a b : ByteArray) : (Op.bytesLess a.toList b.toList || a.toList == b.toList) = !lessB b a := by
  unfold lessB
  rw [by_total b.toList a.toList]
  simp

set_option maxRecDepth 100000 in
set_option maxHeartbeats 8000000 in
theorem implGoodWords_k (x0 : DWords) (C0 : List Value) (S0 : Nat → Prop) (w : World) (h0 : kWords.is false w S0 C0 x0) (z0 : kWords.sz x0 ≤ 2 ^ 20) :
    Calls Try.prog 78 #[.agg C0.toArray] w fun e w' => e = .returned (.bool (fGoodWords x0)) ∧ Below w.heap.size w w' := by
  obtain ⟨tx, es⟩ := x0
  obtain ⟨a, c, T, rfl, g0, hmx, hr, _⟩ := kWords_open h0
  have hz : (kRow kEntry).sz es ≤ 2 ^ 20 := by have : kWords.sz (tx, es) = 0 + (kRow kEntry).sz es := rfl; omega
  obtain ⟨q, hq⟩ : ∃ q, q = fGoodWords (tx, es) := ⟨_, rfl⟩
  have HQ : Hid (q = (decide (0 ≤ tx ∧ tx ≤ 40) && decide (es.length ≤ 200) && entOk tx ⟨#[]⟩ es)) := hq
  have HRW : Hid ((kRow kEntry).is false w T [.slice a es.length c] es) := hr
  have HZ : Hid ((kRow kEntry).sz es ≤ 2 ^ 20) := hz
  rw [← hq]
  obtain ⟨n, hn⟩ : ∃ n, n = es.length := ⟨_, rfl⟩
  have HN : Hid (n = es.length) := hn
  rw [← hn] at HRW ⊢
  have hmx' : n ≤ 9223372036854775807 := by rw [hn]; exact hmx
  clear h0 z0 hz hq hr hmx hn
  show Calls Try.prog 78 #[.agg #[.int .i64 tx, .slice a n c]] w _
  by_cases c1 : tx < 0
  · have HF : Hid (q = false) := by show _ = _; rw [HQ.out, decide_eq_false (by omega)]; rfl
    go_enter Try.func78, Try.ntmps78
    go_wp2
    go_ret
    exact ⟨by rw [HF.out]; rfl, by go_grown⟩
  by_cases c2 : 40 < tx
  · have HF : Hid (q = false) := by show _ = _; rw [HQ.out, decide_eq_false (by omega)]; rfl
    go_enter Try.func78, Try.ntmps78
    go_wp2
    go_ret
    exact ⟨by rw [HF.out]; rfl, by go_grown⟩
  by_cases c3 : (200 : Int) < (n : Int)
  · have HF : Hid (q = false) := by show _ = _; rw [HQ.out, decide_eq_false (p := es.length ≤ 200) (by rw [← HN.out]; omega), Bool.and_false]; rfl
    go_enter Try.func78, Try.ntmps78
    go_wp2
    go_ret
    exact ⟨by rw [HF.out]; rfl, by go_grown⟩
  have HQ2 : Hid (entOk tx ⟨#[]⟩ es = q) := by show _ = _; rw [HQ.out, decide_eq_true (by omega), decide_eq_true (p := es.length ≤ 200) (by rw [← HN.out]; omega)]; rfl
  clear HQ
  go_enter Try.func78, Try.ntmps78
  go_wp2_with fail
  obtain ⟨W0, hW0⟩ : ∃ W0, W0 = w.alloc (.cells #[.int .i64 tx, .slice a n c] 26) := ⟨_, rfl⟩
  rw [← hW0]
  have b0 : Below w.heap.size w W0 := by rw [hW0]; exact below_a1 _ _
  have X0 : W0.cell? ⟨w.heap.size, 0, none⟩ = some (.int .i64 tx) := by rw [hW0]; simp [go_sem]
  have zW0 : w.heap.size < W0.heap.size := by rw [hW0]; simp
  clear hW0
  go_loopw [3, 23] (fun lv iv wr => ∃ (k : Nat) (last : ByteArray), k ≤ n ∧ iv = .int .i64 k ∧ lv = .string last ∧ Hid (entOk tx last (es.drop k) = q) ∧ Below W0.heap.size W0 wr) (fun _ iv _ => n - (intOf iv).toNat)
  case atStart => exact ⟨0, ⟨#[]⟩, Nat.zero_le _, rfl, rfl, HQ2, Below.refl _ _⟩
  case round =>
    obtain ⟨k, last, hk, rfl, rfl, HI, hnx⟩ := hrel
    have zw := hnx.size
    have Y0 := cell_later hnx X0
    by_cases hlt : k < n
    · obtain ⟨⟨x, l⟩, hx⟩ : ∃ x, es[k]? = some x := ⟨_, List.getElem?_eq_getElem (by rw [← HN.out]; exact hlt)⟩
      have hrow := Kd.below HRW.out (b0.trans (hnx.mono (by omega)))
      obtain ⟨b, off, B, C, rfl, hb, _, hi, _, hc⟩ := row_at hrow hx
      obtain ⟨la, lc, TL, rfl, gx, gl, hl, _⟩ := kEntry_open hi
      have A0 : wr.cell? ⟨b, off + k * 2, none⟩ = some (.string x) := (hc 0 _ rfl).1
      have A1 : wr.cell? ⟨b, off + k * 2 + 1, none⟩ = some (.slice la l.length lc) := (hc 1 _ rfl).1
      have i0 : (0 : Int) ≤ (k : Int) := by omega
      have i1 : (k : Int) < (n : Int) := by omega
      have hdr : es.drop k = (x, l) :: es.drop (k + 1) := by
        rw [List.drop_eq_getElem_cons (by rw [← HN.out]; exact hlt)]
        congr 1
        exact (List.getElem?_eq_some_iff.1 hx).2
      have HI1 : Hid ((isWordB x && lessB last x && !l.isEmpty && postOk tx (-1) l && entOk tx x (es.drop (k + 1))) = q) := by have := HI.out; rw [hdr, entOk] at this; exact this
      have HXS : Hid (x.size ≤ 2 ^ 20) := Nat.le_trans (szEntI hx) HZ.out
      have HL : Hid ((kRow kPosting).is false wr TL [.slice la l.length lc] l) := hl
      clear hdr HI hi hl hc hrow hx
      go_wp2_with fail
      refine (isWord_k x _ HXS.out).mono ?_
      rintro e w1 ⟨rfl, hb1⟩
      have B1 : Below wr.heap.size wr w1 := (below_a1 _ _).trans (hb1.mono (by simp))
      have E0 : w1.cell? ⟨wr.heap.size, 0, none⟩ = some (.string x) := by rw [hb1.cell (by simp)]; simp [go_sem]
      have E1 : w1.cell? ⟨wr.heap.size, 1, none⟩ = some (.slice la l.length lc) := by rw [hb1.cell (by simp)]; simp [go_sem]
      have Z0 := cell_later B1 Y0
      have HL1 : Hid ((kRow kPosting).is false w1 TL [.slice la l.length lc] l) := Kd.below HL.out B1
      have HB1 : Hid (Below W0.heap.size W0 w1) := hnx.trans (B1.mono zw)
      have HBW : Hid (Below w.heap.size w w1) := b0.trans (HB1.out.mono (by omega))
      clear hb1 B1 HL A0 A1 Y0 hnx
      cases w1' : isWordB x with
      | false =>
        have HF : Hid (q = false) := by have := HI1.out; rw [w1'] at this; exact this.symm
        clear HI1 w1'
        go_wp2
        go_ret
        exact ⟨by rw [HF.out]; rfl, HBW.out⟩
      | true =>
        have hle := leq_is x last
        cases w2 : lessB last x with
        | false =>
          rw [w2] at hle
          have HF : Hid (q = false) := by have := HI1.out; rw [w1', w2] at this; exact this.symm
          clear HI1 w1' w2
          go_wp2
          go_ret
          exact ⟨by rw [HF.out]; rfl, HBW.out⟩
        | true =>
          rw [w2] at hle
          by_cases w3 : l.length = 0
          · have HF : Hid (q = false) := by have := HI1.out; rw [w1', w2, isEmpty_len, decide_eq_true w3] at this; exact this.symm
            have w3' : ((l.length : Int) == 0) = true := by rw [beq_iff_eq]; omega
            clear HI1 w1' w2 w3
            go_wp2
            go_ret
            exact ⟨by rw [HF.out]; rfl, HBW.out⟩
          · have w3' : ((l.length : Int) == 0) = false := by rw [beq_eq_false_iff_ne]; omega
            have HI2 : Hid ((postOk tx (-1) l && entOk tx x (es.drop (k + 1))) = q) := by have := HI1.out; rw [w1', w2, isEmpty_len, decide_eq_false w3] at this; exact this
            clear HI1 w1' w2 w3
            go_wp2_with fail
            refine (arePostings_k l la _ lc TL tx _ HL1.out).mono ?_
            rintro e w2 ⟨rfl, hb2⟩
            have E02 := cell_later hb2 E0
            have HB2 : Hid (Below W0.heap.size W0 w2) := HB1.out.trans (hb2.mono HB1.out.size)
            have HBW2 : Hid (Below w.heap.size w w2) := HBW.out.trans (hb2.mono HBW.out.size)
            clear hb2 E0 E1 Z0
            cases w4 : postOk tx (-1) l with
            | false =>
              have HF : Hid (q = false) := by have := HI2.out; rw [w4] at this; exact this.symm
              clear HI2 w4
              go_wp2
              go_ret
              exact ⟨by rw [HF.out]; rfl, HBW2.out⟩
            | true =>
              have HI3 : Hid (entOk tx x (es.drop (k + 1)) = q) := by have := HI2.out; rw [w4] at this; exact this
              clear HI2 w4
              go_wp2
              go_roundw
              case rel => exact ⟨k + 1, x, by omega, by go_num, rfl, HI3, HB2.out⟩
              case measure => simp [intOf]; omega
    · have HF : Hid (q = true) := by
        have := HI.out
        rw [show k = es.length by rw [← HN.out]; omega, List.drop_length, entOk] at this
        exact this.symm
      go_wp2
      go_ret
      exact ⟨by rw [HF.out]; rfl, b0.trans (hnx.mono (by omega))⟩
end Go.Proofs.Ytdaomklgcdfllaa
