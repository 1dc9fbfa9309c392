/- Lists that are the same, and whether a list has a number. No condition. FnWords answers true at all bytes: texts are listed by their words as the specification lists them, and the lists say which text has which word. No condition. What came in, opened as data of a kind. No condition. FnWords: for all arguments the law answers true and its arguments read as they did. No condition. -/
import Derived.Test.YtikgcgfigcolmaaRkG
import Derived.Test.YtikgcgfigcolmaaQb
import Derived.Test.YtikgcgfigcolmaaCur
import Derived.Test.YtikgcgfigcolmaaKWords
import Derived.Deep.Cut
import Derived.Test.YtikgcgfigcolmaaQHtW
import Derived.Test.YtikgcgfigcolmaaQFwD
import Derived.Test.YtikgcgfigcolmaaQCuX
import Derived.Test.YtikgcgfigcolmaaQLoS
import Derived.Test.YtikgcgfigcolmaaWdI
import Derived.Test.YtikgcgfigcolmaaKd
import Derived.Test.YtikgcgfigcolmaaRows
import Derived.Test.YtikgcgfigcolmaaChecked
import Derived.ProofKit
import Derived.OpenShut
import Derived.Deep.DeepHandedRow
import Derived.Deep.Slices
import Derived.Lib.SmallJoins
namespace Go.Proofs.Ytikgcgfigcolmaa
open Go.RowKit
set_option linter.unusedVariables false

set_option maxRecDepth 100000 in
set_option maxHeartbeats 2000000 in
theorem samePost_k (l : List DPosting) (a1 a2 : Option Addr) (n c1 c2 : Nat) (S1 S2 : Nat → Prop) (w : World) (h1 : (kRow kPosting).is false w S1 [.slice a1 n c1] l) (h2 : (kRow kPosting).is false w S2 [.slice a2 n c2] l) :
    Calls Try.prog 44 #[.slice a1 n c1, .slice a2 n c2] w fun e w' => e = .returned (.bool true) ∧ Below w.heap.size w w' := by
  have hnl := row_len h1
  have hmx : n ≤ 9223372036854775807 := by obtain ⟨_, _, _, h, _⟩ := row_form h1; rw [hnl]; exact h
  have HNL : Hid (n = l.length) := hnl
  clear hnl
  have H1 : Hid ((kRow kPosting).is false w S1 [.slice a1 n c1] l) := h1
  have H2 : Hid ((kRow kPosting).is false w S2 [.slice a2 n c2] l) := h2
  clear h1 h2
  go_enter Try.func44, Try.ntmps44
  go_wp2_with fail
  go_loopw [13] (fun i wr => ∃ k : Nat, k ≤ n ∧ i = .int .i64 k ∧ Below w.heap.size w wr) (fun i _ => n - (intOf i).toNat)
  case atStart => exact ⟨0, Nat.zero_le _, rfl, Below.refl _ _⟩
  case round =>
    obtain ⟨k, hk, rfl, hnx⟩ := hrel
    by_cases hlt : k < n
    · obtain ⟨x, hx⟩ : ∃ x, l[k]? = some x := ⟨_, List.getElem?_eq_getElem (by rw [← HNL.out]; exact hlt)⟩
      obtain ⟨b, off, B, C, rfl, hb, _, hi, _, hc⟩ := row_at (Kd.below H1.out hnx) hx
      obtain ⟨b', off', B', C', rfl, hb', _, hi', _, hc'⟩ := row_at (Kd.below H2.out hnx) hx
      obtain ⟨x0, x1⟩ := x
      obtain ⟨rfl, g0, g1⟩ := kPosting_open hi
      obtain ⟨rfl, j0, j1⟩ := kPosting_open hi'
      have A0 : wr.cell? ⟨b, off + k * 2, none⟩ = some (.int .i64 x0) := (hc 0 _ rfl).1
      have A1 : wr.cell? ⟨b, off + k * 2 + 1, none⟩ = some (.int .i64 x1) := (hc 1 _ rfl).1
      have D0 : wr.cell? ⟨b', off' + k * 2, none⟩ = some (.int .i64 x0) := (hc' 0 _ rfl).1
      have D1 : wr.cell? ⟨b', off' + k * 2 + 1, none⟩ = some (.int .i64 x1) := (hc' 1 _ rfl).1
      have i0 : (0 : Int) ≤ (k : Int) := by omega
      have i1 : (k : Int) < (n : Int) := by omega
      have hne := belowOf_ne wr
      have V0 : ∀ q : BelowOf wr, q.v.cell? ⟨b, off + k * 2, none⟩ = some (.int .i64 x0) := BelowOf.cell A0
      have V1 : ∀ q : BelowOf wr, q.v.cell? ⟨b, off + k * 2 + 1, none⟩ = some (.int .i64 x1) := BelowOf.cell A1
      have V2 : ∀ q : BelowOf wr, q.v.cell? ⟨b', off' + k * 2, none⟩ = some (.int .i64 x0) := BelowOf.cell D0
      have V3 : ∀ q : BelowOf wr, q.v.cell? ⟨b', off' + k * 2 + 1, none⟩ = some (.int .i64 x1) := BelowOf.cell D1
      clear hi hi' hc hc'
      go_wp2_with fail
      refine region_below (by kernel_rfl) (by kernel_rfl) ?_
      repeat (go_big_quiet_step (fail))
      refine wpQuiet_nil (belowOf_all ?_)
      intro w1 hb1
      clear V0 V1 V2 V3 hne
      go_wp2
      go_roundw
      case rel => exact ⟨k + 1, by omega, by go_num, hnx.trans (hb1.mono hnx.size)⟩
      case measure => simp [intOf]; omega
    · go_wp2
      go_ret
      exact ⟨rfl, hnx⟩
set_option maxRecDepth 100000 in
set_option maxHeartbeats 2000000 in
theorem sameInts_k (l : List Int) (a1 a2 : Option Addr) (n c1 c2 : Nat) (S1 S2 : Nat → Prop) (w : World) (h1 : (kRow kInt).is false w S1 [.slice a1 n c1] l) (h2 : (kRow kInt).is false w S2 [.slice a2 n c2] l) :
    Calls Try.prog 21 #[.slice a1 n c1, .slice a2 n c2] w fun e w' => e = .returned (.bool true) ∧ Below w.heap.size w w' := by
  have hnl := row_len h1
  have hmx : n ≤ 9223372036854775807 := by obtain ⟨_, _, _, h, _⟩ := row_form h1; rw [hnl]; exact h
  have HNL : Hid (n = l.length) := hnl
  clear hnl
  have H1 : Hid ((kRow kInt).is false w S1 [.slice a1 n c1] l) := h1
  have H2 : Hid ((kRow kInt).is false w S2 [.slice a2 n c2] l) := h2
  clear h1 h2
  go_enter Try.func21, Try.ntmps21
  go_wp2_with fail
  go_loopw [13] (fun i wr => ∃ k : Nat, k ≤ n ∧ i = .int .i64 k ∧ Below w.heap.size w wr) (fun i _ => n - (intOf i).toNat)
  case atStart => exact ⟨0, Nat.zero_le _, rfl, Below.refl _ _⟩
  case round =>
    obtain ⟨k, hk, rfl, hnx⟩ := hrel
    by_cases hlt : k < n
    · obtain ⟨x, hx⟩ : ∃ x, l[k]? = some x := ⟨_, List.getElem?_eq_getElem (by rw [← HNL.out]; exact hlt)⟩
      obtain ⟨b, off, B, C, rfl, hb, _, hi, _, hc⟩ := row_at (Kd.below H1.out hnx) hx
      obtain ⟨b', off', B', C', rfl, hb', _, hi', _, hc'⟩ := row_at (Kd.below H2.out hnx) hx
      obtain ⟨rfl, g0⟩ := hi
      obtain ⟨rfl, j0⟩ := hi'
      have A0 : wr.cell? ⟨b, off + k, none⟩ = some (.int .i64 x) := by have := (hc 0 _ rfl).1; simpa [kInt] using this
      have D0 : wr.cell? ⟨b', off' + k, none⟩ = some (.int .i64 x) := by have := (hc' 0 _ rfl).1; simpa [kInt] using this
      have i0 : (0 : Int) ≤ (k : Int) := by omega
      have i1 : (k : Int) < (n : Int) := by omega
      have hne := belowOf_ne wr
      have V0 : ∀ q : BelowOf wr, q.v.cell? ⟨b, off + k, none⟩ = some (.int .i64 x) := BelowOf.cell A0
      have V2 : ∀ q : BelowOf wr, q.v.cell? ⟨b', off' + k, none⟩ = some (.int .i64 x) := BelowOf.cell D0
      clear hc hc'
      go_wp2_with fail
      refine region_below (by kernel_rfl) (by kernel_rfl) ?_
      repeat (go_big_quiet_step (fail))
      refine wpQuiet_nil (belowOf_all ?_)
      intro w1 hb1
      clear V0 V2 hne
      go_wp2
      go_roundw
      case rel => exact ⟨k + 1, by omega, by go_num, hnx.trans (hb1.mono hnx.size)⟩
      case measure => simp [intOf]; omega
    · go_wp2
      go_ret
      exact ⟨rfl, hnx⟩

set_option maxRecDepth 100000 in
set_option maxHeartbeats 2000000 in
theorem has_k (l : List Int) (a1 : Option Addr) (n c1 : Nat) (S1 : Nat → Prop) (y : Int) (w : World) (h1 : (kRow kInt).is false w S1 [.slice a1 n c1] l) :
    Calls Try.prog 18 #[.slice a1 n c1, .int .i64 y] w fun e w' => e = .returned (.bool (decide (y ∈ l))) ∧ Below w.heap.size w w' := by
  have hnl := row_len h1
  have hmx : n ≤ 9223372036854775807 := by obtain ⟨_, _, _, h, _⟩ := row_form h1; rw [hnl]; exact h
  have HNL : Hid (n = l.length) := hnl
  clear hnl
  have H1 : Hid ((kRow kInt).is false w S1 [.slice a1 n c1] l) := h1
  clear h1
  go_enter Try.func18, Try.ntmps18
  go_wp2_with fail
  go_loopw [9] (fun i wr => ∃ k : Nat, k ≤ n ∧ i = .int .i64 k ∧ Hid (y ∉ l.take k) ∧ Below w.heap.size w wr) (fun i _ => n - (intOf i).toNat)
  case atStart => exact ⟨0, Nat.zero_le _, rfl, (fun h => by simp at h), Below.refl _ _⟩
  case round =>
    obtain ⟨k, hk, rfl, HN, hnx⟩ := hrel
    by_cases hlt : k < n
    · obtain ⟨x, hx⟩ : ∃ x, l[k]? = some x := ⟨_, List.getElem?_eq_getElem (by rw [← HNL.out]; exact hlt)⟩
      obtain ⟨b, off, B, C, rfl, hb, _, hi, _, hc⟩ := row_at (Kd.below H1.out hnx) hx
      obtain ⟨rfl, g0⟩ := hi
      have A0 : wr.cell? ⟨b, off + k, none⟩ = some (.int .i64 x) := by have := (hc 0 _ rfl).1; simpa [kInt] using this
      have i0 : (0 : Int) ≤ (k : Int) := by omega
      have i1 : (k : Int) < (n : Int) := by omega
      have HBR : Hid (Below w.heap.size w wr) := hnx
      have HX : Hid (l[k]? = some x) := hx
      clear hc hx hnx
      by_cases hxy : x = y
      · subst hxy
        have HM : Hid (decide (x ∈ l) = true) := decide_eq_true (List.mem_of_getElem? HX.out)
        go_wp2
        go_ret
        exact ⟨by rw [HM.out]; rfl, HBR.out⟩
      · have HN2 : Hid (y ∉ l.take (k + 1)) := by
          intro h
          rw [List.take_add_one, HX.out] at h
          rcases List.mem_append.1 h with h | h
          · exact HN.out h
          · have : y = x := by simpa using h
            exact hxy this.symm
        have hxy2 : (x == y) = false := by simpa using hxy
        go_wp2
        go_roundw
        case rel => exact ⟨k + 1, by omega, by go_num, HN2, HBR.out⟩
        case measure => simp [intOf]; omega
    · have i1 : ¬ (k : Int) < (n : Int) := by omega
      have HM : Hid (decide (y ∈ l) = false) := decide_eq_false (by have := HN.out; rw [List.take_of_length_le (by rw [← HNL.out]; omega)] at this; exact this)
      have HBR : Hid (Below w.heap.size w wr) := hnx
      clear hnx
      go_wp2
      go_ret
      exact ⟨by rw [HM.out]; rfl, HBR.out⟩

set_option maxRecDepth 100000 in
set_option maxHeartbeats 4000000 in
theorem sameWords_k (x : DWords) (C1 C2 : List Value) (S1 S2 : Nat → Prop) (w : World) (h1 : kWords.is false w S1 C1 x) (h2 : kWords.is false w S2 C2 x) :
    Calls Try.prog 9 #[.agg C1.toArray, .agg C2.toArray] w fun e w' => e = .returned (.bool true) ∧ Below w.heap.size w w' := by
  obtain ⟨t, es⟩ := x
  obtain ⟨a1, c1, T1, rfl, g0, l1, r1, s1⟩ := kWords_open (h1)
  obtain ⟨b1, d1, U1, rfl, j0, m1, p1, q1⟩ := kWords_open (h2)
  obtain ⟨n, hn⟩ : ∃ n, n = es.length := ⟨_, rfl⟩
  rw [← hn] at r1 p1 l1
  have HNL : Hid (n = es.length) := hn
  have hmx : n ≤ 9223372036854775807 := l1
  have R1 : Hid ((kRow kEntry).is false w T1 [.slice a1 n c1] es) := r1
  have P1 : Hid ((kRow kEntry).is false w U1 [.slice b1 n d1] es) := p1
  show Calls Try.prog 9 #[.agg #[.int .i64 t, .slice a1 es.length c1], .agg #[.int .i64 t, .slice b1 es.length d1]] w _
  rw [← hn]
  obtain ⟨W2, hW2⟩ : ∃ W2, W2 = (w.alloc (.cells #[.int .i64 t, .slice a1 n c1] 27)).alloc (.cells #[.int .i64 t, .slice b1 n d1] 27) := ⟨_, rfl⟩
  have HBW : Hid (Below w.heap.size w W2) := by show Below _ _ _; rw [hW2]; exact ((Below.refl _ _).alloc (Nat.le_refl _) _).alloc (by simp) _
  have ZW : Hid (W2.heap.size = w.heap.size + 2) := by show _ = _; rw [hW2]; simp
  have HC : Hid (W2.cell? ⟨w.heap.size, 0, none⟩ = some (.int .i64 t) ∧ W2.cell? ⟨w.heap.size, 1, none⟩ = some (.slice a1 n c1) ∧ W2.cell? ⟨w.heap.size + 1, 0, none⟩ = some (.int .i64 t) ∧ W2.cell? ⟨w.heap.size + 1, 1, none⟩ = some (.slice b1 n d1)) := by rw [hW2]; refine ⟨?_, ?_, ?_, ?_⟩ <;> simp [go_sem]
  clear h1 h2 r1 p1 s1 q1 l1 m1 hn
  go_enter Try.func9, Try.ntmps9
  go_upto_region 1 with fail
  rw [← hW2]
  clear hW2
  obtain ⟨c, hc0⟩ : ∃ c, c = w.heap.size := ⟨_, rfl⟩
  rw [← hc0] at HC ⊢
  have Q0 := HC.out.1
  have Q1 := HC.out.2.1
  have Q2 := HC.out.2.2.1
  have Q3 := HC.out.2.2.2
  have zc : c + 1 < W2.heap.size := by have := ZW.out; omega
  have hcw : Hid (c = w.heap.size) := hc0
  clear hc0
  go_wp2_with fail
  go_loopw [23] (fun i wr => ∃ k : Nat, k ≤ n ∧ i = .int .i64 k ∧ Below W2.heap.size W2 wr) (fun i _ => n - (intOf i).toNat)
  case atStart => exact ⟨0, Nat.zero_le _, rfl, Below.refl _ _⟩
  case round =>
    obtain ⟨k, hk, rfl, hnx⟩ := hrel
    have E0 := cell_later hnx Q0
    have E1 := cell_later hnx Q1
    have E2 := cell_later hnx Q2
    have E3 := cell_later hnx Q3
    clear Q0 Q1 Q2 Q3
    by_cases hlt : k < n
    · obtain ⟨⟨x0, x1⟩, hx⟩ : ∃ x, es[k]? = some x := ⟨_, List.getElem?_eq_getElem (by rw [← HNL.out]; exact hlt)⟩
      obtain ⟨b, off, B, C, rfl, hb, _, hi, _, hc⟩ := row_at (Kd.below R1.out (HBW.out.trans (hnx.mono HBW.out.size))) hx
      obtain ⟨b', off', B', C', rfl, hb', _, hi', _, hc'⟩ := row_at (Kd.below P1.out (HBW.out.trans (hnx.mono HBW.out.size))) hx
      obtain ⟨la1, lc1, T3, rfl, f0, f1, rr1, _⟩ := kEntry_open hi
      obtain ⟨la2, lc2, T4, rfl, _, _, rr2, _⟩ := kEntry_open hi'
      obtain ⟨ml, hml⟩ : ∃ ml, ml = x1.length := ⟨_, rfl⟩
      have A0 : wr.cell? ⟨b, off + k * 2, none⟩ = some (.string x0) := (hc 0 _ rfl).1
      have A1 : wr.cell? ⟨b, off + k * 2 + 1, none⟩ = some (.slice la1 ml lc1) := by rw [hml]; exact (hc 1 _ rfl).1
      have D0 : wr.cell? ⟨b', off' + k * 2, none⟩ = some (.string x0) := (hc' 0 _ rfl).1
      have D1 : wr.cell? ⟨b', off' + k * 2 + 1, none⟩ = some (.slice la2 ml lc2) := by rw [hml]; exact (hc' 1 _ rfl).1
      have i0 : (0 : Int) ≤ (k : Int) := by omega
      have i1 : (k : Int) < (n : Int) := by omega
      rw [← hml] at rr1 rr2
      have HSC : Hid (∀ w', Below wr.heap.size wr w' → Calls Try.prog 44 #[.slice la1 ml lc1, .slice la2 ml lc2] w' fun e w'' => e = .returned (.bool true) ∧ Below w'.heap.size w' w'') := fun w' hw' => samePost_k x1 la1 la2 ml lc1 lc2 T3 T4 w' (Kd.below rr1 hw') (Kd.below rr2 hw')
      have hne := belowOf_ne wr
      have V0 : ∀ q : BelowOf wr, q.v.cell? ⟨b, off + k * 2, none⟩ = some (.string x0) := BelowOf.cell A0
      have V1 : ∀ q : BelowOf wr, q.v.cell? ⟨b, off + k * 2 + 1, none⟩ = some (.slice la1 ml lc1) := BelowOf.cell A1
      have V2 : ∀ q : BelowOf wr, q.v.cell? ⟨b', off' + k * 2, none⟩ = some (.string x0) := BelowOf.cell D0
      have V3 : ∀ q : BelowOf wr, q.v.cell? ⟨b', off' + k * 2 + 1, none⟩ = some (.slice la2 ml lc2) := BelowOf.cell D1
      have V4 : ∀ q : BelowOf wr, q.v.cell? ⟨c, 1, none⟩ = some (.slice (some ⟨b, off, none⟩) n c1) := BelowOf.cell E1
      have V5 : ∀ q : BelowOf wr, q.v.cell? ⟨c + 1, 1, none⟩ = some (.slice (some ⟨b', off', none⟩) n d1) := BelowOf.cell E3
      have HBR : Hid (Below W2.heap.size W2 wr) := hnx
      clear hc hc' hi hi' hx rr1 rr2 f0 f1 hml hnx
      go_wp2_with fail
      refine region_below (by kernel_rfl) (by kernel_rfl) ?_
      repeat (go_big_quiet_step (first | (go_at_call 44; exact BelowOf.calls (HSC.out _ (BelowOf.h _)))))
      refine wpQuiet_nil (belowOf_all ?_)
      intro w7 hb7
      have HB7 : Hid (Below W2.heap.size W2 w7) := HBR.out.trans (hb7.mono HBR.out.size)
      clear hb7 V0 V1 V2 V3 V4 V5 hne
      go_wp2
      go_roundw
      case rel => exact ⟨k + 1, by omega, by go_num, HB7.out⟩
      case measure => simp [intOf]; omega
    · have i1 : ¬ (k : Int) < (n : Int) := by omega
      have HBF : Hid (Below w.heap.size w wr) := HBW.out.trans (hnx.mono HBW.out.size)
      clear hnx
      go_wp2
      go_ret
      exact ⟨rfl, HBF.out⟩
end Go.Proofs.Ytikgcgfigcolmaa
namespace Go.Proofs.Ytikgcgfigcolmaa
open Go.RowKit
set_option linter.unusedVariables false

/-- What the law asks of listed texts. -/
structure WOk (txs : List ByteArray) (x : DWords) : Prop where
  is : x = ((txs.length : Int), ixOf txs)
  small : ∀ s ∈ txs, s.size ≤ 200
  few : txs.length ≤ 40
  sz : kWords.sz x ≤ 2 ^ 20
  good : fGoodWords x = true
theorem ix_yes {txs : List ByteArray} (h : (fIndexOf txs).2 = true) : WOk txs (fIndexOf txs).1 := by
  unfold fIndexOf at h ⊢
  split
  · rename_i h'
    obtain ⟨h1, h2, h3⟩ := h'
    have hio := ix_ok h2 txs.length (Nat.le_refl _)
    rw [List.take_length] at hio
    refine ⟨rfl, h2, h1, ?_, ?_⟩
    · have e1 := ix_sz hio h1 (by omega)
      have e2 : kWords.sz ((txs.length : Int), ixOf txs) = 0 + (kRow kEntry).sz (ixOf txs) := rfl
      show kWords.sz ((txs.length : Int), ixOf txs) ≤ _
      omega
    · show fGoodWords ((txs.length : Int), ixOf txs) = true
      rw [ix_good h1 h2]
      exact decide_eq_true h3
  · rename_i h'
    rw [if_neg h'] at h
    cases h
theorem WOk.all {txs : List ByteArray} {x : DWords} (h : WOk txs x) {i : Nat} {s : ByteArray} (hs : txs[i]? = some s) {ws : List ByteArray} (hf : (fWithAll x ws).2 = true) : decide ((i : Int) ∈ (fWithAll x ws).1) = decide ((haveN ws s : Int) = (ws.length : Int)) := by
  obtain ⟨rfl, h2, _, _, _⟩ := h
  have := with_has h2 hs (fun n => decide (n = (ws.length : Int))) ws hf
  unfold fWithAll
  rw [decide_eq_decide]
  simpa using this
theorem WOk.any {txs : List ByteArray} {x : DWords} (h : WOk txs x) {i : Nat} {s : ByteArray} (hs : txs[i]? = some s) {ws : List ByteArray} (hf : (fWithAny x ws).2 = true) : decide ((i : Int) ∈ (fWithAny x ws).1) = decide ((0 : Int) < (haveN ws s : Int)) := by
  obtain ⟨rfl, h2, _, _, _⟩ := h
  have := with_has h2 hs (fun n => decide ((0 : Int) < n)) ws hf
  unfold fWithAny
  rw [decide_eq_decide]
  simpa using this
theorem WOk.out {txs : List ByteArray} {x : DWords} (h : WOk txs x) {i : Nat} {s : ByteArray} (hs : txs[i]? = some s) {ws : List ByteArray} (hf : (fWithout x ws).2 = true) : decide ((i : Int) ∈ (fWithout x ws).1) = decide ((haveN ws s : Int) = 0) := by
  obtain ⟨rfl, h2, _, _, _⟩ := h
  have := with_has h2 hs (fun n => decide (n = 0)) ws hf
  unfold fWithout
  rw [decide_eq_decide]
  simpa using this
theorem WOk.post {txs : List ByteArray} {x : DWords} (h : WOk txs x) {i : Nat} {s : ByteArray} (hs : txs[i]? = some s) {y : ByteArray} (hf : (fPostingsOf x y).2 = true) : timesF (fPostingsOf x y).1 i = (cntB y (wordsB s) : Int) := by
  obtain ⟨rfl, h2, _, _, _⟩ := h
  unfold fPostingsOf at hf ⊢
  split
  · exact (ix_at h2 hs y).1
  · rename_i h'
    rw [if_neg h'] at hf
    cases hf
theorem str_ne {x s : ByteArray} (hw : ¬ x = s) : (x.toList == s.toList) = false := by
  rw [beq_eq_false_iff_ne, ByteArray.toList_eq, ByteArray.toList_eq]
  intro e
  exact hw (ByteArray.ext (Array.toList_inj.1 e))

set_option maxRecDepth 100000 in
set_option maxHeartbeats 8000000 in
theorem lawWords_k (x0 x1 : List Int) (a0 a1 : Option Addr) (n0 c0 n1 c1 : Nat) (w : World) (h0 : (kRow kU8).is false w (fun _ => True) [.slice a0 n0 c0] x0) (h1 : (kRow kU8).is false w (fun _ => True) [.slice a1 n1 c1] x1) :
    Calls Try.prog 3 #[.slice a0 n0 c0, .slice a1 n1 c1] w fun e w' => e = .returned (.bool true) ∧ Below w.heap.size w w' := by
  have m0 : n0 ≤ 9223372036854775807 := by obtain ⟨_, _, _, h, _⟩ := row_form h0; rw [row_len h0]; exact h
  have m1 : n1 ≤ 9223372036854775807 := by obtain ⟨_, _, _, h, _⟩ := row_form h1; rw [row_len h1]; exact h
  have H0 : Hid ((kRow kU8).is false w (fun _ => True) [.slice a0 n0 c0] x0) := h0
  have H1 : Hid ((kRow kU8).is false w (fun _ => True) [.slice a1 n1 c1] x1) := h1
  clear h0 h1
  go_enter Try.func3, Try.ntmps3
  obtain ⟨q, hq⟩ : ∃ q, q = wrap64 ((n0 : Int) + (n1 : Int)) := ⟨_, rfl⟩
  by_cases hbig : (1048576 : Int) < q
  · rw [hq] at hbig
    go_wp2
    go_ret
    exact ⟨rfl, Below.refl _ _⟩
  rw [hq] at hbig
  clear hq
  go_wp2_with fail
  refine (drawIndexOf_k w x0 a0 n0 c0 H0.out m0).mono ?_
  rintro e w1 ⟨ta, tn, tc, T0, txs, rfl, ht, hN, hb⟩
  have HT1 : Hid ((kRow kStr).is true w1 T0 [.slice ta tn tc] txs) := ht
  have HTN : Hid (tn = txs.length) := row_len ht
  have tn41 : tn ≤ 41 := by rw [HTN.out]; exact hN.1
  have HZT : Hid ((kRow kStr).sz txs ≤ 2 ^ 20) := Nat.le_trans (strs_sz hN) (by omega)
  have HB1 : Hid (Below w.heap.size w w1) := hb
  obtain ⟨X, hX⟩ : ∃ X, X = (fIndexOf txs).1 := ⟨_, rfl⟩
  obtain ⟨ok, hok⟩ : ∃ ok, ok = (fIndexOf txs).2 := ⟨_, rfl⟩
  have HX : Hid (X = (fIndexOf txs).1 ∧ ok = (fIndexOf txs).2) := ⟨hX, hok⟩
  have HYES : Hid (ok = true → WOk txs X) := fun h => by rw [hX]; exact ix_yes (by rw [← hok]; exact h)
  clear ht hN hb hX hok
  go_wp2_with fail
  refine (implIndexOf_k txs ta tn tc T0 w1 (Kd.read _ HT1.out) HZT.out).mono ?_
  rintro e w2 ⟨C0, TI, rfl, hw, _, _, hb⟩
  rw [← HX.out.1] at hw
  rw [← HX.out.2]
  obtain ⟨t, es⟩ := X
  obtain ⟨xa, xc, _, rfl, _, _, _, _⟩ := kWords_open hw
  obtain ⟨xn, hxn⟩ : ∃ xn, xn = es.length := ⟨_, rfl⟩
  have HXN : Hid (xn = es.length) := hxn
  rw [← hxn] at hw ⊢
  obtain ⟨W2, hW2⟩ : ∃ W2, W2 = w2.alloc (.cells #[.int .i64 t, .slice xa xn xc] 27) := ⟨_, rfl⟩
  have hbW : Below w2.heap.size w2 W2 := by rw [hW2]; exact below_a1' _ _
  obtain ⟨xb, hxb⟩ : ∃ xb, xb = w2.heap.size := ⟨_, rfl⟩
  have P0 : W2.cell? ⟨xb, 0, none⟩ = some (.int .i64 t) := by rw [hW2, hxb]; simp [go_sem]
  have P1 : W2.cell? ⟨xb, 1, none⟩ = some (.slice xa xn xc) := by rw [hW2, hxb]; simp [go_sem]
  have HW2 : Hid (kWords.is true W2 TI [.int .i64 t, .slice xa xn xc] (t, es)) := Kd.below hw hbW
  have HT2 : Hid ((kRow kStr).is true W2 T0 [.slice ta tn tc] txs) := Kd.below (Kd.below HT1.out hb) hbW
  have HB2 : Hid (Below w.heap.size w W2) := HB1.out.trans ((hb.trans (hbW.mono hb.size)).mono HB1.out.size)
  clear hw hb hbW hxn HT1 HB1
  go_upto_region 5 with fail
  rw [← hW2, ← hxb]
  clear hW2 hxb
  go_wp2_with fail
  refine (specIndexOf_k txs ta tn tc T0 W2 (Kd.read _ HT2.out) HZT.out).mono ?_
  rintro e w3 ⟨C1, TJ, rfl, hw, _, _, hb⟩
  rw [← HX.out.1] at hw
  rw [← HX.out.2]
  obtain ⟨ya, yc, _, rfl, _, _, _, _⟩ := kWords_open hw
  rw [← HXN.out] at hw ⊢
  obtain ⟨W3, hW3⟩ : ∃ W3, W3 = w3.alloc (.cells #[.int .i64 t, .slice ya xn yc] 27) := ⟨_, rfl⟩
  have hbW : Below w3.heap.size w3 W3 := by rw [hW3]; exact below_a1' _ _
  obtain ⟨yb, hyb⟩ : ∃ yb, yb = w3.heap.size := ⟨_, rfl⟩
  have Y0 : W3.cell? ⟨yb, 0, none⟩ = some (.int .i64 t) := by rw [hW3, hyb]; simp [go_sem]
  have Y1 : W3.cell? ⟨yb, 1, none⟩ = some (.slice ya xn yc) := by rw [hW3, hyb]; simp [go_sem]
  have Q0 := cell_later hbW (cell_later hb P0)
  have Q1 := cell_later hbW (cell_later hb P1)
  have hb3 : Below W2.heap.size W2 W3 := hb.trans (hbW.mono hb.size)
  have HY3 : Hid (kWords.is true W3 TJ [.int .i64 t, .slice ya xn yc] (t, es)) := Kd.below hw hbW
  have HW3 : Hid (kWords.is true W3 TI [.int .i64 t, .slice xa xn xc] (t, es)) := Kd.below HW2.out hb3
  have HT3 : Hid ((kRow kStr).is true W3 T0 [.slice ta tn tc] txs) := Kd.below HT2.out hb3
  have HB3 : Hid (Below w.heap.size w W3) := HB2.out.trans (hb3.mono HB2.out.size)
  clear hw hb hbW hb3 P0 P1 HT2 HB2 HW2 HX
  go_upto_region 6 with fail
  rw [← hW3, ← hyb]
  clear hW3 hyb
  cases ok
  · go_wp2_with fail
    refine (sameWords_k (t, es) [.int .i64 t, .slice xa xn xc] [.int .i64 t, .slice ya xn yc] TI TJ W3 (Kd.read _ HW3.out) (Kd.read _ HY3.out)).mono ?_
    rintro e w4 ⟨rfl, hb⟩
    have R0 := cell_later hb Q0
    have R1 := cell_later hb Q1
    have HW4 : Hid (kWords.is true w4 TI [.int .i64 t, .slice xa xn xc] (t, es)) := Kd.below HW3.out hb
    have HT4 : Hid ((kRow kStr).is true w4 T0 [.slice ta tn tc] txs) := Kd.below HT3.out hb
    have HB4 : Hid (Below w.heap.size w w4) := HB3.out.trans (hb.mono HB3.out.size)
    clear hb Q0 Q1 Y0 Y1 HW3 HT3 HB3 HY3
    go_wp2_with fail
    refine (drawWithAll_k w4 x1 a1 n1 c1 (Kd.below H1.out HB4.out) m1).mono ?_
    rintro e w5 ⟨wa, wn, wc, TW, t2, es2, sa, sn, sc, T2, ws, rfl, hw, hs, _, hN, _, hb⟩
    obtain ⟨W5, hW5⟩ : ∃ W5, W5 = w5.alloc (.cells #[.int .i64 t2, .slice wa wn wc] 27) := ⟨_, rfl⟩
    have hbW : Below w5.heap.size w5 W5 := by rw [hW5]; exact below_a1' _ _
    have hb5 : Below w4.heap.size w4 W5 := hb.trans (hbW.mono hb.size)
    obtain ⟨ub, hub⟩ : ∃ ub, ub = w5.heap.size := ⟨_, rfl⟩
    have S0 := cell_later hb5 R0
    have S1 := cell_later hb5 R1
    have HS5 : Hid ((kRow kStr).is true W5 T2 [.slice sa sn sc] ws) := Kd.below hs hbW
    have HSN : Hid (sn = ws.length) := row_len hs
    have HZS : Hid ((kRow kStr).sz ws ≤ 2 ^ 20) := Nat.le_trans (strs_sz hN) (by omega)
    have HWL : Hid (∀ s ∈ ws, s.size ≤ 6) := hN.2
    have sn4 : sn ≤ 4 := by rw [HSN.out]; exact hN.1
    have HW5 : Hid (kWords.is true W5 TI [.int .i64 t, .slice xa xn xc] (t, es)) := Kd.below HW4.out hb5
    have HT5 : Hid ((kRow kStr).is true W5 T0 [.slice ta tn tc] txs) := Kd.below HT4.out hb5
    have HB5 : Hid (Below w.heap.size w W5) := HB4.out.trans (hb5.mono HB4.out.size)
    clear hb hbW hb5 hw hs hN R0 R1 HW4 HT4 HB4
    go_upto_region 9 with fail
    rw [← hW5, ← hub]
    clear hW5 hub
    go_wp2_with fail
    refine (drawWithout_k W5 x1 a1 n1 c1 (Kd.below H1.out HB5.out) m1).mono ?_
    rintro e w20 ⟨za, zn, zc, TZ, t3, es3, ra, rn, rc, T3, ws3, rfl, hw, hs, hz, hN, _, hb⟩
    obtain ⟨W20, hW20⟩ : ∃ W20, W20 = w20.alloc (.cells #[.int .i64 t3, .slice za zn zc] 27) := ⟨_, rfl⟩
    have hbW : Below w20.heap.size w20 W20 := by rw [hW20]; exact below_a1' _ _
    obtain ⟨zb, hzb⟩ : ∃ zb, zb = w20.heap.size := ⟨_, rfl⟩
    have Z0 : W20.cell? ⟨zb, 0, none⟩ = some (.int .i64 t3) := by rw [hW20, hzb]; simp [go_sem]
    have Z1 : W20.cell? ⟨zb, 1, none⟩ = some (.slice za zn zc) := by rw [hW20, hzb]; simp [go_sem]
    have HK20 : Hid (kWords.is true W20 TZ [.int .i64 t3, .slice za zn zc] (t3, es3)) := Kd.below hw hbW
    have HR20 : Hid ((kRow kStr).is true W20 T3 [.slice ra rn rc] ws3) := Kd.below hs hbW
    have HZK : Hid (kWords.sz (t3, es3) ≤ 2 ^ 20) := hz
    have HZR : Hid ((kRow kStr).sz ws3 ≤ 2 ^ 20) := Nat.le_trans (strs_sz hN) (by omega)
    have HB20 : Hid (Below w.heap.size w W20) := HB5.out.trans ((hb.trans (hbW.mono hb.size)).mono HB5.out.size)
    obtain ⟨LD, hLD⟩ : ∃ LD, LD = (fWithout (t3, es3) ws3).1 := ⟨_, rfl⟩
    obtain ⟨f2, hf2⟩ : ∃ f2, f2 = (fWithout (t3, es3) ws3).2 := ⟨_, rfl⟩
    have HLD : Hid (LD = (fWithout (t3, es3) ws3).1 ∧ f2 = (fWithout (t3, es3) ws3).2) := ⟨hLD, hf2⟩
    clear hw hs hz hN hb hbW hLD hf2
    go_upto_region 50 with fail
    rw [← hW20, ← hzb]
    clear hW20 hzb
    go_wp2_with fail
    refine (implWithout_k (t3, es3) [.int .i64 t3, .slice za zn zc] TZ ws3 ra rn rc T3 W20 (Kd.read _ HK20.out) HZK.out (Kd.read _ HR20.out) HZR.out).mono ?_
    rintro e w21 ⟨da, dn, dc, TD, rfl, hd, _, _, hb⟩
    rw [← HLD.out.1] at hd
    rw [← HLD.out.2]
    have HDN : Hid (dn = LD.length) := row_len hd
    have Z210 := cell_later hb Z0
    have Z211 := cell_later hb Z1
    have HD21 : Hid ((kRow kInt).is true w21 TD [.slice da dn dc] LD) := hd
    have HB21 : Hid (Below W20.heap.size W20 w21) := hb
    clear hd hb Z0 Z1
    go_wp2_with fail
    refine (specWithout_k (t3, es3) [.int .i64 t3, .slice za zn zc] TZ ws3 ra rn rc T3 w21 (Kd.read _ (Kd.below HK20.out HB21.out)) HZK.out (Kd.read _ (Kd.below HR20.out HB21.out)) HZR.out).mono ?_
    rintro e w22 ⟨ea, en, ec, TE, rfl, hd, _, _, hb⟩
    rw [← HLD.out.1] at hd
    rw [← HLD.out.2]
    obtain rfl : en = dn := by rw [HDN.out]; exact row_len hd
    have Z220 := cell_later hb Z210
    have Z221 := cell_later hb Z211
    have HD22 : Hid ((kRow kInt).is true w22 TD [.slice da en dc] LD) := Kd.below HD21.out hb
    have HE22 : Hid ((kRow kInt).is true w22 TE [.slice ea en ec] LD) := hd
    have HB22 : Hid (Below W20.heap.size W20 w22) := HB21.out.trans (hb.mono HB21.out.size)
    have HBF : Hid (Below w.heap.size w w22) := HB20.out.trans (HB22.out.mono HB20.out.size)
    have HK22 : Hid (kWords.is true w22 TZ [.int .i64 t3, .slice za zn zc] (t3, es3)) := Kd.below HK20.out HB22.out
    obtain ⟨gw, hgw⟩ : ∃ gw, gw = fGoodWords (t3, es3) := ⟨_, rfl⟩
    have HSI : Hid (∀ w', Below w22.heap.size w22 w' → Calls Try.prog 21 #[.slice da en dc, .slice ea en ec] w' fun e w'' => e = .returned (.bool true) ∧ Below w'.heap.size w' w'') := fun w' hw' => sameInts_k LD da ea en dc ec TD TE w' (Kd.read _ (Kd.below HD22.out hw')) (Kd.read _ (Kd.below HE22.out hw'))
    have HG1 : Hid (∀ w', Below w22.heap.size w22 w' → Calls Try.prog 15 #[.agg #[.int .i64 t3, .slice za zn zc]] w' fun e w'' => e = .returned (.bool gw) ∧ Below w'.heap.size w' w'') := fun w' hw' => by rw [hgw]; exact implGoodWords_k (t3, es3) [.int .i64 t3, .slice za zn zc] TZ w' (Kd.read _ (Kd.below HK22.out hw')) HZK.out
    have HG2 : Hid (∀ w', Below w22.heap.size w22 w' → Calls Try.prog 22 #[.agg #[.int .i64 t3, .slice za zn zc]] w' fun e w'' => e = .returned (.bool gw) ∧ Below w'.heap.size w' w'') := fun w' hw' => by rw [hgw]; exact specGoodWords_k (t3, es3) [.int .i64 t3, .slice za zn zc] TZ w' (Kd.read _ (Kd.below HK22.out hw')) HZK.out
    clear hd hb Z210 Z211 hgw HLD
    have hne := belowOf_ne w22
    have V0 : ∀ q : BelowOf w22, q.v.cell? ⟨zb, 0, none⟩ = some (.int .i64 t3) := BelowOf.cell Z220
    have V1 : ∀ q : BelowOf w22, q.v.cell? ⟨zb, 1, none⟩ = some (.slice za zn zc) := BelowOf.cell Z221
    cases f2 <;> cases gw
    all_goals
      go_wp2_with fail
      refine region_below (by kernel_rfl) (by kernel_rfl) ?_
      repeat (go_big_quiet_step (first | (go_at_call 21; exact BelowOf.calls (HSI.out _ (BelowOf.h _))) | (go_at_call 15; exact BelowOf.calls (HG1.out _ (BelowOf.h _))) | (go_at_call 22; exact BelowOf.calls (HG2.out _ (BelowOf.h _)))))
      refine wpQuiet_nil (belowOf_all ?_)
      intro w23 hb23
      have HB23 : Hid (Below w.heap.size w w23) := HBF.out.trans (hb23.mono HBF.out.size)
      clear hb23 V0 V1 hne
      go_wp2
      go_ret
      exact ⟨rfl, HB23.out⟩
  · go_wp2_with fail
    refine (sameWords_k (t, es) [.int .i64 t, .slice xa xn xc] [.int .i64 t, .slice ya xn yc] TI TJ W3 (Kd.read _ HW3.out) (Kd.read _ HY3.out)).mono ?_
    rintro e w4 ⟨rfl, hb⟩
    have R0 := cell_later hb Q0
    have R1 := cell_later hb Q1
    have HW4 : Hid (kWords.is true w4 TI [.int .i64 t, .slice xa xn xc] (t, es)) := Kd.below HW3.out hb
    have HT4 : Hid ((kRow kStr).is true w4 T0 [.slice ta tn tc] txs) := Kd.below HT3.out hb
    have HB4 : Hid (Below w.heap.size w w4) := HB3.out.trans (hb.mono HB3.out.size)
    clear hb Q0 Q1 Y0 Y1 HW3 HT3 HB3 HY3
    go_wp2_with fail
    refine (drawWithAll_k w4 x1 a1 n1 c1 (Kd.below H1.out HB4.out) m1).mono ?_
    rintro e w5 ⟨wa, wn, wc, TW, t2, es2, sa, sn, sc, T2, ws, rfl, hw, hs, _, hN, _, hb⟩
    obtain ⟨W5, hW5⟩ : ∃ W5, W5 = w5.alloc (.cells #[.int .i64 t2, .slice wa wn wc] 27) := ⟨_, rfl⟩
    have hbW : Below w5.heap.size w5 W5 := by rw [hW5]; exact below_a1' _ _
    have hb5 : Below w4.heap.size w4 W5 := hb.trans (hbW.mono hb.size)
    obtain ⟨ub, hub⟩ : ∃ ub, ub = w5.heap.size := ⟨_, rfl⟩
    have S0 := cell_later hb5 R0
    have S1 := cell_later hb5 R1
    have HS5 : Hid ((kRow kStr).is true W5 T2 [.slice sa sn sc] ws) := Kd.below hs hbW
    have HSN : Hid (sn = ws.length) := row_len hs
    have HZS : Hid ((kRow kStr).sz ws ≤ 2 ^ 20) := Nat.le_trans (strs_sz hN) (by omega)
    have HWL : Hid (∀ s ∈ ws, s.size ≤ 6) := hN.2
    have sn4 : sn ≤ 4 := by rw [HSN.out]; exact hN.1
    have HW5 : Hid (kWords.is true W5 TI [.int .i64 t, .slice xa xn xc] (t, es)) := Kd.below HW4.out hb5
    have HT5 : Hid ((kRow kStr).is true W5 T0 [.slice ta tn tc] txs) := Kd.below HT4.out hb5
    have HB5 : Hid (Below w.heap.size w W5) := HB4.out.trans (hb5.mono HB4.out.size)
    clear hb hbW hb5 hw hs hN R0 R1 HW4 HT4 HB4
    go_upto_region 9 with fail
    rw [← hW5, ← hub]
    clear hW5 hub
    have HWO : Hid (WOk txs (t, es)) := HYES.out (by first | trivial | rfl)
    have HZX : Hid (kWords.sz (t, es) ≤ 2 ^ 20) := HWO.out.sz
    clear HYES
    obtain ⟨LA, hLA⟩ : ∃ LA, LA = (fWithAll (t, es) ws).1 := ⟨_, rfl⟩
    obtain ⟨LB, hLB⟩ : ∃ LB, LB = (fWithAny (t, es) ws).1 := ⟨_, rfl⟩
    obtain ⟨LC, hLC⟩ : ∃ LC, LC = (fWithout (t, es) ws).1 := ⟨_, rfl⟩
    obtain ⟨f, hf⟩ : ∃ f, f = (fWithAll (t, es) ws).2 := ⟨_, rfl⟩
    have HF : Hid ((LA = (fWithAll (t, es) ws).1 ∧ LB = (fWithAny (t, es) ws).1 ∧ LC = (fWithout (t, es) ws).1) ∧ f = (fWithAll (t, es) ws).2 ∧ f = (fWithAny (t, es) ws).2 ∧ f = (fWithout (t, es) ws).2) := ⟨⟨hLA, hLB, hLC⟩, hf, hf.trans (with_ok _ _ _ _), hf.trans (with_ok _ _ _ _)⟩
    clear hLA hLB hLC hf
    go_wp2_with fail
    refine (implWithAll_k (t, es) [.int .i64 t, .slice xa xn xc] TI ws sa sn sc T2 W5 (Kd.read _ HW5.out) HZX.out (Kd.read _ HS5.out) HZS.out).mono ?_
    rintro e w6 ⟨la, ln, lc, TA, rfl, hr, _, _, hb⟩
    rw [← HF.out.1.1] at hr
    rw [← HF.out.2.1]
    have C60 := cell_later hb S0
    have C61 := cell_later hb S1
    have HS6 : Hid ((kRow kStr).is true w6 T2 [.slice sa sn sc] ws) := Kd.below HS5.out hb
    have HW6 : Hid (kWords.is true w6 TI [.int .i64 t, .slice xa xn xc] (t, es)) := Kd.below HW5.out hb
    have HT6 : Hid ((kRow kStr).is true w6 T0 [.slice ta tn tc] txs) := Kd.below HT5.out hb
    have HA6 : Hid ((kRow kInt).is true w6 TA [.slice la ln lc] LA) := hr
    have HB6 : Hid (Below w.heap.size w w6) := HB5.out.trans (hb.mono HB5.out.size)
    clear hb S0 S1 HS5 HW5 HT5 HB5 hr
    go_wp2_with fail
    refine (implWithAny_k (t, es) [.int .i64 t, .slice xa xn xc] TI ws sa sn sc T2 w6 (Kd.read _ HW6.out) HZX.out (Kd.read _ HS6.out) HZS.out).mono ?_
    rintro e w7 ⟨ba, bn, bc, TB, rfl, hr, _, _, hb⟩
    rw [← HF.out.1.2.1] at hr
    rw [← HF.out.2.2.1]
    have C70 := cell_later hb C60
    have C71 := cell_later hb C61
    have HS7 : Hid ((kRow kStr).is true w7 T2 [.slice sa sn sc] ws) := Kd.below HS6.out hb
    have HW7 : Hid (kWords.is true w7 TI [.int .i64 t, .slice xa xn xc] (t, es)) := Kd.below HW6.out hb
    have HT7 : Hid ((kRow kStr).is true w7 T0 [.slice ta tn tc] txs) := Kd.below HT6.out hb
    have HA7 : Hid ((kRow kInt).is true w7 TA [.slice la ln lc] LA) := Kd.below HA6.out hb
    have HM7 : Hid ((kRow kInt).is true w7 TB [.slice ba bn bc] LB) := hr
    have HB7 : Hid (Below w.heap.size w w7) := HB6.out.trans (hb.mono HB6.out.size)
    clear hb C60 C61 HS6 HW6 HT6 HA6 HB6 hr
    go_wp2_with fail
    refine (implWithout_k (t, es) [.int .i64 t, .slice xa xn xc] TI ws sa sn sc T2 w7 (Kd.read _ HW7.out) HZX.out (Kd.read _ HS7.out) HZS.out).mono ?_
    rintro e w8 ⟨oa, on, oc, TO, rfl, hr, _, _, hb⟩
    rw [← HF.out.1.2.2] at hr
    rw [← HF.out.2.2.2]
    have C80 := cell_later hb C70
    have C81 := cell_later hb C71
    have HS8 : Hid ((kRow kStr).is true w8 T2 [.slice sa sn sc] ws) := Kd.below HS7.out hb
    have HW8 : Hid (kWords.is true w8 TI [.int .i64 t, .slice xa xn xc] (t, es)) := Kd.below HW7.out hb
    have HT8 : Hid ((kRow kStr).is true w8 T0 [.slice ta tn tc] txs) := Kd.below HT7.out hb
    have HA8 : Hid ((kRow kInt).is true w8 TA [.slice la ln lc] LA) := Kd.below HA7.out hb
    have HM8 : Hid ((kRow kInt).is true w8 TB [.slice ba bn bc] LB) := Kd.below HM7.out hb
    have HO8 : Hid ((kRow kInt).is true w8 TO [.slice oa on oc] LC) := hr
    have HB8 : Hid (Below w.heap.size w w8) := HB7.out.trans (hb.mono HB7.out.size)
    clear hb C70 C71 HS7 HW7 HT7 HA7 HM7 HB7 hr
    go_wp2_with fail
    refine (specWithAll_k (t, es) [.int .i64 t, .slice xa xn xc] TI ws sa sn sc T2 w8 (Kd.read _ HW8.out) HZX.out (Kd.read _ HS8.out) HZS.out).mono ?_
    rintro e w9 ⟨ga, gn, gc, TG, rfl, hr, _, _, hb⟩
    rw [← HF.out.2.1]
    have C90 := cell_later hb C80
    have C91 := cell_later hb C81
    have HS9 : Hid ((kRow kStr).is true w9 T2 [.slice sa sn sc] ws) := Kd.below HS8.out hb
    have HW9 : Hid (kWords.is true w9 TI [.int .i64 t, .slice xa xn xc] (t, es)) := Kd.below HW8.out hb
    have HT9 : Hid ((kRow kStr).is true w9 T0 [.slice ta tn tc] txs) := Kd.below HT8.out hb
    have HA9 : Hid ((kRow kInt).is true w9 TA [.slice la ln lc] LA) := Kd.below HA8.out hb
    have HM9 : Hid ((kRow kInt).is true w9 TB [.slice ba bn bc] LB) := Kd.below HM8.out hb
    have HO9 : Hid ((kRow kInt).is true w9 TO [.slice oa on oc] LC) := Kd.below HO8.out hb
    have HB9 : Hid (Below w.heap.size w w9) := HB8.out.trans (hb.mono HB8.out.size)
    clear hb C80 C81 HS8 HW8 HT8 HA8 HM8 HO8 HB8 hr
    have HFA : Hid (∀ (i : Nat) (s : ByteArray), txs[i]? = some s → f = true → decide ((i : Int) ∈ LA) = decide ((haveN ws s : Int) = (ws.length : Int)) ∧ decide ((i : Int) ∈ LB) = decide ((0 : Int) < (haveN ws s : Int)) ∧ decide ((i : Int) ∈ LC) = decide ((haveN ws s : Int) = 0)) := fun i s hs h => by
      rw [HF.out.1.1, HF.out.1.2.1, HF.out.1.2.2]
      exact ⟨HWO.out.all hs (HF.out.2.1.symm.trans h), HWO.out.any hs (HF.out.2.2.1.symm.trans h), HWO.out.out hs (HF.out.2.2.2.symm.trans h)⟩
    clear HF
    have hff : (f != f) = false := by cases f <;> rfl
    go_wp2_with fail
    refine (implGoodWords_k (t, es) [.int .i64 t, .slice xa xn xc] TI w9 (Kd.read _ HW9.out) HZX.out).mono ?_
    rintro e w10 ⟨rfl, hb⟩
    rw [HWO.out.good]
    have C100 := cell_later hb C90
    have C101 := cell_later hb C91
    have HS10 : Hid ((kRow kStr).is true w10 T2 [.slice sa sn sc] ws) := Kd.below HS9.out hb
    have HW10 : Hid (kWords.is true w10 TI [.int .i64 t, .slice xa xn xc] (t, es)) := Kd.below HW9.out hb
    have HT10 : Hid ((kRow kStr).is true w10 T0 [.slice ta tn tc] txs) := Kd.below HT9.out hb
    have HA10 : Hid ((kRow kInt).is true w10 TA [.slice la ln lc] LA) := Kd.below HA9.out hb
    have HM10 : Hid ((kRow kInt).is true w10 TB [.slice ba bn bc] LB) := Kd.below HM9.out hb
    have HO10 : Hid ((kRow kInt).is true w10 TO [.slice oa on oc] LC) := Kd.below HO9.out hb
    have HB10 : Hid (Below w.heap.size w w10) := HB9.out.trans (hb.mono HB9.out.size)
    clear hb C90 C91 HS9 HW9 HT9 HA9 HM9 HO9 HB9
    clear hff
    go_wp2_with fail
    go_loopw [118] (fun iv wr => ∃ (i : Nat), i ≤ tn ∧ iv = .int .i64 i ∧ Below w10.heap.size w10 wr) (fun iv _ => tn - (intOf iv).toNat)
    case atStart => exact ⟨0, Nat.zero_le _, rfl, Below.refl _ _⟩
    case round =>
      obtain ⟨i, hi, rfl, hnx⟩ := hrel
      by_cases hlt : i < tn
      · obtain ⟨s, hx⟩ : ∃ s, txs[i]? = some s := ⟨_, List.getElem?_eq_getElem (by rw [← HTN.out]; exact hlt)⟩
        obtain ⟨b, off, B, C, rfl, hb, _, hi', _, hc⟩ := row_at (Kd.below HT10.out hnx) hx
        obtain ⟨rfl, _⟩ := hi'
        have A0 : wr.cell? ⟨b, off + i, none⟩ = some (.string s) := by have := (hc 0 _ rfl).1; simpa [kStr] using this
        have i0 : (0 : Int) ≤ (i : Int) := by omega
        have i1 : (i : Int) < (tn : Int) := by omega
        have s200 : s.size ≤ 200 := HWO.out.small s (List.mem_of_getElem? hx)
        have HXI : Hid (txs[i]? = some s) := hx
        have HWI : Hid (fWordsIn s = (wordsB s, true)) := by show _ = _; unfold fWordsIn; rw [if_pos s200]
        have HBR : Hid (Below w10.heap.size w10 wr) := hnx
        clear hc hx hnx
        go_wp2_with fail
        refine (implWordsIn_k s wr (by omega)).mono ?_
        rintro e w11 ⟨va, vn, vc, TV, rfl, hv, _, _, hb11⟩
        rw [HWI.out] at hv ⊢
        obtain ⟨WB, hWB⟩ : ∃ WB, WB = wordsB s := ⟨_, rfl⟩
        have HWB : Hid (WB = wordsB s) := hWB
        have HV11 : Hid ((kRow kStr).is true w11 TV [.slice va vn vc] WB) := by show Kd.is _ _ _ _ _ _; rw [hWB]; exact hv
        have HVN : Hid (vn = WB.length) := row_len HV11.out
        have vmx : vn ≤ 9223372036854775807 := by obtain ⟨_, _, _, h, _⟩ := row_form HV11.out; rw [HVN.out]; exact h
        have HB11 : Hid (Below w10.heap.size w10 w11) := HBR.out.trans (hb11.mono HBR.out.size)
        clear hv hb11 hWB HWI A0 hb HBR
        go_wp2_with fail
        go_loopw [24, 132] (fun hv jv wr => ∃ (j h : Nat), j ≤ sn ∧ h ≤ j ∧ jv = .int .i64 j ∧ hv = .int .i64 h ∧ Hid (h = haveN (ws.take j) s) ∧ Below w11.heap.size w11 wr) (fun _ jv _ => sn - (intOf jv).toNat)
        case atStart => exact ⟨0, 0, Nat.zero_le _, Nat.le_refl _, rfl, rfl, (by show _ = _; simp [haveN]), Below.refl _ _⟩
        case round =>
          obtain ⟨j, h, hj, hh, rfl, rfl, HH, hnx⟩ := hrel
          by_cases hjl : j < sn
          · obtain ⟨x, hx⟩ : ∃ x, ws[j]? = some x := ⟨_, List.getElem?_eq_getElem (by rw [← HSN.out]; exact hjl)⟩
            obtain ⟨w12, hw12⟩ : ∃ w12, w12 = wr := ⟨_, rfl⟩
            subst hw12
            have HB12 : Hid (Below w10.heap.size w10 w12) := HB11.out.trans (hnx.mono HB11.out.size)
            obtain ⟨b2, off2, B2, D2, rfl, hb2, _, hi', _, hc⟩ := row_at (Kd.below HS10.out HB12.out) hx
            obtain ⟨rfl, _⟩ := hi'
            have A2 : w12.cell? ⟨b2, off2 + j, none⟩ = some (.string x) := by have := (hc 0 _ rfl).1; simpa [kStr] using this
            have j0 : (0 : Int) ≤ (j : Int) := by omega
            have j1 : (j : Int) < (sn : Int) := by omega
            have x6 : x.size ≤ 6 := HWL.out x (List.mem_of_getElem? hx)
            have HHN : Hid (haveN (ws.take (j + 1)) s = haveN (ws.take j) s + (if 0 < cntB x WB then 1 else 0)) := by show _ = _; rw [HWB.out]; exact have_next hx s
            have HV12 : Hid ((kRow kStr).is true w12 TV [.slice va vn vc] WB) := Kd.below HV11.out hnx
            have HBX : Hid (Below w11.heap.size w11 w12) := hnx
            clear hc hx hnx
            go_wp2_with fail
            clear A2
            go_loopw [27, 138] (fun cv kv wr => ∃ (k c : Nat), k ≤ vn ∧ c ≤ k ∧ kv = .int .i64 k ∧ cv = .int .i64 c ∧ Hid (c = cntB x (WB.take k)) ∧ Below w12.heap.size w12 wr) (fun _ kv _ => vn - (intOf kv).toNat)
            case atStart => exact ⟨0, 0, Nat.zero_le _, Nat.le_refl _, rfl, rfl, (by show _ = _; simp [cntB]), Below.refl _ _⟩
            case round =>
              obtain ⟨k, c, hk, hck, rfl, rfl, HC, hnx⟩ := hrel
              by_cases hkl : k < vn
              · obtain ⟨o, hx⟩ : ∃ o, WB[k]? = some o := ⟨_, List.getElem?_eq_getElem (by rw [← HVN.out]; exact hkl)⟩
                obtain ⟨b3, off3, B3, D3, rfl, hb3, _, hi', _, hc⟩ := row_at (Kd.below HV12.out hnx) hx
                obtain ⟨rfl, _⟩ := hi'
                have A3 : wr.cell? ⟨b3, off3 + k, none⟩ = some (.string o) := by have := (hc 0 _ rfl).1; simpa [kStr] using this
                have k0 : (0 : Int) ≤ (k : Int) := by omega
                have k1 : (k : Int) < (vn : Int) := by omega
                have HCN : Hid (cntB x (WB.take (k + 1)) = cntB x (WB.take k) + (if o = x then 1 else 0)) := cnt_next hx x
                have HBR : Hid (Below w12.heap.size w12 wr) := hnx
                clear hc hx hnx
                by_cases hox : o = x
                · have HC2 : Hid (c + 1 = cntB x (WB.take (k + 1))) := by show _ = _; rw [HCN.out, if_pos hox, ← HC.out]
                  have t0 : (o.toList == x.toList) = true := by rw [hox]; simp
                  clear hox HCN
                  go_wp2
                  go_roundw
                  case rel => exact ⟨k + 1, c + 1, by omega, by omega, by go_num, by go_num, HC2, HBR.out⟩
                  case measure => simp [intOf]; omega
                · have HC2 : Hid (c = cntB x (WB.take (k + 1))) := by show _ = _; rw [HCN.out, if_neg hox, ← HC.out]; rfl
                  have t0 : (o.toList == x.toList) = false := str_ne hox
                  clear hox HCN
                  go_wp2
                  go_roundw
                  case rel => exact ⟨k + 1, c, by omega, by omega, by go_num, rfl, HC2, HBR.out⟩
                  case measure => simp [intOf]; omega
              · have k1 : ¬ (k : Int) < (vn : Int) := by omega
                have HCC : Hid (c = cntB x WB) := by have h := HC.out; rw [List.take_of_length_le (by rw [← HVN.out]; omega)] at h; exact h
                obtain ⟨w13, hw13⟩ : ∃ w13, w13 = wr := ⟨_, rfl⟩
                subst hw13
                have HB13 : Hid (Below w10.heap.size w10 w13) := HB12.out.trans (hnx.mono HB12.out.size)
                have HBX13 : Hid (Below w11.heap.size w11 w13) := HBX.out.trans (hnx.mono HBX.out.size)
                have E0 := cell_later HB13.out C100
                have E1 := cell_later HB13.out C101
                obtain ⟨PL, hPL⟩ : ∃ PL, PL = (fPostingsOf (t, es) x).1 := ⟨_, rfl⟩
                obtain ⟨g, hg⟩ : ∃ g, g = (fPostingsOf (t, es) x).2 := ⟨_, rfl⟩
                have HPL : Hid (PL = (fPostingsOf (t, es) x).1 ∧ g = (fPostingsOf (t, es) x).2) := ⟨hPL, hg⟩
                have HTG : Hid (g = true → timesF PL i = (c : Int)) := fun h => by rw [hPL, HCC.out, HWB.out]; exact HWO.out.post HXI.out (by rw [← hg]; exact h)
                clear hnx hPL hg HC hck
                by_cases hcp : (0 : Int) < (c : Int)
                · have HH2 : Hid (h + 1 = haveN (ws.take (j + 1)) s) := by show _ = _; rw [HHN.out, ← HCC.out, if_pos (by omega), ← HH.out]
                  clear HHN HCC
                  go_wp2_with fail
                  refine (implPostingsOf_k (t, es) [.int .i64 t, .slice xa xn xc] TI x w13 (Kd.read _ (Kd.below HW10.out HB13.out)) HZX.out (by omega)).mono ?_
                  rintro e w14 ⟨pa, pn, pc, TP, rfl, hp, _, _, hb⟩
                  rw [← HPL.out.1] at hp
                  rw [← HPL.out.2]
                  have HP14 : Hid ((kRow kPosting).is true w14 TP [.slice pa pn pc] PL) := hp
                  have HPN : Hid (pn = PL.length) := row_len hp
                  have pmx : pn ≤ 9223372036854775807 := by obtain ⟨_, _, _, h, _⟩ := row_form hp; rw [HPN.out]; exact h
                  have HBX14 : Hid (Below w11.heap.size w11 w14) := HBX13.out.trans (hb.mono HBX13.out.size)
                  clear hp hb E0 E1
                  go_wp2_with fail
                  go_loopw [32, 160] (fun tv mv wr => ∃ (m : Nat), m ≤ pn ∧ mv = .int .i64 m ∧ tv = .int .i64 (timesF (PL.take m) i) ∧ Below w14.heap.size w14 wr) (fun _ mv _ => pn - (intOf mv).toNat)
                  case atStart => exact ⟨0, Nat.zero_le _, rfl, (by simp [timesF]), Below.refl _ _⟩
                  case round =>
                    obtain ⟨m, hm, rfl, rfl, hnx⟩ := hrel
                    by_cases hml : m < pn
                    · obtain ⟨⟨p0, p1⟩, hx⟩ : ∃ p, PL[m]? = some p := ⟨_, List.getElem?_eq_getElem (by rw [← HPN.out]; exact hml)⟩
                      obtain ⟨b4, off4, B4, D4, rfl, hb4, _, hi', _, hc⟩ := row_at (Kd.below HP14.out hnx) hx
                      obtain ⟨rfl, _, _⟩ := kPosting_open hi'
                      have A4 : wr.cell? ⟨b4, off4 + m * 2, none⟩ = some (.int .i64 p0) := (hc 0 _ rfl).1
                      have A5 : wr.cell? ⟨b4, off4 + m * 2 + 1, none⟩ = some (.int .i64 p1) := (hc 1 _ rfl).1
                      have mm0 : (0 : Int) ≤ (m : Int) := by omega
                      have mm1 : (m : Int) < (pn : Int) := by omega
                      have HTN2 : Hid (timesF (PL.take (m + 1)) i = if p0 = (i : Int) then p1 else timesF (PL.take m) i) := times_next hx i
                      have HBR : Hid (Below w14.heap.size w14 wr) := hnx
                      obtain ⟨tv, htv⟩ : ∃ tv, tv = timesF (PL.take m) i := ⟨_, rfl⟩
                      rw [← htv] at HTN2 ⊢
                      clear hc hi' hx hnx htv
                      by_cases hpi : p0 = (i : Int)
                      · have HT3 : Hid (timesF (PL.take (m + 1)) i = p1) := by show _ = _; rw [HTN2.out, if_pos hpi]
                        subst hpi
                        go_wp2
                        go_roundw
                        case rel => exact ⟨m + 1, by omega, by go_num, by rw [HT3.out], HBR.out.trans ((below_a1r _ _).mono HBR.out.size)⟩
                        case measure => simp [intOf]; omega
                      · have HT3 : Hid (timesF (PL.take (m + 1)) i = tv) := by show _ = _; rw [HTN2.out, if_neg hpi]
                        have hpi2 : (p0 == (i : Int)) = false := by simpa using hpi
                        go_wp2
                        go_roundw
                        case rel => exact ⟨m + 1, by omega, by go_num, by rw [HT3.out], HBR.out.trans ((below_a1r _ _).mono HBR.out.size)⟩
                        case measure => simp [intOf]; omega
                    · have mm1 : ¬ (m : Int) < (pn : Int) := by omega
                      have hall : PL.take m = PL := List.take_of_length_le (by rw [← HPN.out]; omega)
                      rw [hall]
                      have HBF : Hid (Below w11.heap.size w11 wr) := HBX14.out.trans (hnx.mono HBX14.out.size)
                      clear hnx hall
                      cases g
                      · generalize timesF PL i = tf
                        go_wp2
                        go_roundw
                        case rel => exact ⟨j + 1, h + 1, by omega, by omega, by go_num, by first | rfl | go_num, HH2, HBF.out⟩
                        case measure => simp [intOf]; omega
                      · have htc := HTG.out rfl
                        rw [htc]
                        clear htc
                        go_wp2
                        go_roundw
                        case rel => exact ⟨j + 1, h + 1, by omega, by omega, by go_num, by first | rfl | go_num, HH2, HBF.out⟩
                        case measure => simp [intOf]; omega
                · have HH2 : Hid (h = haveN (ws.take (j + 1)) s) := by show _ = _; rw [HHN.out, ← HCC.out, if_neg (by omega), ← HH.out]; rfl
                  clear HHN HCC
                  go_wp2_with fail
                  refine (implPostingsOf_k (t, es) [.int .i64 t, .slice xa xn xc] TI x w13 (Kd.read _ (Kd.below HW10.out HB13.out)) HZX.out (by omega)).mono ?_
                  rintro e w14 ⟨pa, pn, pc, TP, rfl, hp, _, _, hb⟩
                  rw [← HPL.out.1] at hp
                  rw [← HPL.out.2]
                  have HP14 : Hid ((kRow kPosting).is true w14 TP [.slice pa pn pc] PL) := hp
                  have HPN : Hid (pn = PL.length) := row_len hp
                  have pmx : pn ≤ 9223372036854775807 := by obtain ⟨_, _, _, h, _⟩ := row_form hp; rw [HPN.out]; exact h
                  have HBX14 : Hid (Below w11.heap.size w11 w14) := HBX13.out.trans (hb.mono HBX13.out.size)
                  clear hp hb E0 E1
                  go_wp2_with fail
                  go_loopw [32, 160] (fun tv mv wr => ∃ (m : Nat), m ≤ pn ∧ mv = .int .i64 m ∧ tv = .int .i64 (timesF (PL.take m) i) ∧ Below w14.heap.size w14 wr) (fun _ mv _ => pn - (intOf mv).toNat)
                  case atStart => exact ⟨0, Nat.zero_le _, rfl, (by simp [timesF]), Below.refl _ _⟩
                  case round =>
                    obtain ⟨m, hm, rfl, rfl, hnx⟩ := hrel
                    by_cases hml : m < pn
                    · obtain ⟨⟨p0, p1⟩, hx⟩ : ∃ p, PL[m]? = some p := ⟨_, List.getElem?_eq_getElem (by rw [← HPN.out]; exact hml)⟩
                      obtain ⟨b4, off4, B4, D4, rfl, hb4, _, hi', _, hc⟩ := row_at (Kd.below HP14.out hnx) hx
                      obtain ⟨rfl, _, _⟩ := kPosting_open hi'
                      have A4 : wr.cell? ⟨b4, off4 + m * 2, none⟩ = some (.int .i64 p0) := (hc 0 _ rfl).1
                      have A5 : wr.cell? ⟨b4, off4 + m * 2 + 1, none⟩ = some (.int .i64 p1) := (hc 1 _ rfl).1
                      have mm0 : (0 : Int) ≤ (m : Int) := by omega
                      have mm1 : (m : Int) < (pn : Int) := by omega
                      have HTN2 : Hid (timesF (PL.take (m + 1)) i = if p0 = (i : Int) then p1 else timesF (PL.take m) i) := times_next hx i
                      have HBR : Hid (Below w14.heap.size w14 wr) := hnx
                      obtain ⟨tv, htv⟩ : ∃ tv, tv = timesF (PL.take m) i := ⟨_, rfl⟩
                      rw [← htv] at HTN2 ⊢
                      clear hc hi' hx hnx htv
                      by_cases hpi : p0 = (i : Int)
                      · have HT3 : Hid (timesF (PL.take (m + 1)) i = p1) := by show _ = _; rw [HTN2.out, if_pos hpi]
                        subst hpi
                        go_wp2
                        go_roundw
                        case rel => exact ⟨m + 1, by omega, by go_num, by rw [HT3.out], HBR.out.trans ((below_a1r _ _).mono HBR.out.size)⟩
                        case measure => simp [intOf]; omega
                      · have HT3 : Hid (timesF (PL.take (m + 1)) i = tv) := by show _ = _; rw [HTN2.out, if_neg hpi]
                        have hpi2 : (p0 == (i : Int)) = false := by simpa using hpi
                        go_wp2
                        go_roundw
                        case rel => exact ⟨m + 1, by omega, by go_num, by rw [HT3.out], HBR.out.trans ((below_a1r _ _).mono HBR.out.size)⟩
                        case measure => simp [intOf]; omega
                    · have mm1 : ¬ (m : Int) < (pn : Int) := by omega
                      have hall : PL.take m = PL := List.take_of_length_le (by rw [← HPN.out]; omega)
                      rw [hall]
                      have HBF : Hid (Below w11.heap.size w11 wr) := HBX14.out.trans (hnx.mono HBX14.out.size)
                      clear hnx hall
                      cases g
                      · generalize timesF PL i = tf
                        go_wp2
                        go_roundw
                        case rel => exact ⟨j + 1, h, by omega, by omega, by go_num, by first | rfl | go_num, HH2, HBF.out⟩
                        case measure => simp [intOf]; omega
                      · have htc := HTG.out rfl
                        rw [htc]
                        clear htc
                        go_wp2
                        go_roundw
                        case rel => exact ⟨j + 1, h, by omega, by omega, by go_num, by first | rfl | go_num, HH2, HBF.out⟩
                        case measure => simp [intOf]; omega
          · have j1 : ¬ (j : Int) < (sn : Int) := by omega
            have HHA : Hid (h = haveN ws s) := by have h' := HH.out; rw [List.take_of_length_le (by rw [← HSN.out]; omega)] at h'; exact h'
            obtain ⟨w15, hw15⟩ : ∃ w15, w15 = wr := ⟨_, rfl⟩
            subst hw15
            have HB15 : Hid (Below w10.heap.size w10 w15) := HB11.out.trans (hnx.mono HB11.out.size)
            clear hnx HH
            have h4 : h ≤ 4 := by omega
            cases f
            · go_wp2
              go_roundw
              case rel => exact ⟨i + 1, by omega, by go_num, HB15.out⟩
              case measure => simp [intOf]; omega
            have hfa := HFA.out i s HXI.out rfl
            rw [← HHA.out, ← HSN.out] at hfa
            have HK1 : Hid (decide ((i : Int) ∈ LA) = decide ((h : Int) = (sn : Int))) := hfa.1
            have HK2 : Hid (decide ((i : Int) ∈ LB) = decide ((0 : Int) < (h : Int))) := hfa.2.1
            have HK3 : Hid (decide ((i : Int) ∈ LC) = decide ((h : Int) = 0)) := hfa.2.2
            clear hfa
            by_cases e0 : h = 0
            · subst e0
              by_cases e1 : sn = 0
              · subst e1
                skip
                have K1 : Hid (decide ((i : Int) ∈ LA) = true) := by show _ = _; rw [HK1.out]; simp <;> omega
                have K2 : Hid (decide ((i : Int) ∈ LB) = false) := by show _ = _; rw [HK2.out]; simp <;> omega
                have K3 : Hid (decide ((i : Int) ∈ LC) = true) := by show _ = _; rw [HK3.out]; simp <;> omega
                go_wp2_with fail
                refine (has_k LA la ln lc TA i w15 (Kd.read _ (Kd.below HA10.out HB15.out))).mono ?_
                rintro e w16 ⟨rfl, hb⟩
                rw [K1.out]
                have HB16 : Hid (Below w10.heap.size w10 w16) := HB15.out.trans (hb.mono HB15.out.size)
                clear hb
                go_wp2_with fail
                refine (has_k LB ba bn bc TB i w16 (Kd.read _ (Kd.below HM10.out HB16.out))).mono ?_
                rintro e w17 ⟨rfl, hb⟩
                rw [K2.out]
                have HB17 : Hid (Below w10.heap.size w10 w17) := HB16.out.trans (hb.mono HB16.out.size)
                clear hb
                go_wp2_with fail
                refine (has_k LC oa on oc TO i w17 (Kd.read _ (Kd.below HO10.out HB17.out))).mono ?_
                rintro e w18 ⟨rfl, hb⟩
                rw [K3.out]
                have HB18 : Hid (Below w10.heap.size w10 w18) := HB17.out.trans (hb.mono HB17.out.size)
                clear hb
                go_wp2
                go_roundw
                case rel => exact ⟨i + 1, by omega, by go_num, HB18.out⟩
                case measure => simp [intOf]; omega
              · skip
                have e2 : ¬ (0 : Int) = (sn : Int) := by omega
                have e3 : ((0 : Int) == (sn : Int)) = false := by simpa using e2
                have K1 : Hid (decide ((i : Int) ∈ LA) = false) := by show _ = _; rw [HK1.out]; simp <;> omega
                have K2 : Hid (decide ((i : Int) ∈ LB) = false) := by show _ = _; rw [HK2.out]; simp <;> omega
                have K3 : Hid (decide ((i : Int) ∈ LC) = true) := by show _ = _; rw [HK3.out]; simp <;> omega
                go_wp2_with fail
                refine (has_k LA la ln lc TA i w15 (Kd.read _ (Kd.below HA10.out HB15.out))).mono ?_
                rintro e w16 ⟨rfl, hb⟩
                rw [K1.out]
                have HB16 : Hid (Below w10.heap.size w10 w16) := HB15.out.trans (hb.mono HB15.out.size)
                clear hb
                go_wp2_with fail
                refine (has_k LB ba bn bc TB i w16 (Kd.read _ (Kd.below HM10.out HB16.out))).mono ?_
                rintro e w17 ⟨rfl, hb⟩
                rw [K2.out]
                have HB17 : Hid (Below w10.heap.size w10 w17) := HB16.out.trans (hb.mono HB16.out.size)
                clear hb
                go_wp2_with fail
                refine (has_k LC oa on oc TO i w17 (Kd.read _ (Kd.below HO10.out HB17.out))).mono ?_
                rintro e w18 ⟨rfl, hb⟩
                rw [K3.out]
                have HB18 : Hid (Below w10.heap.size w10 w18) := HB17.out.trans (hb.mono HB17.out.size)
                clear hb
                go_wp2
                go_roundw
                case rel => exact ⟨i + 1, by omega, by go_num, HB18.out⟩
                case measure => simp [intOf]; omega
            · have e2 : (0 : Int) < (h : Int) := by omega
              have e3 : ((h : Int) == (0 : Int)) = false := by simp; omega
              by_cases e1 : h = sn
              · subst e1
                skip
                have K1 : Hid (decide ((i : Int) ∈ LA) = true) := by show _ = _; rw [HK1.out]; simp <;> omega
                have K2 : Hid (decide ((i : Int) ∈ LB) = true) := by show _ = _; rw [HK2.out]; simp <;> omega
                have K3 : Hid (decide ((i : Int) ∈ LC) = false) := by show _ = _; rw [HK3.out]; simp <;> omega
                go_wp2_with fail
                refine (has_k LA la ln lc TA i w15 (Kd.read _ (Kd.below HA10.out HB15.out))).mono ?_
                rintro e w16 ⟨rfl, hb⟩
                rw [K1.out]
                have HB16 : Hid (Below w10.heap.size w10 w16) := HB15.out.trans (hb.mono HB15.out.size)
                clear hb
                go_wp2_with fail
                refine (has_k LB ba bn bc TB i w16 (Kd.read _ (Kd.below HM10.out HB16.out))).mono ?_
                rintro e w17 ⟨rfl, hb⟩
                rw [K2.out]
                have HB17 : Hid (Below w10.heap.size w10 w17) := HB16.out.trans (hb.mono HB16.out.size)
                clear hb
                go_wp2_with fail
                refine (has_k LC oa on oc TO i w17 (Kd.read _ (Kd.below HO10.out HB17.out))).mono ?_
                rintro e w18 ⟨rfl, hb⟩
                rw [K3.out]
                have HB18 : Hid (Below w10.heap.size w10 w18) := HB17.out.trans (hb.mono HB17.out.size)
                clear hb
                go_wp2
                go_roundw
                case rel => exact ⟨i + 1, by omega, by go_num, HB18.out⟩
                case measure => simp [intOf]; omega
              · skip
                have e4 : ¬ (h : Int) = (sn : Int) := by omega
                have e5 : ((h : Int) == (sn : Int)) = false := by simpa using e4
                have K1 : Hid (decide ((i : Int) ∈ LA) = false) := by show _ = _; rw [HK1.out]; simp <;> omega
                have K2 : Hid (decide ((i : Int) ∈ LB) = true) := by show _ = _; rw [HK2.out]; simp <;> omega
                have K3 : Hid (decide ((i : Int) ∈ LC) = false) := by show _ = _; rw [HK3.out]; simp <;> omega
                go_wp2_with fail
                refine (has_k LA la ln lc TA i w15 (Kd.read _ (Kd.below HA10.out HB15.out))).mono ?_
                rintro e w16 ⟨rfl, hb⟩
                rw [K1.out]
                have HB16 : Hid (Below w10.heap.size w10 w16) := HB15.out.trans (hb.mono HB15.out.size)
                clear hb
                go_wp2_with fail
                refine (has_k LB ba bn bc TB i w16 (Kd.read _ (Kd.below HM10.out HB16.out))).mono ?_
                rintro e w17 ⟨rfl, hb⟩
                rw [K2.out]
                have HB17 : Hid (Below w10.heap.size w10 w17) := HB16.out.trans (hb.mono HB16.out.size)
                clear hb
                go_wp2_with fail
                refine (has_k LC oa on oc TO i w17 (Kd.read _ (Kd.below HO10.out HB17.out))).mono ?_
                rintro e w18 ⟨rfl, hb⟩
                rw [K3.out]
                have HB18 : Hid (Below w10.heap.size w10 w18) := HB17.out.trans (hb.mono HB17.out.size)
                clear hb
                go_wp2
                go_roundw
                case rel => exact ⟨i + 1, by omega, by go_num, HB18.out⟩
                case measure => simp [intOf]; omega
      · have i1 : ¬ (i : Int) < (tn : Int) := by omega
        obtain ⟨w19, hw19⟩ : ∃ w19, w19 = wr := ⟨_, rfl⟩
        subst hw19
        have HB19 : Hid (Below w.heap.size w w19) := HB10.out.trans (hnx.mono HB10.out.size)
        clear hnx
        go_wp2_with fail
        refine (drawWithout_k w19 x1 a1 n1 c1 (Kd.below H1.out HB19.out) m1).mono ?_
        rintro e w20 ⟨za, zn, zc, TZ, t3, es3, ra, rn, rc, T3, ws3, rfl, hw, hs, hz, hN, _, hb⟩
        obtain ⟨W20, hW20⟩ : ∃ W20, W20 = w20.alloc (.cells #[.int .i64 t3, .slice za zn zc] 27) := ⟨_, rfl⟩
        have hbW : Below w20.heap.size w20 W20 := by rw [hW20]; exact below_a1' _ _
        obtain ⟨zb, hzb⟩ : ∃ zb, zb = w20.heap.size := ⟨_, rfl⟩
        have Z0 : W20.cell? ⟨zb, 0, none⟩ = some (.int .i64 t3) := by rw [hW20, hzb]; simp [go_sem]
        have Z1 : W20.cell? ⟨zb, 1, none⟩ = some (.slice za zn zc) := by rw [hW20, hzb]; simp [go_sem]
        have HK20 : Hid (kWords.is true W20 TZ [.int .i64 t3, .slice za zn zc] (t3, es3)) := Kd.below hw hbW
        have HR20 : Hid ((kRow kStr).is true W20 T3 [.slice ra rn rc] ws3) := Kd.below hs hbW
        have HZK : Hid (kWords.sz (t3, es3) ≤ 2 ^ 20) := hz
        have HZR : Hid ((kRow kStr).sz ws3 ≤ 2 ^ 20) := Nat.le_trans (strs_sz hN) (by omega)
        have HB20 : Hid (Below w.heap.size w W20) := HB19.out.trans ((hb.trans (hbW.mono hb.size)).mono HB19.out.size)
        obtain ⟨LD, hLD⟩ : ∃ LD, LD = (fWithout (t3, es3) ws3).1 := ⟨_, rfl⟩
        obtain ⟨f2, hf2⟩ : ∃ f2, f2 = (fWithout (t3, es3) ws3).2 := ⟨_, rfl⟩
        have HLD : Hid (LD = (fWithout (t3, es3) ws3).1 ∧ f2 = (fWithout (t3, es3) ws3).2) := ⟨hLD, hf2⟩
        clear hw hs hz hN hb hbW hLD hf2
        go_upto_region 50 with fail
        rw [← hW20, ← hzb]
        clear hW20 hzb
        go_wp2_with fail
        refine (implWithout_k (t3, es3) [.int .i64 t3, .slice za zn zc] TZ ws3 ra rn rc T3 W20 (Kd.read _ HK20.out) HZK.out (Kd.read _ HR20.out) HZR.out).mono ?_
        rintro e w21 ⟨da, dn, dc, TD, rfl, hd, _, _, hb⟩
        rw [← HLD.out.1] at hd
        rw [← HLD.out.2]
        have HDN : Hid (dn = LD.length) := row_len hd
        have Z210 := cell_later hb Z0
        have Z211 := cell_later hb Z1
        have HD21 : Hid ((kRow kInt).is true w21 TD [.slice da dn dc] LD) := hd
        have HB21 : Hid (Below W20.heap.size W20 w21) := hb
        clear hd hb Z0 Z1
        go_wp2_with fail
        refine (specWithout_k (t3, es3) [.int .i64 t3, .slice za zn zc] TZ ws3 ra rn rc T3 w21 (Kd.read _ (Kd.below HK20.out HB21.out)) HZK.out (Kd.read _ (Kd.below HR20.out HB21.out)) HZR.out).mono ?_
        rintro e w22 ⟨ea, en, ec, TE, rfl, hd, _, _, hb⟩
        rw [← HLD.out.1] at hd
        rw [← HLD.out.2]
        obtain rfl : en = dn := by rw [HDN.out]; exact row_len hd
        have Z220 := cell_later hb Z210
        have Z221 := cell_later hb Z211
        have HD22 : Hid ((kRow kInt).is true w22 TD [.slice da en dc] LD) := Kd.below HD21.out hb
        have HE22 : Hid ((kRow kInt).is true w22 TE [.slice ea en ec] LD) := hd
        have HB22 : Hid (Below W20.heap.size W20 w22) := HB21.out.trans (hb.mono HB21.out.size)
        have HBF : Hid (Below w.heap.size w w22) := HB20.out.trans (HB22.out.mono HB20.out.size)
        have HK22 : Hid (kWords.is true w22 TZ [.int .i64 t3, .slice za zn zc] (t3, es3)) := Kd.below HK20.out HB22.out
        obtain ⟨gw, hgw⟩ : ∃ gw, gw = fGoodWords (t3, es3) := ⟨_, rfl⟩
        have HSI : Hid (∀ w', Below w22.heap.size w22 w' → Calls Try.prog 21 #[.slice da en dc, .slice ea en ec] w' fun e w'' => e = .returned (.bool true) ∧ Below w'.heap.size w' w'') := fun w' hw' => sameInts_k LD da ea en dc ec TD TE w' (Kd.read _ (Kd.below HD22.out hw')) (Kd.read _ (Kd.below HE22.out hw'))
        have HG1 : Hid (∀ w', Below w22.heap.size w22 w' → Calls Try.prog 15 #[.agg #[.int .i64 t3, .slice za zn zc]] w' fun e w'' => e = .returned (.bool gw) ∧ Below w'.heap.size w' w'') := fun w' hw' => by rw [hgw]; exact implGoodWords_k (t3, es3) [.int .i64 t3, .slice za zn zc] TZ w' (Kd.read _ (Kd.below HK22.out hw')) HZK.out
        have HG2 : Hid (∀ w', Below w22.heap.size w22 w' → Calls Try.prog 22 #[.agg #[.int .i64 t3, .slice za zn zc]] w' fun e w'' => e = .returned (.bool gw) ∧ Below w'.heap.size w' w'') := fun w' hw' => by rw [hgw]; exact specGoodWords_k (t3, es3) [.int .i64 t3, .slice za zn zc] TZ w' (Kd.read _ (Kd.below HK22.out hw')) HZK.out
        clear hd hb Z210 Z211 hgw HLD
        have hne := belowOf_ne w22
        have V0 : ∀ q : BelowOf w22, q.v.cell? ⟨zb, 0, none⟩ = some (.int .i64 t3) := BelowOf.cell Z220
        have V1 : ∀ q : BelowOf w22, q.v.cell? ⟨zb, 1, none⟩ = some (.slice za zn zc) := BelowOf.cell Z221
        cases f2 <;> cases gw
        all_goals
          go_wp2_with fail
          refine region_below (by kernel_rfl) (by kernel_rfl) ?_
          repeat (go_big_quiet_step (first | (go_at_call 21; exact BelowOf.calls (HSI.out _ (BelowOf.h _))) | (go_at_call 15; exact BelowOf.calls (HG1.out _ (BelowOf.h _))) | (go_at_call 22; exact BelowOf.calls (HG2.out _ (BelowOf.h _)))))
          refine wpQuiet_nil (belowOf_all ?_)
          intro w23 hb23
          have HB23 : Hid (Below w.heap.size w w23) := HBF.out.trans (hb23.mono HBF.out.size)
          clear hb23 V0 V1 hne
          go_wp2
          go_ret
          exact ⟨rfl, HB23.out⟩
end Go.Proofs.Ytikgcgfigcolmaa
namespace Go.Proofs.Ytikgcgfigcolmaa
open Go.ChangeShapes Go.WideShapes Go.ChangeAt Go.RowKit Go.Deep Go.Joins
set_option linter.unusedVariables false

theorem own : ownKnob Try.prog.godebug = none := by kernel_rfl
theorem laidOut : laidOutB Try.prog = true := by kernel_rfl
theorem add_plainO (b off i : Nat) : (⟨b, off, none⟩ : Addr).add i = ⟨b, off + i, none⟩ := by unfold Addr.add; split <;> simp_all

/-- What is read as a value of the type is data of the kind. -/
def Opens {α : Type} (K : Kd α) (t : TypeId) : Prop := ∀ (H : Type) (enc : TypeId × Value → H) (W : World) (held : Bool) (n : Nat) (cs : List Value) (x : DataW H × List MemPlace), DataW.trod enc Try.prog W 0 (fun _ => true) held n t cs = some x → ∃ d, K.is false W (fun _ => True) cs d

theorem opens_int : Opens kInt 3 := fun H enc W held n cs x h => by
  obtain ⟨k, rfl, _, hw⟩ := DataW.trod_int Try.underlying3 h
  refine ⟨k, rfl, ?_⟩
  simp only [Lit.wf, Bool.and_eq_true, decide_eq_true_eq] at hw
  exact hw
theorem opens_str : Opens kStr 9 := fun H enc W held n cs x h => by
  obtain ⟨k, rfl, _, hw⟩ := DataW.trod_string Try.underlying9 h
  exact ⟨k, rfl, hw⟩
theorem opens_row {α : Type} [Inhabited α] (K : Kd α) (t e : TypeId) (ht : Try.prog.underlying t = some (.slice e)) (hw : Try.prog.cellsOf e = K.wd) (hw0 : 0 < K.wd) (hop : Opens K e) : Opens (kRow K) t := fun H enc W held n cs x h => by
  rcases open_slice ht h with ⟨e, _⟩ | ⟨a, len, cap, m', f', D, Pl, e, _, hl, hm, hmm, _, hx⟩
  · subst e
    exact ⟨[], row_nil K false W _ none 0⟩
  · subst e
    rw [hw] at hx
    have hle : len ≤ m' := by
      rw [hmm]
      split <;> omega
    obtain ⟨N, hN⟩ := @choose_lt (List Value × α) ⟨([], default)⟩ len (fun i y => K.is false W (fun _ => True) y.1 y.2 ∧ ∀ j u, y.1[j]? = some u → W.cell? ((a.add (i * K.wd)).add j) = some u) (fun i hi => by
      obtain ⟨cs', h3, h4⟩ := hx i (by omega)
      obtain ⟨d, hd⟩ := hop H enc W held _ _ _ h4
      obtain ⟨_, _, hcell⟩ := World.cells?_some h3
      refine ⟨(cs', d), hd, fun j u hj => ?_⟩
      rw [hcell j (by
        have := (List.getElem?_eq_some_iff.1 hj).1
        rw [K.len hd] at this
        exact this)]
      exact hj)
    refine ⟨(List.range len).map (fun i => (N i).2), some a, cap, by simp, by simp; omega, fun h => (by cases h), ?_⟩
    by_cases h0 : len = 0
    · subst h0
      exact .inl rfl
    · have hz := hN 0 (by omega)
      have hlz := K.len hz.1
      have c00 := hz.2 0 _ (List.getElem?_eq_getElem (by omega))
      obtain ⟨b, off, spot⟩ := a
      have hsp : spot = none := by
        have := World.cell?_spot c00
        simpa [Addr.add] using this
      subst hsp
      refine .inr ⟨b, off, fun _ _ => True, fun i => (N i).1, rfl, ?_, trivial, fun i y hy => ?_, fun _ _ _ _ => trivial, fun h => by cases h⟩
      · have := World.block_lt_of_cell? _ _ c00
        simpa [Addr.add] using this
      · have hi : i < len := by
          have := (List.getElem?_eq_some_iff.1 hy).1
          simpa using this
        obtain rfl : (N i).2 = y := by simpa [List.getElem?_map, List.getElem?_range hi] using hy
        refine ⟨(hN i hi).1, fun j v hj => ⟨?_, fun h => by cases h⟩⟩
        have := (hN i hi).2 j v hj
        rw [add_plainO, add_plainO] at this
        exact this

set_option maxRecDepth 100000 in
/-- A struct that came in. -/
theorem open_agg {α : Type} {K : Kd α} {t : TypeId} {fs : Array Field} (ht : Try.prog.underlying t = some (.struct fs)) (hop : Opens K t) {H : Type} {enc : TypeId × Value → H} {W : World} {held : Bool} {base : Nat} {v : Value} {d : DataW H} {p : List MemPlace} (hv : Value.okWide Try.prog W .any base t v) (h : DataW.Trod enc Try.prog W 0 (fun _ => true) held t v d p) :
    ∃ C x, v = .agg (List.toArray C) ∧ K.is false W (fun _ => True) C x := by
  obtain ⟨cs, rfl, _⟩ := okWide_struct ht hv
  obtain ⟨fuel, hf⟩ := h
  obtain ⟨x, hx⟩ := hop H enc W held _ _ _ hf
  exact ⟨cs.toList, x, by simp, hx⟩
set_option maxRecDepth 100000 in
/-- A row that came in. -/
theorem open_row {α : Type} {K : Kd α} {t e : TypeId} (ht : Try.prog.underlying t = some (.slice e)) (hop : Opens (kRow K) t) {H : Type} {enc : TypeId × Value → H} {W : World} {held : Bool} {base : Nat} {v : Value} {d : DataW H} {p : List MemPlace} (hv : Value.okWide Try.prog W .any base t v) (h : DataW.Trod enc Try.prog W 0 (fun _ => true) held t v d p) :
    ∃ a n c x, v = .slice a n c ∧ (kRow K).is false W (fun _ => True) [.slice a n c] x := by
  obtain ⟨a, n, c, rfl⟩ := okWide_slice ht hv
  obtain ⟨fuel, hf⟩ := h
  obtain ⟨x, hx⟩ := hop H enc W held _ _ _ hf
  exact ⟨a, n, c, x, rfl, hx⟩

end Go.Proofs.Ytikgcgfigcolmaa
namespace Go.Proofs.Ytikgcgfigcolmaa
open Go.ChangeShapes Go.WideShapes Go.ChangeAt Go.RowKit
open Go.ChangeMaps (open_string shut_string)
set_option linter.unusedVariables false

theorem opens_u8 : Opens kU8 5 := fun H enc W held n cs x h => by
  obtain ⟨k, rfl, _, hw⟩ := DataW.trod_int Try.underlying5 h
  refine ⟨k, rfl, ?_⟩
  simp only [Lit.wf, Bool.and_eq_true, decide_eq_true_eq] at hw
  have h1 : IntKind.u8.min = 0 := rfl
  have h2 : IntKind.u8.max = 255 := rfl
  omega
theorem opens_u8S : Opens (kRow kU8) 22 := opens_row _ _ 5 Try.underlying22 (by kernel_rfl) (by decide) opens_u8

set_option maxRecDepth 100000 in
theorem words_lifted (os : Os) (started : os.Started) (H : Type) (enc : TypeId × Value → H) :
    ReturnsInHanded {} Try.checked os 3 .any (Rows.fnWordsSpec.pre6 enc Try.prog Try.f3 Rows.fnWordsRow.domain false) (Rows.fnWordsSpec.post enc Try.prog Try.f3 false true false false) := by
  refine returnsInHanded_of_change (C := Try.checked) own started (by kernel_rfl) Try.func3
    (ChangeSpec.witness6 (enc := enc) (C := Try.checked) false ⟨#[], #[.slice none 0 0, .slice none 0 0], []⟩ 8 (by kernel_rfl) (by kernel_rfl) (by kernel_rfl) (by kernel_rfl)) ?_
  intro W base args ds gs before hval0 hW hcnd _
  have hval : ∀ (j : Nat) t v, Try.f3.params[j]? = some t → args[j]? = some v → Value.okWide Try.prog W .any base t v := hval0
  have hW' := hW
  obtain ⟨p, q, hA0, hV, rfl, hfz, hnd⟩ := hW
  have hA : DataW.TrodAll enc Try.prog W 0 (fun _ => true) true Try.f3.params.toList args.toList ds p := hA0
  rw [Try.params3] at hA hval
  obtain ⟨v0, vs0, d0, ds0, p0, q0, hargs, rfl, rfl, h0, r0⟩ := trodAll_cons hA
  obtain ⟨v1, vs1, d1, ds1, p1, q1, rfl, rfl, rfl, h1, r1⟩ := trodAll_cons r0
  obtain ⟨rfl, rfl, rfl⟩ := trodAll_nil r1
  obtain rfl : args = #[v0, v1] := by cases args; simp_all
  obtain ⟨rfl, rfl⟩ := trodVars_none hV
  have k0 := h0
  have lt0 : ∀ x ∈ p0, x.block < W.heap.size := by obtain ⟨m, hm⟩ := k0; exact DataW.trod_lt m _ _ _ hm
  obtain ⟨a0, n0, c0, x0, rfl, g0⟩ := open_row Try.underlying22 opens_u8S (hval 0 22 v0 rfl rfl) h0
  have k1 := h1
  have lt1 : ∀ x ∈ p1, x.block < W.heap.size := by obtain ⟨m, hm⟩ := k1; exact DataW.trod_lt m _ _ _ hm
  obtain ⟨a1, n1, c1, x1, rfl, g1⟩ := open_row Try.underlying22 opens_u8S (hval 1 22 v1 rfl rfl) h1
  clear hA0 hval0
  simp only [List.append_nil] at hW'
  refine (lawWords_k x0 x1 a0 a1 n0 c0 n1 c1 W g0 g1).mono fun e W' ⟨he, bel⟩ => ?_
  subst he
  exact ⟨_, rfl, _, _, _, [], _, [], hW', trodAll_mk1 (shut_bool Try.underlying4 _), (trodAll_cons_mk (Below.trod laidOut (by kernel_rfl) (of_decide_eq_true (by kernel_rfl)) k0 bel lt0) (trodAll_cons_mk (Below.trod laidOut (by kernel_rfl) (of_decide_eq_true (by kernel_rfl)) k1 bel lt1) trodAll_mk0)), rfl, bel.frame _, fun h => by cases h⟩

theorem words_holds : Rows.FnWordsSaid :=
  OpenClaim.holds_of_wide 3 Try.f3 rfl rfl rfl rfl rfl rfl rfl ⟨rfl, rfl, rfl, rfl, rfl⟩ rfl rfl rfl rfl rfl (by kernel_rfl) Try.func3 (by kernel_rfl)
    (of_decide_eq_true (by kernel_rfl)) (by unfold Func.isWrapper; first | (rw [if_pos (by decide +kernel)]; kernel_rfl) | (rw [if_neg (by decide +kernel)]; exact ⟨rfl, rfl⟩))
    (fun os started H enc _ => words_lifted os started H enc)
#print axioms words_holds
end Go.Proofs.Ytikgcgfigcolmaa
