/- A search through lists, in memory; an entry at a depth; whether all lists have ended; how many are above. No condition but that they fit in memory. A sum over lists: the program's. No condition but that they fit in memory. A search through lists: sums, how many are above, and an id that is met. No condition but that they fit in memory. A search through lists: an id that is met. No condition but that they fit in memory. Rows of rankings while they grow. No condition. A word's ranking: the program's. No condition but that it fits in memory. -/
import Derived.Test.YtdaomklgcdfllaaRsS
import Derived.Test.YtdaomklgcdfllaaRpS
import Derived.Deep.RegionLaw
import Derived.Deep.AppendLies
import Derived.Test.YtdaomklgcdfllaaAp3
import Derived.Test.YtdaomklgcdfllaaRfM
namespace Go.Proofs.Ytdaomklgcdfllaa
open Go.RowKit
set_option linter.unusedVariables false

set_option maxRecDepth 100000 in
set_option maxHeartbeats 1000000 in
theorem entryAt_yes (r : List DScored) (la : Option Addr) (m lc : Nat) (T : Nat → Prop) (d : Nat) (i s : Int) (w : World) (h : (kRow kScored).is false w T [.slice la m lc] r) (hd : r[d]? = some (i, s)) :
    Calls Try.prog 98 #[.agg #[.slice la m lc], .int .i64 d] w fun e w' => e = .returned (.tuple #[.agg #[.int .i64 i, .int .i64 s], .bool true]) ∧ Below w.heap.size w w' := by
  have hm := row_len h
  have hdl := (List.getElem?_eq_some_iff.1 hd).1
  have hmx : m ≤ 9223372036854775807 := by obtain ⟨_, _, _, h, _⟩ := row_form h; rw [hm]; exact h
  obtain ⟨b, off, B, C, rfl, hb, _, hi, _, hc⟩ := row_at h hd
  obtain ⟨rfl, g0, g1⟩ := kScored_open hi
  have A0 : w.cell? ⟨b, off + d * 2, none⟩ = some (.int .i64 i) := (hc 0 _ rfl).1
  have A1 : w.cell? ⟨b, off + d * 2 + 1, none⟩ = some (.int .i64 s) := (hc 1 _ rfl).1
  have i0 : (0 : Int) ≤ (d : Int) := by omega
  have i1 : (d : Int) < (m : Int) := by omega
  have i2 : ¬ (m : Int) ≤ (d : Int) := by omega
  clear hc hi hd h hm hdl
  go_enter Try.func98, Try.ntmps98
  go_wp2
  refine bodyPost_ret (v := .tuple #[.agg #[.int .i64 i, .int .i64 s], .bool true]) (by simp [results, Try.results98, go_sem]) rfl ?_
  exact ⟨rfl, by go_grown⟩

set_option maxRecDepth 100000 in
set_option maxHeartbeats 1000000 in
theorem entryAt_no (la : Option Addr) (m lc : Nat) (d : Nat) (w : World) (hd : m ≤ d) :
    Calls Try.prog 98 #[.agg #[.slice la m lc], .int .i64 d] w fun e w' => e = .returned (.tuple #[.agg #[.int .i64 0, .int .i64 0], .bool false]) ∧ Below w.heap.size w w' := by
  have i2 : (m : Int) ≤ (d : Int) := by omega
  go_enter Try.func98, Try.ntmps98
  go_wp2
  refine bodyPost_ret (v := .tuple #[.agg #[.int .i64 0, .int .i64 0], .bool false]) (by simp [results, Try.results98, go_sem]) rfl ?_
  exact ⟨rfl, by go_grown⟩

/-- What of a search stays as it is: its lists and the functions that read them. -/
structure SrFix (w : World) (g Bm : Nat) (ls : List DRanking) (a : Option Addr) (n c : Nat) (ea : Option Addr) (ec : Nat) : Prop where
  lists : (kRow kRanking).is false w (fun k => k < Bm ∧ k ≠ g) [.slice a n c] ls
  fns : ls = [] ∨ ∃ eb, ea = some ⟨eb, 0, none⟩ ∧ eb < Bm ∧ eb ≠ g ∧ ∀ i r, ls[i]? = some r → ∃ la lc, w.cell? ⟨eb, i, none⟩ = some (.func (.func 98) #[.agg #[.slice la r.length lc]] #[]) ∧ (kRow kScored).is false w (fun k => k < Bm ∧ k ≠ g) [.slice la r.length lc] r
  lt : Bm ≤ w.heap.size
theorem SrFix.keep {w w' : World} {g Bm : Nat} {ls : List DRanking} {a : Option Addr} {n c : Nat} {ea : Option Addr} {ec : Nat} (h : SrFix w g Bm ls a n c ea ec) (hb : BelowBut Bm g w w') : SrFix w' g Bm ls a n c ea ec := by
  obtain ⟨h1, h2, h3⟩ := h
  have hk : ∀ k, k < w.heap.size → (k < Bm ∧ k ≠ g) → w'.heap[k]? = w.heap[k]? := fun k _ h' => hb.block k h'.1 h'.2
  refine ⟨Kd.keep _ h1 hb.size hk, ?_, Nat.le_trans h3 hb.size⟩
  rcases h2 with h2 | ⟨eb, rfl, h4, h5, h6⟩
  · exact .inl h2
  · refine .inr ⟨eb, rfl, h4, h5, fun i r hr => ?_⟩
    obtain ⟨la, lc, h7, h8⟩ := h6 i r hr
    exact ⟨la, lc, by rw [World.cell?_of_block (w := w) (hb.block eb h4 h5)]; exact h7, Kd.keep _ h8 hb.size hk⟩
theorem below_but {B g : Nat} {w w' : World} (h : Below w.heap.size w w') (hB : B ≤ w.heap.size) : BelowBut B g w w' := ⟨h.os, h.tape, h.output, h.size, fun k hk _ => h.block k (by omega)⟩
theorem bbut_trans {B g : Nat} {w w' w'' : World} (h : BelowBut B g w w') (k : BelowBut B g w' w'') : BelowBut B g w w'' :=
  ⟨k.os.trans h.os, k.tape.trans h.tape, k.output.trans h.output, Nat.le_trans h.size k.size, fun i hi hn => (k.block i hi hn).trans (h.block i hi hn)⟩
theorem bbut_refl (B g : Nat) (w : World) : BelowBut B g w w := ⟨rfl, rfl, rfl, Nat.le_refl _, fun _ _ _ => rfl⟩
/-- A search's own cells. -/
structure SrAt (w : World) (g Bm : Nat) (a : Option Addr) (n c : Nat) (ea : Option Addr) (ec : Nat) (ma : Option Addr) (mc : Nat) (met : List DScored) (d : Nat) (thr : Int) : Prop where
  c0 : w.cell? ⟨g, 0, none⟩ = some (.slice a n c)
  c1 : w.cell? ⟨g, 1, none⟩ = some (.slice ea n ec)
  c2 : w.cell? ⟨g, 2, none⟩ = some (.slice ma met.length mc)
  c3 : w.cell? ⟨g, 3, none⟩ = some (.int .i64 d)
  c4 : w.cell? ⟨g, 4, none⟩ = some (.int .i64 thr)
  fz : ∀ o, o < 5 → w.frozen? ⟨g, o, none⟩ = false
  own : OwnL scC 88 2 w Bm (.slice ma met.length mc) met
  lt : g < Bm
theorem SrAt.below {w w' : World} {g Bm : Nat} {a : Option Addr} {n c : Nat} {ea : Option Addr} {ec : Nat} {ma : Option Addr} {mc : Nat} {met : List DScored} {d : Nat} {thr : Int} (h : SrAt w g Bm a n c ea ec ma mc met d thr) (hb : Below w.heap.size w w') : SrAt w' g Bm a n c ea ec ma mc met d thr := by
  obtain ⟨h0, h1, h2, h3, h4, h5, h6, h7⟩ := h
  have hg := World.block_lt_of_cell? _ _ h0
  exact ⟨cell_later hb h0, cell_later hb h1, cell_later hb h2, cell_later hb h3, cell_later hb h4, fun o ho => (hb.frozen (p := ⟨g, o, none⟩) hg).trans (h5 o ho), OwnL.below h6 hb, h7⟩
theorem atDp_drop_nil {ls : List DRanking} {d : Nat} (h : ∀ r ∈ ls, r.length ≤ d) : atDp ls d = [] := atDp_none h

set_option maxRecDepth 100000 in
set_option maxHeartbeats 2000000 in
theorem hasEnded_k (ls : List DRanking) (w : World) (g Bm : Nat) (a : Option Addr) (n c : Nat) (ea : Option Addr) (ec : Nat) (ma : Option Addr) (mc : Nat) (met : List DScored) (d : Nat) (thr : Int) (hf : SrFix w g Bm ls a n c ea ec) (hs : SrAt w g Bm a n c ea ec ma mc met d thr) :
    Calls Try.prog 67 #[.pointer (some ⟨g, 0, none⟩)] w fun e w' => e = .returned (.bool (decide (atDp ls d = []))) ∧ Below w.heap.size w w' := by
  have hn := row_len hf.lists
  have hmx : n ≤ 9223372036854775807 := by obtain ⟨_, _, _, h, _⟩ := row_form hf.lists; rw [hn]; exact h
  have HN : Hid (n = ls.length) := hn
  have HF : Hid (SrFix w g Bm ls a n c ea ec) := hf
  have X1 := hs.c1
  have X3 := hs.c3
  clear hf hs hn
  go_enter Try.func67, Try.ntmps67
  go_wp2_with fail
  go_loopw [12] (fun iv wr => ∃ (k : Nat), k ≤ n ∧ iv = .int .i64 k ∧ Hid (∀ r ∈ ls.take k, r.length ≤ d) ∧ Below w.heap.size w wr) (fun iv _ => n - (intOf iv).toNat)
  case atStart => exact ⟨0, Nat.zero_le _, rfl, fun r hr => by simp at hr, Below.refl _ _⟩
  case round =>
    obtain ⟨k, hk, rfl, HI, hnx⟩ := hrel
    have zw := hnx.size
    have Y1 := cell_later hnx X1
    have Y3 := cell_later hnx X3
    by_cases hlt : k < n
    · obtain ⟨r, hr⟩ : ∃ r, ls[k]? = some r := ⟨_, List.getElem?_eq_getElem (by rw [← HN.out]; exact hlt)⟩
      have hf2 := HF.out.keep (below_but hnx HF.out.lt)
      obtain ⟨eb, rfl, h4, h5, h6⟩ : ∃ eb, ea = some ⟨eb, 0, none⟩ ∧ eb < Bm ∧ eb ≠ g ∧ ∀ i r, ls[i]? = some r → ∃ la lc, wr.cell? ⟨eb, i, none⟩ = some (.func (.func 98) #[.agg #[.slice la r.length lc]] #[]) ∧ (kRow kScored).is false wr (fun k => k < Bm ∧ k ≠ g) [.slice la r.length lc] r := by
        rcases hf2.fns with e | h
        · rw [e] at hr; simp at hr
        · exact h
      obtain ⟨la, lc, A0, hrow⟩ := h6 k r hr
      have HROW : Hid ((kRow kScored).is false wr (fun k => k < Bm ∧ k ≠ g) [.slice la r.length lc] r) := hrow
      have i0 : (0 : Int) ≤ (k : Int) := by omega
      have i1 : (k : Int) < (n : Int) := by omega
      have HR : Hid (ls[k]? = some r) := hr
      have HBX : Hid (Below w.heap.size w wr) := hnx
      clear hf2 h4 h5 h6 hrow hr hnx
      obtain ⟨m, hm⟩ : ∃ m, m = r.length := ⟨_, rfl⟩
      have HM : Hid (m = r.length) := hm
      rw [← hm] at A0 HROW
      clear hm
      by_cases hd : m ≤ d
      · go_wp2_with fail
        refine (entryAt_no la m lc d _ hd).mono ?_
        rintro e w1 ⟨rfl, hb1⟩
        have HB1 : Hid (Below w.heap.size w w1) := HBX.out.trans (hb1.mono zw)
        have z1 : wr.heap.size ≤ w1.heap.size := hb1.size
        have HI2 : Hid (∀ r ∈ ls.take (k + 1), r.length ≤ d) := by
          intro q hq
          rw [List.take_add_one, HR.out] at hq
          rcases List.mem_append.1 hq with h | h
          · exact HI.out q h
          · obtain rfl : q = r := by simpa using h
            rw [← HM.out]; exact hd
        clear hb1
        go_wp2
        go_roundw
        case rel => exact ⟨k + 1, by omega, by go_num, HI2, HB1.out.alloc (by omega) _⟩
        case measure => simp [intOf]; omega
      · obtain ⟨⟨i, s⟩, hx⟩ : ∃ x, r[d]? = some x := ⟨_, List.getElem?_eq_getElem (by rw [← HM.out]; omega)⟩
        have HF2 : Hid (decide (atDp ls d = []) = false) := by
          refine decide_eq_false fun e => ?_
          have := atDp_nil_iff.1 e r (List.mem_of_getElem? HR.out)
          rw [← HM.out] at this
          exact hd this
        go_wp2_with fail
        refine (entryAt_yes r la m lc _ d i s _ HROW.out hx).mono ?_
        rintro e w1 ⟨rfl, hb1⟩
        have HB1 : Hid (Below w.heap.size w w1) := HBX.out.trans (hb1.mono zw)
        clear hb1 hx
        go_wp2
        go_ret
        exact ⟨by rw [HF2.out]; rfl, HB1.out.alloc HB1.out.size _⟩
    · have HF2 : Hid (decide (atDp ls d = []) = true) := by
        refine decide_eq_true (atDp_none fun r hr => HI.out r ?_)
        rw [List.take_of_length_le (by rw [← HN.out]; omega)]
        exact hr
      go_wp2
      go_ret
      exact ⟨by rw [HF2.out]; rfl, hnx⟩
end Go.Proofs.Ytdaomklgcdfllaa
namespace Go.Proofs.Ytdaomklgcdfllaa
open Go.RowKit
set_option linter.unusedVariables false

set_option maxRecDepth 100000 in
set_option maxHeartbeats 2000000 in
theorem sumIn_k (ls : List DRanking) (a : Option Addr) (n c : Nat) (S : Nat → Prop) (i : Int) (w : World) (h : (kRow kRanking).is false w S [.slice a n c] ls) (hok : SumOk ls) :
    Calls Try.prog 63 #[.slice a n c, .int .i64 i] w fun e w' => e = .returned (.int .i64 (sumL ls i)) ∧ Below w.heap.size w w' := by
  have hnl := row_len h
  have h5 : n ≤ 5 := by rw [hnl]; exact hok.1
  have HNL : Hid (n = ls.length) := hnl
  have H : Hid ((kRow kRanking).is false w S [.slice a n c] ls) := h
  have HOK : Hid (SumOk ls) := hok
  clear h hnl hok
  go_enter Try.func63, Try.ntmps63
  go_wp2_with fail
  go_loopw [5, 10] (fun sv iv wr => ∃ (k : Nat) (z : Int), k ≤ n ∧ iv = .int .i64 k ∧ sv = .int .i64 z ∧ Hid (z = sumL (ls.take k) i) ∧ (0 ≤ z ∧ z ≤ 1000000 * k) ∧ Below w.heap.size w wr) (fun _ iv _ => n - (intOf iv).toNat)
  case atStart => exact ⟨0, 0, Nat.zero_le _, rfl, rfl, rfl, by omega, Below.refl _ _⟩
  case round =>
    obtain ⟨k, z, hk, rfl, rfl, HI, hz, hnx⟩ := hrel
    have zw := hnx.size
    by_cases hlt : k < n
    · obtain ⟨x, hx⟩ : ∃ x, ls[k]? = some x := ⟨_, List.getElem?_eq_getElem (by rw [← HNL.out]; exact hlt)⟩
      obtain ⟨b, off, B, C, rfl, hb, _, hi, _, hc⟩ := row_at (Kd.below H.out hnx) hx
      obtain ⟨la, lc, T, rfl, hm, hl, _⟩ := kRanking_open hi
      have A0 : wr.cell? ⟨b, off + k, none⟩ = some (.slice la x.length lc) := cell1 (hc 0 _ rfl).1
      have i0 : (0 : Int) ≤ (k : Int) := by omega
      have i1 : (k : Int) < (n : Int) := by omega
      obtain ⟨q60, qn, qb⟩ := HOK.out.2 x (List.mem_of_getElem? hx)
      obtain ⟨s1, s2⟩ := scoreL_bnd qb i
      have HTK : Hid (z + scoreL x i = sumL (ls.take (k + 1)) i) := by show _ = _; rw [List.take_add_one, hx, sumL_append, HI.out]; simp [sumL]
      have HL : Hid ((kRow kScored).is false wr T [.slice la x.length lc] x) := hl
      have HBR : Hid (Below w.heap.size w wr) := hnx
      obtain ⟨m, hm'⟩ : ∃ m, m = x.length := ⟨_, rfl⟩
      rw [← hm'] at A0 HL
      obtain ⟨y, hy⟩ : ∃ y, y = scoreL x i := ⟨_, rfl⟩
      have HY : Hid (y = scoreL x i) := hy
      rw [← hy] at s1 s2 HTK
      clear hc hi hx hl hnx hm' qn qb hm HI hy
      obtain ⟨z1, z2⟩ := hz
      go_wp2_with fail
      refine (scoreIn_k x la m lc T i _ (Kd.below HL.out (below_a1r _ _))).mono ?_
      rintro e w1 ⟨rfl, hb1⟩
      rw [← HY.out]
      have HB1 : Hid (Below w.heap.size w w1) := HBR.out.trans (((below_a1r _ _).trans (hb1.mono (by simp))).mono HBR.out.size)
      clear hb1
      go_wp2
      go_roundw
      case rel => exact ⟨k + 1, z + y, by omega, by go_num, by first | rfl | (congr 1; omega), HTK, by omega, HB1.out⟩
      case measure => simp [intOf]; omega
    · have i1 : ¬ (k : Int) < (n : Int) := by omega
      have HE : Hid (sumL ls i = z) := by show _ = _; rw [HI.out, show k = ls.length by rw [← HNL.out]; omega, List.take_length]
      clear HI
      go_wp2
      go_ret
      exact ⟨by rw [HE.out]; rfl, hnx⟩
end Go.Proofs.Ytdaomklgcdfllaa
namespace Go.Proofs.Ytdaomklgcdfllaa
open Go.RowKit
set_option linter.unusedVariables false

theorem cnt_take {l : List DScored} {k : Nat} {x : DScored} (h : l[k]? = some x) (t : Int) : cntA (l.take (k + 1)) t = cntA (l.take k) t + (if t < x.2 then 1 else 0) := by
  rw [List.take_add_one, h, cntA_append]
  simp [cntA]

set_option maxRecDepth 100000 in
set_option maxHeartbeats 2000000 in
theorem above_k (w : World) (g Bm : Nat) (a : Option Addr) (n c : Nat) (ea : Option Addr) (ec : Nat) (ma : Option Addr) (mc : Nat) (met : List DScored) (d : Nat) (thr : Int) (hs : SrAt w g Bm a n c ea ec ma mc met d thr) (hm : met.length ≤ 2 ^ 20) (hmk : ∀ x ∈ met, IntOk x.1 ∧ IntOk x.2) :
    Calls Try.prog 73 #[.pointer (some ⟨g, 0, none⟩)] w fun e w' => e = .returned (.int .i64 (cntA met thr)) ∧ Below w.heap.size w w' := by
  obtain ⟨m, hmm⟩ : ∃ m, m = met.length := ⟨_, rfl⟩
  have HM : Hid (m = met.length) := hmm
  have X2 := hs.c2
  have X4 := hs.c4
  have HO : Hid ((kRow kScored).is false w (fun k => Bm ≤ k) [.slice ma met.length mc] met) := Kd.read _ (own_scs hs.own (by omega) hmk)
  rw [← hmm] at X2 HO
  have m20 : m ≤ 2 ^ 20 := by omega
  clear hs hm hmk hmm
  go_enter Try.func73, Try.ntmps73
  go_wp2_with fail
  go_loopw [3, 11] (fun cv iv wr => ∃ (k : Nat) (z : Nat), k ≤ m ∧ iv = .int .i64 k ∧ cv = .int .i64 z ∧ Hid (z = cntA (met.take k) thr) ∧ z ≤ k ∧ Below w.heap.size w wr) (fun _ iv _ => m - (intOf iv).toNat)
  case atStart => exact ⟨0, 0, Nat.zero_le _, rfl, rfl, rfl, Nat.le_refl _, Below.refl _ _⟩
  case round =>
    obtain ⟨k, z, hk, rfl, rfl, HI, hz, hnx⟩ := hrel
    have zw := hnx.size
    by_cases hlt : k < m
    · obtain ⟨⟨i, s⟩, hx⟩ : ∃ x, met[k]? = some x := ⟨_, List.getElem?_eq_getElem (by rw [← HM.out]; exact hlt)⟩
      obtain ⟨b, off, B, C, rfl, hb, _, hi, _, hc⟩ := row_at (Kd.below HO.out hnx) hx
      obtain ⟨rfl, g0, g1⟩ := kScored_open hi
      have A0 : wr.cell? ⟨b, off + k * 2, none⟩ = some (.int .i64 i) := (hc 0 _ rfl).1
      have A1 : wr.cell? ⟨b, off + k * 2 + 1, none⟩ = some (.int .i64 s) := (hc 1 _ rfl).1
      have i0 : (0 : Int) ≤ (k : Int) := by omega
      have i1 : (k : Int) < (m : Int) := by omega
      have HT : Hid (cntA (met.take (k + 1)) thr = cntA (met.take k) thr + (if thr < s then 1 else 0)) := cnt_take hx thr
      obtain ⟨W1, hW1⟩ : ∃ W1, W1 = wr.alloc (.cells #[.int .i64 i, .int .i64 s] 88) := ⟨_, rfl⟩
      have B1 : Below wr.heap.size wr W1 := by rw [hW1]; exact below_a1r _ _
      have HB1 : Hid (Below w.heap.size w W1) := hnx.trans (B1.mono zw)
      have U0 : ∀ p : BelowOf W1, p.v.cell? ⟨wr.heap.size, 1, none⟩ = some (.int .i64 s) := BelowOf.cell (by rw [hW1]; simp [go_sem])
      have U1 : ∀ p : BelowOf W1, p.v.cell? ⟨g, 4, none⟩ = some (.int .i64 thr) := BelowOf.cell (cell_later HB1.out X4)
      have hne := belowOf_ne W1
      clear hc hi hx B1 hnx
      by_cases c1 : thr < s
      · have HT2 : Hid (z + 1 = cntA (met.take (k + 1)) thr) := by show _ = _; rw [HT.out, if_pos c1, HI.out]
        have c1b : decide (thr < s) = true := decide_eq_true c1
        go_wp2_with fail
        rw [← hW1]
        clear hW1 HT HI
        refine region_below (by kernel_rfl) (by kernel_rfl) ?_
        repeat (go_big_quiet_step (fail))
        refine wpQuiet_nil (belowOf_all ?_)
        intro w2 hb2
        go_wp2
        go_roundw
        case rel => exact ⟨k + 1, z + 1, by omega, by go_num, by go_num, HT2, by omega, HB1.out.trans (hb2.mono HB1.out.size)⟩
        case measure => simp [intOf]; omega
      · have HT2 : Hid (z = cntA (met.take (k + 1)) thr) := by show _ = _; rw [HT.out, if_neg c1, HI.out]; rfl
        have c1b : decide (thr < s) = false := decide_eq_false c1
        go_wp2_with fail
        rw [← hW1]
        clear hW1 HT HI
        refine region_below (by kernel_rfl) (by kernel_rfl) ?_
        repeat (go_big_quiet_step (fail))
        refine wpQuiet_nil (belowOf_all ?_)
        intro w2 hb2
        go_wp2
        go_roundw
        case rel => exact ⟨k + 1, z, by omega, by go_num, rfl, HT2, by omega, HB1.out.trans (hb2.mono HB1.out.size)⟩
        case measure => simp [intOf]; omega
    · have HE : Hid (z = cntA met thr) := by show _ = _; rw [HI.out, List.take_of_length_le (by rw [← HM.out]; omega)]
      have i1 : ¬ (k : Int) < (m : Int) := by omega
      clear HI
      go_wp2
      go_ret
      exact ⟨by rw [← HE.out]; rfl, hnx⟩
end Go.Proofs.Ytdaomklgcdfllaa
namespace Go.Proofs.Ytdaomklgcdfllaa
open Go.RowKit
set_option linter.unusedVariables false

/-- append(s, x) of one that is ranked, at a step of a statement that draws its order. -/
theorem step_sc {w : World} {ops : Array Oper} {o : Oper} {a : Act} {K : Act → World → Prop} {Q : Exit → Act → World → Prop} {E : Prop} (hgd : o.guard = none) (s x : Operand)
    (ho : o.op = .call { callee := .builtin .append, args := #[s, x], argTypes := #[44, 44] })
    (B : Nat) (v : Value) (l : List DScored) (hs : a.eval s = v) (hown : OwnL scC 88 2 w B v l) (b : Nat) (y : DScored) (hx : a.eval x = .slice (some ⟨b, 0, none⟩) 1 1) (hc0 : w.cell? ⟨b, 0, none⟩ = some (.int .i64 y.1)) (hc1 : w.cell? ⟨b, 1, none⟩ = some (.int .i64 y.2))
    (hL : l.length < 2 ^ 30) (hbase : B ≤ w.heap.size)
    (h : ∀ g cap w', OwnL scC 88 2 w' B (.slice (some ⟨g, 0, none⟩) (l.length + 1) cap) (l ++ [y]) → Below B w w' → K (a.put o.dst (.slice (some ⟨g, 0, none⟩) (l.length + 1) cap)) w') : if Region.wanted o (yielded ops a.tmps) = true then Oper.wp Try.prog o a w K Q else E := by
  obtain ⟨i0, hi, hz0, hz1, hz2⟩ := info_parts infoScA
  have hbm : (l.length + 1) * 16 ≤ 140737488355328 := by omega
  refine step_append_lies w hgd s x 44 ho B 88 i0 _ 2 16 Try.underlying44 hi hz0 hz1 hz2 rfl (by decide) v l.length (l.flatMap scC) hs hown ⟨b, 0, none⟩ 1 1 (scC y) hx rfl (fun j u hj => ?_) (scC_one y) (by decide) (by unfold maxLen; omega) hbm hbase _ rfl fun g cap w' h2 h3 _ _ => h g cap w' ?_ ?_
  · match j, hj with
    | 0, hj =>
      obtain rfl : Value.int .i64 y.1 = u := by simpa [scC] using hj
      exact hc0
    | 1, hj =>
      obtain rfl : Value.int .i64 y.2 = u := by simpa [scC] using hj
      exact hc1
  · unfold OwnL
    rw [List.length_append, List.flatMap_append]
    simpa using h2
  · exact ⟨h3.os, h3.tape, h3.output, h3.size, fun k hk => h3.block k (by omega) (fun e => by have := (World.ownsRow.lt hown k e.symm).1; omega)⟩

/-- What a search's step answers: nothing, and the search is turned. -/
def SrTo (w : World) (g Bm : Nat) (ls : List DRanking) (a : Option Addr) (n c : Nat) (ea : Option Addr) (ec : Nat) (met : List DScored) (d : Nat) (thr : Int) (w' : World) : Prop :=
  SrFix w' g Bm ls a n c ea ec ∧ BelowBut Bm g w w' ∧ ∃ ma mc, SrAt w' g Bm a n c ea ec ma mc met d thr
theorem SrTo.below {w w1 w2 : World} {g Bm : Nat} {ls : List DRanking} {a : Option Addr} {n c : Nat} {ea : Option Addr} {ec : Nat} {met : List DScored} {d : Nat} {thr : Int} (h : SrTo w g Bm ls a n c ea ec met d thr w1) (hb : Below w1.heap.size w1 w2) : SrTo w g Bm ls a n c ea ec met d thr w2 := by
  obtain ⟨h1, h2, ma, mc, h3⟩ := h
  have hbb : BelowBut Bm g w1 w2 := below_but hb h1.lt
  exact ⟨h1.keep hbb, bbut_trans h2 hbb, ma, mc, h3.below hb⟩
theorem set_bbut {B g : Nat} {w w' : World} {o : Nat} {v : Value} (h : BelowBut B g w w') : BelowBut B g w (w'.setCell ⟨g, o, none⟩ v) :=
  ⟨h.os, h.tape, h.output, by simpa using h.size, fun k hk hn => (heap_set_ne hn).trans (h.block k hk hn)⟩
theorem below_bbut {B g : Nat} {w w' : World} (h : Below B w w') : BelowBut B g w w' := ⟨h.os, h.tape, h.output, h.size, fun k hk _ => h.block k hk⟩
theorem OwnL.set {w : World} {B : Nat} {v : Value} {l : List DScored} {g o : Nat} {u : Value} (h : OwnL scC 88 2 w B v l) (hg : g < B) : OwnL scC 88 2 (w.setCell ⟨g, o, none⟩ u) B v l := h.kept (S := fun k => k = g) (kept_set' w g o u) (fun k hk e => by have e' : k = g := e; omega)
  where kept_set' (w : World) (g o : Nat) (v : Value) : KeptO (fun k => k = g) w (w.setCell ⟨g, o, none⟩ v) := ⟨rfl, rfl, rfl, by simp, fun k hk hn => heap_set_ne hn⟩

/-- What was met, turned. -/
theorem SrAt.put {w W3 : World} {g Bm : Nat} {ls : List DRanking} {a : Option Addr} {n c : Nat} {ea : Option Addr} {ec : Nat} {ma : Option Addr} {mc : Nat} {met : List DScored} {d : Nat} {thr : Int} (hf : SrFix w g Bm ls a n c ea ec) (hs : SrAt w g Bm a n c ea ec ma mc met d thr) (hb : Below Bm w W3) {ma' : Option Addr} {m' mc' : Nat} {met' : List DScored} (hm : m' = met'.length) (ho : OwnL scC 88 2 W3 Bm (.slice ma' m' mc') met') : SrTo w g Bm ls a n c ea ec met' d thr (W3.setCell ⟨g, 2, none⟩ (.slice ma' m' mc')) := by
  subst hm
  have hbb : BelowBut Bm g w (W3.setCell ⟨g, 2, none⟩ (.slice ma' met'.length mc')) := set_bbut (below_bbut hb)
  have hc : ∀ o v, w.cell? ⟨g, o, none⟩ = some v → W3.cell? ⟨g, o, none⟩ = some v := fun o v h => (hb.cell (p := ⟨g, o, none⟩) hs.lt).trans h
  refine ⟨hf.keep hbb, hbb, ma', mc', ⟨set_other (hc _ _ hs.c0) (by decide), set_other (hc _ _ hs.c1) (by decide), set_same (hc _ _ hs.c2), set_other (hc _ _ hs.c3) (by decide), set_other (hc _ _ hs.c4) (by decide), fun o ho => ?_, OwnL.set ho hs.lt, hs.lt⟩⟩
  rw [World.frozen?_setCell, hb.frozen (p := ⟨g, o, none⟩) hs.lt]
  exact hs.fz o ho
theorem SrTo.from {w0 w w' : World} {g Bm : Nat} {ls : List DRanking} {a : Option Addr} {n c : Nat} {ea : Option Addr} {ec : Nat} {met : List DScored} {d : Nat} {thr : Int} (h : SrTo w g Bm ls a n c ea ec met d thr w') (hb : BelowBut Bm g w0 w) : SrTo w0 g Bm ls a n c ea ec met d thr w' := ⟨h.1, bbut_trans hb h.2.1, h.2.2⟩

set_option maxRecDepth 100000 in
set_option maxHeartbeats 4000000 in
theorem meet_k (ls : List DRanking) (w : World) (g Bm : Nat) (a : Option Addr) (n c : Nat) (ea : Option Addr) (ec : Nat) (ma : Option Addr) (mc : Nat) (met : List DScored) (d : Nat) (thr i : Int) (hf : SrFix w g Bm ls a n c ea ec) (hs : SrAt w g Bm a n c ea ec ma mc met d thr) (hok : SumOk ls) (hm : met.length ≤ 2 ^ 20) (hmk : ∀ x ∈ met, IntOk x.1 ∧ IntOk x.2) (hpos : ∀ x ∈ met, 1 ≤ x.2) :
    Calls Try.prog 99 #[.pointer (some ⟨g, 0, none⟩), .int .i64 i] w fun e w' => e = .returned (.tuple #[]) ∧ SrTo w g Bm ls a n c ea ec (meetL met (i, sumL ls i)) d thr w' := by
  obtain ⟨m, hmm⟩ : ∃ m, m = met.length := ⟨_, rfl⟩
  have HM : Hid (m = met.length) := hmm
  have X0 := hs.c0
  have X2 := hs.c2
  rw [← hmm] at X2
  have m20 : m ≤ 2 ^ 20 := by omega
  have HF : Hid (SrFix w g Bm ls a n c ea ec) := hf
  have HS : Hid (SrAt w g Bm a n c ea ec ma mc met d thr) := hs
  have HOK : Hid (SumOk ls) := hok
  have HR : Hid ((kRow kScored).is false w (fun k => Bm ≤ k) [.slice ma m mc] met) := by show (kRow kScored).is _ _ _ _ _; rw [hmm]; exact Kd.read _ (own_scs hs.own (by omega) hmk)
  have hgB : g < Bm := hs.lt
  have hBw : Bm ≤ w.heap.size := hf.lt
  have HP : Hid (∀ x ∈ met, 1 ≤ x.2) := hpos
  clear hf hs hok hm hmk hmm hpos
  go_enter Try.func99, Try.ntmps99
  go_wp2_with fail
  refine (scoreIn_k met ma m mc _ i _ HR.out).mono ?_
  rintro e w1 ⟨rfl, hb1⟩
  have HB1 : Hid (Below w.heap.size w w1) := hb1
  have Y0 := cell_later hb1 X0
  have Y2 := cell_later hb1 X2
  clear hb1
  cases hno : noId met i with
  | false =>
    have HE : Hid (meetL met (i, sumL ls i) = met) := by show _ = _; unfold meetL; rw [if_neg (by rw [hno]; exact Bool.false_ne_true)]
    have hsc : (scoreL met i == 0) = false := by have := scoreL_yes met i HP.out hno; simp; omega
    clear hno
    generalize scoreL met i = sc at *
    go_wp2
    go_end0
    rw [HE.out]
    have hbb : BelowBut Bm g w w1 := below_but HB1.out hBw
    exact ⟨rfl, HF.out.keep hbb, hbb, ma, mc, HS.out.below HB1.out⟩
  | true =>
    have HE : Hid (meetL met (i, sumL ls i) = met ++ [(i, sumL ls i)]) := by show _ = _; unfold meetL; rw [if_pos hno]
    have hsc : scoreL met i = 0 := scoreL_no met i hno
    rw [hsc]
    have HF1 : Hid (SrFix w1 g Bm ls a n c ea ec) := HF.out.keep (below_but HB1.out hBw)
    have HS1 : Hid (SrAt w1 g Bm a n c ea ec ma mc met d thr) := HS.out.below HB1.out
    obtain ⟨sm, hsm⟩ : ∃ sm, sm = sumL ls i := ⟨_, rfl⟩
    have HSM : Hid (sm = sumL ls i) := hsm
    have HCALL : Hid (∀ W, Below w1.heap.size w1 W → Calls Try.prog 63 #[.slice a n c, .int .i64 i] W fun e w' => e = .returned (.int .i64 sm) ∧ Below W.heap.size W w') := fun W hW => by rw [hsm]; exact sumIn_k ls a n c _ i W (Kd.below HF1.out.lists hW) HOK.out
    have HO1 : Hid (OwnL scC 88 2 w1 Bm (.slice ma m mc) met) := by show OwnL _ _ _ _ _ _ _; rw [HM.out]; exact HS1.out.own
    have z1 : Bm ≤ w1.heap.size := HF1.out.lt
    have hg1 : g < w1.heap.size := by omega
    have FZ : Hid (w1.frozen? ⟨g, 2, none⟩ = false) := HS1.out.fz 2 (by decide)
    have HDR : Hid (Below w1.heap.size w1 w1.drew) := (Below.refl _ _).drew
    clear hno hsc hsm X0 X2
    go_wp2_with fail
    go_region_law (first
      | (go_simp; go_at_call 63; refine (HCALL.out _ HDR.out).mono ?_; rintro e w2 ⟨rfl, hb2⟩; have HB2 : Hid (Below w1.heap.size w1 w2) := HDR.out.trans hb2; have z2 : w1.heap.size ≤ w2.heap.size := hb2.size; have V2 := cell_later HB2.out Y2; have V3 := cell_later (below_a1r w2 (.cells #[.int .i64 i, .int .i64 sm] 88)) V2; clear hb2)
      | (refine step_sc (by rfl) _ _ (by rfl) Bm _ met (by rfl) (OwnL.below HO1.out (HB2.out.trans ((below_a1r _ _).mono z2))) _ (i, sm) (by rfl) (by simp [go_sem]) (by simp [go_sem]) (by rw [← HM.out]; omega) (by simp; omega) ?_; intro g3 cap3 w3 ho3 hb3; have T2 : w3.cell? ⟨g, 2, none⟩ = some (.slice ma m mc) := (hb3.cell (p := ⟨g, 2, none⟩) hgB).trans (cell_later (HB2.out.trans ((below_a1r _ _).mono z2)) Y2); have T2f : w3.frozen? ⟨g, 2, none⟩ = false := (hb3.frozen (p := ⟨g, 2, none⟩) hgB).trans (((HB2.out.trans ((below_a1r _ _).mono z2)).frozen (p := ⟨g, 2, none⟩) hg1).trans FZ.out)))
    all_goals
      have HR3 : Hid (SrTo w1 g Bm ls a n c ea ec (met ++ [(i, sm)]) d thr (w3.setCell ⟨g, 2, none⟩ (.slice (some ⟨g3, 0, none⟩) (met.length + 1) cap3))) := SrAt.put HF1.out HS1.out (((HB2.out.trans ((below_a1r _ _).mono z2)).mono z1).trans hb3) (by simp) ho3
      clear ho3 hb3 T2 T2f
      go_wp2
      go_end0
      rw [HE.out, ← HSM.out]
      exact ⟨rfl, HR3.out.from (below_but HB1.out hBw)⟩
end Go.Proofs.Ytdaomklgcdfllaa
namespace Go.Proofs.Ytdaomklgcdfllaa
open Go.RowKit
set_option linter.unusedVariables false

def vC (v : Value) : List Value := [v]
/-- A row of rankings, made by append; each has memory of its own. -/
def RBld (w : World) (B : Nat) (v : Value) (L : List DRanking) : Prop :=
  ∃ (cs : List Value) (T : Nat → Nat → Prop), cs.length = L.length ∧ OwnL vC 86 1 w B v cs ∧
    (∀ i r, L[i]? = some r → ∃ cv, cs[i]? = some cv ∧ kRanking.is true w (T i) [cv] r) ∧
    (∀ i k, i < L.length → T i k → B ≤ k ∧ k < w.heap.size ∧ v.ownBlock ≠ some k) ∧ (∀ i j k, i < L.length → j < L.length → i ≠ j → T i k → ¬ T j k)
theorem RBld.nil (w : World) (B : Nat) : RBld w B (.slice none 0 0) [] := ⟨[], fun _ _ => False, rfl, OwnL.nil _ _ _ _ _, fun i r h => by simp at h, fun i k h => by simp at h, fun i j k h => by simp at h⟩
theorem RBld.form {w : World} {B : Nat} {v : Value} {L : List DRanking} (h : RBld w B v L) : ∃ a c, v = .slice a L.length c ∧ L.length ≤ c := by
  obtain ⟨cs, T, h1, h2, _⟩ := h
  obtain ⟨a, c, e, hc⟩ := h2.form
  exact ⟨a, c, by rw [e, h1], by omega⟩
theorem RBld.below {w w' : World} {B : Nat} {v : Value} {L : List DRanking} (h : RBld w B v L) (hb : Below w.heap.size w w') : RBld w' B v L := by
  obtain ⟨cs, T, h1, h2, h3, h4, h5⟩ := h
  refine ⟨cs, T, h1, h2.below hb, fun i r hr => ?_, fun i k hi hk => ?_, h5⟩
  · obtain ⟨cv, h6, h7⟩ := h3 i r hr
    exact ⟨cv, h6, Kd.below h7 hb⟩
  · obtain ⟨h6, h7, h8⟩ := h4 i k hi hk
    exact ⟨h6, Nat.lt_of_lt_of_le h7 hb.size, h8⟩
theorem infoRkA : (Try.prog.info? 86).map (fun i => (i.zero, i.size, i.bytes)) = some (some (.agg #[.slice none 0 0]), 1, 24) := by kernel_rfl
/-- What is left as it was where a row has grown. -/
theorem RBld.grew {w w' : World} {B : Nat} {v v' : Value} {L : List DRanking} {cs : List Value} {T : Nat → Nat → Prop} {r : DRanking} {cv : Value} {S : Nat → Prop} (h1 : cs.length = L.length)
    (h3 : ∀ i r, L[i]? = some r → ∃ cv, cs[i]? = some cv ∧ kRanking.is true w (T i) [cv] r) (h4 : ∀ i k, i < L.length → T i k → B ≤ k ∧ k < w.heap.size ∧ v.ownBlock ≠ some k) (h5 : ∀ i j k, i < L.length → j < L.length → i ≠ j → T i k → ¬ T j k)
    (hr : kRanking.is true w S [cv] r) (hS : ∀ k, S k → B ≤ k ∧ k < w.heap.size ∧ v.ownBlock ≠ some k) (hST : ∀ i k, i < L.length → T i k → ¬ S k) (ho : OwnL vC 86 1 w' B v' (cs ++ [cv])) (hg : GrewO w w' v v') : RBld w' B v' (L ++ [r]) := by
  have hz := hg.kept.size
  refine ⟨cs ++ [cv], fun i k => if i = L.length then S k else T i k, by simp [h1], ho, fun i q hq => ?_, fun i k hi hk => ?_, fun i j k hi hj hn hk hk' => ?_⟩
  · by_cases e : i = L.length
    · subst e
      obtain rfl : r = q := by simpa using hq
      refine ⟨cv, by rw [List.getElem?_append_right (by omega)]; simp [h1], ?_⟩
      simp only [if_pos]
      exact hg.datum hr (fun k hk => (hS k hk).2.2)
    · have hi : i < L.length := by have := (List.getElem?_eq_some_iff.1 hq).1; simp at this; omega
      rw [List.getElem?_append_left hi] at hq
      obtain ⟨c', h6, h7⟩ := h3 i q hq
      refine ⟨c', by rw [List.getElem?_append_left (by omega)]; exact h6, ?_⟩
      simp only [if_neg e]
      exact hg.datum h7 (fun k hk => (h4 i k hi hk).2.2)
  · have key : ∀ k, B ≤ k ∧ k < w.heap.size ∧ v.ownBlock ≠ some k → B ≤ k ∧ k < w'.heap.size ∧ v'.ownBlock ≠ some k := fun k ⟨a, b, c⟩ => ⟨a, by omega, fun e => by
      rcases hg.moved with h | ⟨g, h, hge⟩
      · exact c (h ▸ e)
      · rw [h] at e
        injection e with e
        omega⟩
    by_cases e : i = L.length
    · simp only [if_pos e] at hk
      exact key k (hS k hk)
    · simp only [if_neg e] at hk
      exact key k (h4 i k (by simp at hi; omega) hk)
  · simp only [List.length_append, List.length_singleton] at hi hj
    by_cases e : i = L.length
    · simp only [if_pos e] at hk
      simp only [if_neg (show ¬ j = L.length by omega)] at hk'
      exact hST j k (by omega) hk' hk
    · simp only [if_neg e] at hk
      by_cases e' : j = L.length
      · simp only [if_pos e'] at hk'
        exact hST i k (by omega) hk hk'
      · simp only [if_neg e'] at hk'
        exact h5 i j k (by omega) (by omega) hn hk hk'
/-- append(out, r) of rankings; what r has lies at B' and behind, what was there ahead of it. -/
theorem app_rk {w : World} {ops : Array Oper} {rest : List Oper} {o : Oper} {a : Act} {Q : Exit → Act → World → Prop} (hgd : o.guard = none) (s x : Operand)
    (ho : o.op = .call { callee := .builtin .append, args := #[s, x], argTypes := #[37, 37] })
    (B : Nat) (v : Value) (L : List DRanking) (hs : a.eval s = v) {w0 w1 : World} (hown : RBld w0 B v L) (hb : Below w0.heap.size w0 w1) (hb2 : Below w1.heap.size w1 w) (b : Nat) (cv : Value) (r : DRanking) (hx : a.eval x = .slice (some ⟨b, 0, none⟩) 1 1) (hcv : cv.oneCell' = true) (hc : w.cell? ⟨b, 0, none⟩ = some cv)
    (hr : kRanking.is true w1 (fun k => w0.heap.size ≤ k) [cv] r)
    (hL : L.length < 2 ^ 30) (hbase : B ≤ w0.heap.size)
    (h : ∀ v' w', RBld w' B v' (L ++ [r]) → Below B w w' → wpList Try.prog ops Q rest (a.put o.dst v') w') : wpList Try.prog ops Q (o :: rest) a w := by
  obtain ⟨i0, hi, hz0, hz1, hz2⟩ := info_parts infoRkA
  obtain ⟨cs, T, h1, h2, h3, h4, h5⟩ := hown
  have hbw := hb.trans (hb2.mono hb.size)
  have z0 := hb.size
  have z1 := hb2.size
  refine wpList_app1 vC hgd s x 37 ho B 86 i0 _ 1 24 Try.underlying37 hi hz0 hz1 hz2 rfl (by decide) (by decide) v cs hs (h2.below hbw) b cv hx rfl (fun u hu => by simp [vC] at hu; rw [hu]; exact hcv) (fun j u hj => by
    match j, hj with
    | 0, hj => obtain rfl : cv = u := by simpa [vC] using hj
               exact hc) (by omega) (by omega) fun v' w' ho' hb' hg' => h v' w' ?_ hb'
  refine RBld.grew (S := fun k => w0.heap.size ≤ k ∧ k < w1.heap.size) h1 (fun i q hq => ?_) (fun i k hik hk => ?_) h5 (Kd.below (Kd.tight _ hr (fun k hk h' => ⟨h', hk⟩)) hb2) (fun k hk => ?_) (fun i k hik hk hS => ?_) ho' hg'.o
  · obtain ⟨c', h6, h7⟩ := h3 i q hq
    exact ⟨c', h6, Kd.below h7 hbw⟩
  · obtain ⟨h6, h7, h8⟩ := h4 i k hik hk
    exact ⟨h6, by omega, h8⟩
  · exact ⟨by omega, by omega, fun e => by have := (World.ownsRow.lt h2 k e).2; omega⟩
  · have := (h4 i k hik hk).2.1
    omega
/-- A row that has grown is a row of one's own. -/
theorem RBld.row {w : World} {B : Nat} {a : Option Addr} {n c : Nat} {L : List DRanking} (h : RBld w B (.slice a n c) L) (hl : L.length ≤ 2 ^ 30) : (kRow kRanking).is true w (fun k => B ≤ k) [.slice a n c] L := by
  obtain ⟨a', c', e, hc'⟩ := h.form
  obtain ⟨rfl, rfl, rfl⟩ : a = a' ∧ n = L.length ∧ c = c' := by simpa using e
  obtain ⟨cs, T, h1, h2, h3, h4, h5⟩ := h
  have hcells := @World.ownsRow.cells _ _ _ _ _ _ _ h2
  refine ⟨a, c, rfl, by unfold maxLen; omega, fun _ => hc', ?_⟩
  obtain ⟨_, ⟨e2, e0⟩ | ⟨g, cap, cur, e, h6, h7, h8⟩⟩ := h2
  · exact .inl (List.eq_nil_of_length_eq_zero (by omega))
  · have ea : a = some ⟨g, 0, none⟩ := by injection e
    subst ea
    refine .inr ⟨g, 0, T, fun i => [(cs[i]?).getD undef], rfl, (Array.getElem?_eq_some_iff.1 h7).1, h6, fun i x hx => ?_, fun i k hi hk => (h4 i k hi hk).1, fun _ => ⟨fun i hi hk => (h4 i g hi hk).2.2 rfl, h5⟩⟩
    obtain ⟨cv, h9, h10⟩ := h3 i x hx
    simp only [h9, Option.getD_some]
    refine ⟨h10, fun j v hj => ?_⟩
    have hj0 : j = 0 := by have := (List.getElem?_eq_some_iff.1 hj).1; simp at this; omega
    subst hj0
    obtain rfl : cv = v := by simpa using hj
    have := hcells (g := g) rfl i cv (by
      have h11 := flat_get (cs := vC) (n := 1) (fun _ => rfl) cs i 0 cv h9 (by decide)
      simpa [vC] using h11)
    rw [show ((⟨g, 0, none⟩ : Addr).add i) = ⟨g, 0 + i * kRanking.wd + 0, none⟩ by show _ = (⟨g, 0 + i * 1 + 0, none⟩ : Addr); unfold Addr.add; split <;> simp_all] at this
    exact ⟨this, fun _ => by simp [World.frozen?, h7]⟩
end Go.Proofs.Ytdaomklgcdfllaa
namespace Go.Proofs.Ytdaomklgcdfllaa
open Go.RowKit
set_option linter.unusedVariables false

theorem srt_rkOf {t : Int} {l : List DPosting} (h : PostW t l) : srtL (scOf t l.length l) = rkOf t l :=
  srt_perm (srtL_srt (scOf_once t l.length h.once)) (rkOf_srt t l) ((srtL_perm _).trans (rkOf_perm h).symm)
theorem scOf_take {t : Int} {n : Nat} {l : List DPosting} {k : Nat} {p : DPosting} (h : l[k]? = some p) : (scOf t n l).take (k + 1) = (scOf t n l).take k ++ [(p.1, p.2 * (t - n + 1))] := by
  unfold scOf
  rw [List.take_add_one, List.getElem?_map, h]
  rfl
/-- What a word's ranking is. -/
def RRk (t : Int) (l : List DPosting) (w : World) (e : Ending) (w' : World) : Prop := ∃ (a : Option Addr) (n c : Nat), e = .returned (.agg #[.slice a n c]) ∧ (kRow kScored).is true w' (fun k => w.heap.size ≤ k) [.slice a n c] (rkOf t l) ∧ Below w.heap.size w w'
structure RoAt (W0 w : World) (s B : Nat) (oa : Option Addr) (k oc : Nat) (L : List DScored) : Prop where
  c0 : w.cell? ⟨s, 0, none⟩ = some (.slice oa k oc)
  fz : w.frozen? ⟨s, 0, none⟩ = false
  own : OwnL scC 88 2 w B (.slice oa k oc) L
  bb : BelowBut B s W0 w
  lt : s < B
  le : B ≤ w.heap.size
theorem RoAt.put {W0 w w3 : World} {s B : Nat} {oa : Option Addr} {k oc : Nat} {L : List DScored} (h : RoAt W0 w s B oa k oc L) (hb : Below B w w3) {oa' : Option Addr} {k' oc' : Nat} {L' : List DScored} (ho : OwnL scC 88 2 w3 B (.slice oa' k' oc') L') : RoAt W0 (w3.setCell ⟨s, 0, none⟩ (.slice oa' k' oc')) s B oa' k' oc' L' := by
  refine ⟨set_same ((hb.cell (p := ⟨s, 0, none⟩) h.lt).trans h.c0), ?_, OwnL.set ho h.lt, set_bbut (bbut_trans h.bb (below_bbut hb)), h.lt, by have := h.le; have := hb.size; simp; omega⟩
  rw [World.frozen?_setCell, hb.frozen (p := ⟨s, 0, none⟩) h.lt]
  exact h.fz

set_option maxRecDepth 100000 in
set_option maxHeartbeats 4000000 in
theorem rankingOf_k (l : List DPosting) (a : Option Addr) (n c : Nat) (S : Nat → Prop) (t : Int) (w : World) (h : (kRow kPosting).is false w S [.slice a n c] l) (hp : PostW t l) (h0 : 0 ≤ t) (h40 : t ≤ 40) :
    Calls Try.prog 80 #[.slice a n c, .int .i64 t] w (RRk t l w) := by
  have hnl := row_len h
  have hn40 : (n : Int) ≤ t := by rw [hnl]; exact hp.len h0
  have HNL : Hid (n = l.length) := hnl
  have H : Hid ((kRow kPosting).is false w S [.slice a n c] l) := h
  have HP : Hid (PostW t l) := hp
  clear h hnl hp
  go_enter Try.func80, Try.ntmps80
  go_wp2_with fail
  obtain ⟨W0, hW0⟩ : ∃ W0, W0 = (w.alloc (.cells #[.slice none 0 0] 86)).alloc (.cells #[.slice none 0 0] 86) := ⟨_, rfl⟩
  rw [← hW0]
  have hz0 : W0.heap.size = w.heap.size + 1 + 1 := by rw [hW0]; simp
  have HB0 : Hid (Below w.heap.size w W0) := by rw [hW0]; exact below_a2r _ _ _
  have HRO : Hid (RoAt W0 W0 (w.heap.size + 1) W0.heap.size none 0 0 []) := by
    refine ⟨?_, ?_, OwnL.nil _ _ _ _ _, bbut_refl _ _ _, by omega, Nat.le_refl _⟩
    all_goals (rw [hW0]; simp [go_sem])
  have HRS : Hid (W0.cell? ⟨w.heap.size, 0, none⟩ = some (.slice none 0 0) ∧ W0.frozen? ⟨w.heap.size, 0, none⟩ = false) := by
    refine ⟨?_, by rw [hW0]; simp [go_sem]⟩
    rw [hW0, World.cell?_alloc_old _ _ _ (by show w.heap.size ≠ _; simp), World.cell?_alloc_new]
    rfl
  clear hW0 hz0
  go_loopw [10] (fun iv wr => ∃ (k : Nat) (oa : Option Addr) (oc : Nat), k ≤ n ∧ iv = .int .i64 k ∧ Hid (RoAt W0 wr (w.heap.size + 1) W0.heap.size oa k oc ((scOf t n l).take k))) (fun iv _ => n - (intOf iv).toNat)
  case atStart => exact ⟨0, none, 0, Nat.zero_le _, rfl, HRO⟩
  case round =>
    obtain ⟨k, oa, oc, hk, rfl, HS⟩ := hrel
    have hwz : W0.heap.size ≤ wr.heap.size := HS.out.le
    have hsB : w.heap.size + 1 < W0.heap.size := HS.out.lt
    have HBR : Hid (Below w.heap.size w wr) := HB0.out.trans ⟨HS.out.bb.os, HS.out.bb.tape, HS.out.bb.output, HS.out.bb.size, fun q hq => HS.out.bb.block q (by omega) (by omega)⟩
    have C0 := HS.out.c0
    have C0f := HS.out.fz
    by_cases hlt : k < n
    · obtain ⟨⟨i, m⟩, hx⟩ : ∃ x, l[k]? = some x := ⟨_, List.getElem?_eq_getElem (by rw [← HNL.out]; exact hlt)⟩
      obtain ⟨b, off, B, C, rfl, hb, _, hi, _, hc⟩ := row_at (Kd.below H.out HBR.out) hx
      obtain ⟨rfl, g0, g1⟩ := kPosting_open hi
      have A0 : wr.cell? ⟨b, off + k * 2, none⟩ = some (.int .i64 i) := (hc 0 _ rfl).1
      have A1 : wr.cell? ⟨b, off + k * 2 + 1, none⟩ = some (.int .i64 m) := (hc 1 _ rfl).1
      have i0 : (0 : Int) ≤ (k : Int) := by omega
      have i1 : (k : Int) < (n : Int) := by omega
      obtain ⟨hi1, hm1, hm2⟩ := HP.out.at (List.mem_of_getElem? hx)
      simp only at hi1 hm1 hm2
      obtain ⟨y1, y2⟩ := sc_bnd hm1 hm2 (b := t - n + 1) (by omega) (by omega)
      obtain ⟨f, hf⟩ : ∃ f, f = t - (n : Int) + 1 := ⟨_, rfl⟩
      have hfe : t - (n : Int) + 1 = f := hf.symm
      obtain ⟨y, hy⟩ : ∃ y, y = m * f := ⟨_, rfl⟩
      have hye : m * f = y := hy.symm
      rw [← hf, ← hy] at y1 y2
      have HTK : Hid ((scOf t n l).take (k + 1) = (scOf t n l).take k ++ [(i, y)]) := by show _ = _; rw [scOf_take hx, hy, hf]
      have HLK : Hid (((scOf t n l).take k).length = k) := by show _ = _; rw [List.length_take]; unfold scOf; rw [List.length_map, ← HNL.out]; omega
      have G0 := cell_later (below_a1r wr (.cells #[.int .i64 i, .int .i64 m] 76)) C0
      have f1 : f ≤ 41 := by omega
      have f2 : 1 ≤ f := by omega
      clear hc hi hx hf hy
      go_wp2_with (at_builtin; go_loud (refine app_sc rfl _ _ rfl W0.heap.size _ ((scOf t n l).take k) rfl (OwnL.below HS.out.own (below_a2r _ _ _)) _ (i, y) rfl (by simp [go_sem]) (by simp [go_sem]) (by rw [HLK.out]; omega) (by simp; omega) ?_))
      intro v3 w3 ho3 hb3 _
      obtain ⟨a3, c3, rfl, _⟩ := ho3.form
      rw [List.length_append, HLK.out] at ho3 ⊢
      have HB3 : Hid (Below W0.heap.size wr w3) := ((below_a2r wr _ _).mono hwz).trans hb3
      have HS3 : Hid (RoAt W0 (w3.setCell ⟨w.heap.size + 1, 0, none⟩ (.slice a3 (k + 1) c3)) (w.heap.size + 1) W0.heap.size a3 (k + 1) c3 ((scOf t n l).take (k + 1))) := by rw [HTK.out]; exact HS.out.put HB3.out ho3
      have K1 : w3.cell? ⟨w.heap.size + 1, 0, none⟩ = some (.slice oa k oc) := (HB3.out.cell (p := ⟨w.heap.size + 1, 0, none⟩) hsB).trans C0
      have K1f : w3.frozen? ⟨w.heap.size + 1, 0, none⟩ = false := (HB3.out.frozen (p := ⟨w.heap.size + 1, 0, none⟩) hsB).trans C0f
      clear ho3 hb3 G0
      go_wp2
      go_roundw
      case rel => exact ⟨k + 1, a3, c3, by omega, by go_num, HS3⟩
      case measure => simp [intOf]; omega
    · have i1 : ¬ (k : Int) < (n : Int) := by omega
      obtain rfl : k = n := by omega
      have hfull : (scOf t k l).take k = scOf t l.length l := by rw [HNL.out, List.take_of_length_le (by unfold scOf; simp)]
      have hown := HS.out.own
      rw [hfull] at hown
      have HOW : Hid ((kRow kScored).is true wr (fun q => W0.heap.size ≤ q) [.slice oa k oc] (scOf t l.length l)) := own_scs hown (by unfold scOf; rw [List.length_map, ← HNL.out]; omega) (fun x hx => by have := scOf_ok HP.out h0 h40 x hx; unfold IntOk; omega)
      have R0 : wr.cell? ⟨w.heap.size, 0, none⟩ = some (.slice none 0 0) := (World.cell?_of_block (w := W0) (HS.out.bb.block w.heap.size (by omega) (by omega))).trans HRS.out.1
      have R0f : wr.frozen? ⟨w.heap.size, 0, none⟩ = false := (World.frozen?_of_block (w := W0) (HS.out.bb.block w.heap.size (by omega) (by omega))).trans HRS.out.2
      clear hfull hown
      go_wp2_with fail
      refine (sortSc_k (scOf t l.length l) oa k oc _ _ HOW.out (by unfold scOf; rw [List.length_map, ← HNL.out]; omega)).mono ?_
      rintro e w4 ⟨rfl, hr4, hk4⟩
      have HB4 : Hid (Below W0.heap.size wr w4) := hk4.below hwz (fun q hq h => by have h' : W0.heap.size ≤ q := h; omega)
      have HR4 : Hid ((kRow kScored).is true w4 (fun q => W0.heap.size ≤ q) [.slice oa k oc] (rkOf t l)) := by rw [← srt_rkOf HP.out]; exact hr4
      have hwlt : w.heap.size < W0.heap.size := by omega
      have Q0 : w4.cell? ⟨w.heap.size + 1, 0, none⟩ = some (.slice oa k oc) := (HB4.out.cell (p := ⟨w.heap.size + 1, 0, none⟩) hsB).trans C0
      have Q1 : w4.cell? ⟨w.heap.size, 0, none⟩ = some (.slice none 0 0) := (HB4.out.cell (p := ⟨w.heap.size, 0, none⟩) hwlt).trans R0
      have Q1f : w4.frozen? ⟨w.heap.size, 0, none⟩ = false := (HB4.out.frozen (p := ⟨w.heap.size, 0, none⟩) hwlt).trans R0f
      have HBW : Hid (Below w.heap.size w w4) := HBR.out.trans (HB4.out.mono (by omega))
      clear hr4 hk4
      go_wp2
      refine bodyPost_ret (v := .agg #[.slice oa k oc]) (by simp [results, Try.results80, go_sem, Q1]) rfl ?_
      refine ⟨oa, k, oc, rfl, ?_, ⟨HBW.out.os, HBW.out.tape, HBW.out.output, by simpa using HBW.out.size, fun q hq => (heap_set_ne (by omega)).trans (HBW.out.block q hq)⟩⟩
      refine Kd.mono (Kd.kept (S' := fun q => q = w.heap.size) HR4.out ⟨rfl, rfl, rfl, by simp, fun q hq hn => heap_set_ne hn⟩ (fun q _ h h' => by have h1 : W0.heap.size ≤ q := h; have h2 : q = w.heap.size := h'; omega)) (fun q hq => by have h1 : W0.heap.size ≤ q := hq; show w.heap.size ≤ q; omega)
end Go.Proofs.Ytdaomklgcdfllaa
