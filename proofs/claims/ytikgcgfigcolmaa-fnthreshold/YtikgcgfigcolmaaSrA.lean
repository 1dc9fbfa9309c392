/- A search through lists, in memory; an entry at a depth; whether all lists have ended; how many are above. No condition but that they fit in memory. -/
import Derived.Test.YtikgcgfigcolmaaRsS
import Derived.Test.YtikgcgfigcolmaaRpS
namespace Go.Proofs.Ytikgcgfigcolmaa
open Go.RowKit
set_option linter.unusedVariables false

set_option maxRecDepth 100000 in
set_option maxHeartbeats 1000000 in
theorem entryAt_yes (r : List DScored) (la : Option Addr) (m lc : Nat) (T : Nat → Prop) (d : Nat) (i s : Int) (w : World) (h : (kRow kScored).is false w T [.slice la m lc] r) (hd : r[d]? = some (i, s)) :
    Calls Try.prog 96 #[.agg #[.slice la m lc], .int .i64 d] w fun e w' => e = .returned (.tuple #[.agg #[.int .i64 i, .int .i64 s], .bool true]) ∧ Below w.heap.size w w' := by
  have hm := row_len h
  have hdl := (List.getElem?_eq_some_iff.1 hd).1
  have hmx : m ≤ 9223372036854775807 := by obtain ⟨_, _, _, h, _⟩ := row_form h; rw [hm]; exact h
  obtain ⟨b, off, B, C, rfl, hb, _, hi, _, hc⟩ := row_at h hd
  obtain ⟨rfl, g0, g1⟩ := kScored_open hi
  have A0 : w.cell? ⟨b, off + d * 2, none⟩ = some (.int .i64 i) := (hc 0 _ rfl).1
  have A1 : w.cell? ⟨b, off + d * 2 + 1, none⟩ = some (.int .i64 s) := (hc 1 _ rfl).1
  have i0 : (0 : Int) ≤ (d : Int) := by omega
  have i1 : (d : Int) < (m : Int) := by omega
  have i2 : ¬ (m : Int) ≤ (d : Int) := by omega
  clear hc hi hd h hm hdl
  go_enter Try.func96, Try.ntmps96
  go_wp2
  refine bodyPost_ret (v := .tuple #[.agg #[.int .i64 i, .int .i64 s], .bool true]) (by simp [results, Try.results96, go_sem]) rfl ?_
  exact ⟨rfl, by go_grown⟩

set_option maxRecDepth 100000 in
set_option maxHeartbeats 1000000 in
theorem entryAt_no (la : Option Addr) (m lc : Nat) (d : Nat) (w : World) (hd : m ≤ d) :
    Calls Try.prog 96 #[.agg #[.slice la m lc], .int .i64 d] w fun e w' => e = .returned (.tuple #[.agg #[.int .i64 0, .int .i64 0], .bool false]) ∧ Below w.heap.size w w' := by
  have i2 : (m : Int) ≤ (d : Int) := by omega
  go_enter Try.func96, Try.ntmps96
  go_wp2
  refine bodyPost_ret (v := .tuple #[.agg #[.int .i64 0, .int .i64 0], .bool false]) (by simp [results, Try.results96, go_sem]) rfl ?_
  exact ⟨rfl, by go_grown⟩

/-- What of a search stays as it is: its lists and the functions that read them. -/
structure SrFix (w : World) (g Bm : Nat) (ls : List DRanking) (a : Option Addr) (n c : Nat) (ea : Option Addr) (ec : Nat) : Prop where
  lists : (kRow kRanking).is false w (fun k => k < Bm ∧ k ≠ g) [.slice a n c] ls
  fns : ls = [] ∨ ∃ eb, ea = some ⟨eb, 0, none⟩ ∧ eb < Bm ∧ eb ≠ g ∧ ∀ i r, ls[i]? = some r → ∃ la lc, w.cell? ⟨eb, i, none⟩ = some (.func (.func 96) #[.agg #[.slice la r.length lc]] #[]) ∧ (kRow kScored).is false w (fun k => k < Bm ∧ k ≠ g) [.slice la r.length lc] r
  lt : Bm ≤ w.heap.size
theorem SrFix.keep {w w' : World} {g Bm : Nat} {ls : List DRanking} {a : Option Addr} {n c : Nat} {ea : Option Addr} {ec : Nat} (h : SrFix w g Bm ls a n c ea ec) (hb : BelowBut Bm g w w') : SrFix w' g Bm ls a n c ea ec := by
  obtain ⟨h1, h2, h3⟩ := h
  have hk : ∀ k, k < w.heap.size → (k < Bm ∧ k ≠ g) → w'.heap[k]? = w.heap[k]? := fun k _ h' => hb.block k h'.1 h'.2
  refine ⟨Kd.keep _ h1 hb.size hk, ?_, Nat.le_trans h3 hb.size⟩
  rcases h2 with h2 | ⟨eb, rfl, h4, h5, h6⟩
  · exact .inl h2
  · refine .inr ⟨eb, rfl, h4, h5, fun i r hr => ?_⟩
    obtain ⟨la, lc, h7, h8⟩ := h6 i r hr
    exact ⟨la, lc, by rw [World.cell?_of_block (w := w) (hb.block eb h4 h5)]; exact h7, Kd.keep _ h8 hb.size hk⟩
theorem below_but {B g : Nat} {w w' : World} (h : Below w.heap.size w w') (hB : B ≤ w.heap.size) : BelowBut B g w w' := ⟨h.os, h.tape, h.output, h.size, fun k hk _ => h.block k (by omega)⟩
theorem bbut_trans {B g : Nat} {w w' w'' : World} (h : BelowBut B g w w') (k : BelowBut B g w' w'') : BelowBut B g w w'' :=
  ⟨k.os.trans h.os, k.tape.trans h.tape, k.output.trans h.output, Nat.le_trans h.size k.size, fun i hi hn => (k.block i hi hn).trans (h.block i hi hn)⟩
theorem bbut_refl (B g : Nat) (w : World) : BelowBut B g w w := ⟨rfl, rfl, rfl, Nat.le_refl _, fun _ _ _ => rfl⟩
/-- A search's own cells. -/
structure SrAt (w : World) (g Bm : Nat) (a : Option Addr) (n c : Nat) (ea : Option Addr) (ec : Nat) (ma : Option Addr) (mc : Nat) (met : List DScored) (d : Nat) (thr : Int) : Prop where
  c0 : w.cell? ⟨g, 0, none⟩ = some (.slice a n c)
  c1 : w.cell? ⟨g, 1, none⟩ = some (.slice ea n ec)
  c2 : w.cell? ⟨g, 2, none⟩ = some (.slice ma met.length mc)
  c3 : w.cell? ⟨g, 3, none⟩ = some (.int .i64 d)
  c4 : w.cell? ⟨g, 4, none⟩ = some (.int .i64 thr)
  fz : ∀ o, o < 5 → w.frozen? ⟨g, o, none⟩ = false
  own : OwnL scC 60 2 w Bm (.slice ma met.length mc) met
  lt : g < Bm
theorem SrAt.below {w w' : World} {g Bm : Nat} {a : Option Addr} {n c : Nat} {ea : Option Addr} {ec : Nat} {ma : Option Addr} {mc : Nat} {met : List DScored} {d : Nat} {thr : Int} (h : SrAt w g Bm a n c ea ec ma mc met d thr) (hb : Below w.heap.size w w') : SrAt w' g Bm a n c ea ec ma mc met d thr := by
  obtain ⟨h0, h1, h2, h3, h4, h5, h6, h7⟩ := h
  have hg := World.block_lt_of_cell? _ _ h0
  exact ⟨cell_later hb h0, cell_later hb h1, cell_later hb h2, cell_later hb h3, cell_later hb h4, fun o ho => (hb.frozen (p := ⟨g, o, none⟩) hg).trans (h5 o ho), OwnL.below h6 hb, h7⟩
theorem atDp_drop_nil {ls : List DRanking} {d : Nat} (h : ∀ r ∈ ls, r.length ≤ d) : atDp ls d = [] := atDp_none h

set_option maxRecDepth 100000 in
set_option maxHeartbeats 2000000 in
theorem hasEnded_k (ls : List DRanking) (w : World) (g Bm : Nat) (a : Option Addr) (n c : Nat) (ea : Option Addr) (ec : Nat) (ma : Option Addr) (mc : Nat) (met : List DScored) (d : Nat) (thr : Int) (hf : SrFix w g Bm ls a n c ea ec) (hs : SrAt w g Bm a n c ea ec ma mc met d thr) :
    Calls Try.prog 64 #[.pointer (some ⟨g, 0, none⟩)] w fun e w' => e = .returned (.bool (decide (atDp ls d = []))) ∧ Below w.heap.size w w' := by
  have hn := row_len hf.lists
  have hmx : n ≤ 9223372036854775807 := by obtain ⟨_, _, _, h, _⟩ := row_form hf.lists; rw [hn]; exact h
  have HN : Hid (n = ls.length) := hn
  have HF : Hid (SrFix w g Bm ls a n c ea ec) := hf
  have X1 := hs.c1
  have X3 := hs.c3
  clear hf hs hn
  go_enter Try.func64, Try.ntmps64
  go_wp2_with fail
  go_loopw [12] (fun iv wr => ∃ (k : Nat), k ≤ n ∧ iv = .int .i64 k ∧ Hid (∀ r ∈ ls.take k, r.length ≤ d) ∧ Below w.heap.size w wr) (fun iv _ => n - (intOf iv).toNat)
  case atStart => exact ⟨0, Nat.zero_le _, rfl, fun r hr => by simp at hr, Below.refl _ _⟩
  case round =>
    obtain ⟨k, hk, rfl, HI, hnx⟩ := hrel
    have zw := hnx.size
    have Y1 := cell_later hnx X1
    have Y3 := cell_later hnx X3
    by_cases hlt : k < n
    · obtain ⟨r, hr⟩ : ∃ r, ls[k]? = some r := ⟨_, List.getElem?_eq_getElem (by rw [← HN.out]; exact hlt)⟩
      have hf2 := HF.out.keep (below_but hnx HF.out.lt)
      obtain ⟨eb, rfl, h4, h5, h6⟩ : ∃ eb, ea = some ⟨eb, 0, none⟩ ∧ eb < Bm ∧ eb ≠ g ∧ ∀ i r, ls[i]? = some r → ∃ la lc, wr.cell? ⟨eb, i, none⟩ = some (.func (.func 96) #[.agg #[.slice la r.length lc]] #[]) ∧ (kRow kScored).is false wr (fun k => k < Bm ∧ k ≠ g) [.slice la r.length lc] r := by
        rcases hf2.fns with e | h
        · rw [e] at hr; simp at hr
        · exact h
      obtain ⟨la, lc, A0, hrow⟩ := h6 k r hr
      have HROW : Hid ((kRow kScored).is false wr (fun k => k < Bm ∧ k ≠ g) [.slice la r.length lc] r) := hrow
      have i0 : (0 : Int) ≤ (k : Int) := by omega
      have i1 : (k : Int) < (n : Int) := by omega
      have HR : Hid (ls[k]? = some r) := hr
      have HBX : Hid (Below w.heap.size w wr) := hnx
      clear hf2 h4 h5 h6 hrow hr hnx
      obtain ⟨m, hm⟩ : ∃ m, m = r.length := ⟨_, rfl⟩
      have HM : Hid (m = r.length) := hm
      rw [← hm] at A0 HROW
      clear hm
      by_cases hd : m ≤ d
      · go_wp2_with fail
        refine (entryAt_no la m lc d _ hd).mono ?_
        rintro e w1 ⟨rfl, hb1⟩
        have HB1 : Hid (Below w.heap.size w w1) := HBX.out.trans (hb1.mono zw)
        have z1 : wr.heap.size ≤ w1.heap.size := hb1.size
        have HI2 : Hid (∀ r ∈ ls.take (k + 1), r.length ≤ d) := by
          intro q hq
          rw [List.take_add_one, HR.out] at hq
          rcases List.mem_append.1 hq with h | h
          · exact HI.out q h
          · obtain rfl : q = r := by simpa using h
            rw [← HM.out]; exact hd
        clear hb1
        go_wp2
        go_roundw
        case rel => exact ⟨k + 1, by omega, by go_num, HI2, HB1.out.alloc (by omega) _⟩
        case measure => simp [intOf]; omega
      · obtain ⟨⟨i, s⟩, hx⟩ : ∃ x, r[d]? = some x := ⟨_, List.getElem?_eq_getElem (by rw [← HM.out]; omega)⟩
        have HF2 : Hid (decide (atDp ls d = []) = false) := by
          refine decide_eq_false fun e => ?_
          have := atDp_nil_iff.1 e r (List.mem_of_getElem? HR.out)
          rw [← HM.out] at this
          exact hd this
        go_wp2_with fail
        refine (entryAt_yes r la m lc _ d i s _ HROW.out hx).mono ?_
        rintro e w1 ⟨rfl, hb1⟩
        have HB1 : Hid (Below w.heap.size w w1) := HBX.out.trans (hb1.mono zw)
        clear hb1 hx
        go_wp2
        go_ret
        exact ⟨by rw [HF2.out]; rfl, HB1.out.alloc HB1.out.size _⟩
    · have HF2 : Hid (decide (atDp ls d = []) = true) := by
        refine decide_eq_true (atDp_none fun r hr => HI.out r ?_)
        rw [List.take_of_length_le (by rw [← HN.out]; omega)]
        exact hr
      go_wp2
      go_ret
      exact ⟨by rw [HF2.out]; rfl, hnx⟩
end Go.Proofs.Ytikgcgfigcolmaa
