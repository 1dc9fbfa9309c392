/- The best of several lists, by going through all: the program's. No condition but that they fit in memory. -/
import Derived.Test.YtikgcgfigcolmaaSrE
import Derived.Test.YtikgcgfigcolmaaSrF
namespace Go.Proofs.Ytikgcgfigcolmaa
open Go.RowKit
set_option linter.unusedVariables false

theorem atDp_len (ls : List DRanking) (d : Nat) : (atDp ls d).length ≤ ls.length := List.length_filterMap_le _ _
theorem idsTo_len (ls : List DRanking) : ∀ d, (idsTo ls d).length ≤ ls.length * d
  | 0 => by simp [idsTo]
  | d + 1 => by
    have := idsTo_len ls d
    have h2 := atDp_len ls d
    rw [idsTo, List.length_append, Nat.mul_add]
    unfold idsAt
    rw [List.length_map]
    omega
theorem metD_len (ls : List DRanking) (d : Nat) (h5 : ls.length ≤ 5) (hd : d ≤ 60) : (metD ls d).length ≤ 300 := by
  have h1 := meetIds_length (f := sumL ls) (idsTo ls d) []
  have h2 := idsTo_len ls d
  have h3 := Nat.mul_le_mul h5 hd
  unfold metD
  simp at h1
  omega
theorem idsTo_in {ls : List DRanking} {d : Nat} : ∀ i ∈ idsTo ls d, i ∈ idsAll ls := fun i hi => by
  obtain ⟨r, hr, e, x, _, hx, h⟩ := (idsTo_mem d).1 hi
  exact idsAll_mem.2 ⟨r, hr, x, List.mem_of_getElem? hx, h⟩
theorem metD_ok (ls : List DRanking) (d : Nat) : MetOk ls (metD ls d) := MetOk.meets _ ⟨fun x hx => by simp at hx, fun x hx => by simp at hx⟩ idsTo_in
theorem metD_once (ls : List DRanking) (d : Nat) : NoTwice (metD ls d) := meetIds_once _ _ List.Pairwise.nil
theorem srt_metD (ls : List DRanking) (d : Nat) : srtL (metD ls d) = outD ls d := srt_perm (srtL_srt (metD_once ls d)) (outD_srt ls d) ((srtL_perm _).trans (metD_perm ls d))
theorem below_of_bbut {B g : Nat} {w w' : World} (h : BelowBut B g w w') (hg : g ≤ B) : Below g w w' := ⟨h.os, h.tape, h.output, h.size, fun k hk => h.block k (by omega) (by omega)⟩
theorem cnt_scs (l : List DScored) : sums kScored.cnt l = l.length * 2 := sums_const 2 l

set_option maxHeartbeats 400000 in
theorem isManyBest_k (x : Int) (w : World) : Calls Try.prog 61 #[.int .i64 x] w fun e w' => e = .returned (.bool (decide (0 ≤ x ∧ x ≤ 60))) ∧ w' = w := by
  by_cases h1 : 0 ≤ x
  · by_cases h2 : x ≤ 60
    · go_enter Try.func61, Try.ntmps61
      go_wp2
      go_ret
      exact ⟨by rw [decide_eq_true (by omega)]; rfl, rfl⟩
    · go_enter Try.func61, Try.ntmps61
      go_wp2
      go_ret
      exact ⟨by rw [decide_eq_false (by omega)]; rfl, rfl⟩
  · go_enter Try.func61, Try.ntmps61
    go_wp2
    go_ret
    exact ⟨by rw [decide_eq_false (by omega)]; rfl, rfl⟩

/-- A search that is begun, in a block of its own. -/
theorem search_at {ls : List DRanking} {a : Option Addr} {n c : Nat} {w w3 : World} {ea : Option Addr} {ec B : Nat} {L : List Value} (hr : (kRow kRanking).is false w (fun k => k < w.heap.size) [.slice a n c] ls) (hb : Below w.heap.size w w3) (hf : FnsOk w ls L) (hL : L.length = n) (hB : w.heap.size ≤ B) (ho : OwnL fnC 123 1 w3 B (.slice ea n ec) L) :
    SrFix (w3.alloc (.cells #[.slice a n c, .slice ea n ec, .slice none 0 0, .int .i64 0, .int .i64 0] 98)) w3.heap.size (w3.heap.size + 1) ls a n c ea ec ∧ SrAt (w3.alloc (.cells #[.slice a n c, .slice ea n ec, .slice none 0 0, .int .i64 0, .int .i64 0] 98)) w3.heap.size (w3.heap.size + 1) a n c ea ec none 0 [] 0 0 := by
  have hz := hb.size
  have hb4 := below_a1r w3 (.cells #[.slice a n c, .slice ea n ec, .slice none 0 0, .int .i64 0, .int .i64 0] 98)
  have hbw := hb.trans (hb4.mono hz)
  have hn := row_len hr
  refine ⟨⟨?_, ?_, by simp⟩, ⟨by simp [go_sem], by simp [go_sem], by simp [go_sem], by simp [go_sem], by simp [go_sem], fun o ho => by simp [go_sem], OwnL.nil _ _ _ _ _, by omega⟩⟩
  · exact Kd.mono (Kd.below hr hbw) (fun k hk => ⟨by omega, by omega⟩)
  · by_cases h0 : ls = []
    · exact .inl h0
    · right
      have hn0 : 0 < n := by rw [hn]; exact List.length_pos_iff.2 h0
      have hcells := @World.ownsRow.cells _ _ _ _ _ _ _ (OwnL.below ho hb4)
      obtain ⟨h1, ⟨e2, e0⟩ | ⟨g, cap, cur, e, h3, h4, h5⟩⟩ := ho
      · omega
      · have ea' : ea = some ⟨g, 0, none⟩ := by injection e
        subst ea'
        have hg := (Array.getElem?_eq_some_iff.1 h4).1
        refine ⟨g, rfl, by omega, by omega, fun i r hr' => ?_⟩
        have hi : i < L.length := by rw [hL, hn]; exact (List.getElem?_eq_some_iff.1 hr').1
        obtain ⟨r', la, lc, h6, h7, h8⟩ := hf.2 i L[i] (List.getElem?_eq_getElem hi)
        rw [hr'] at h6
        obtain rfl : r = r' := by injection h6
        refine ⟨la, lc, ?_, Kd.mono (Kd.below h8 hbw) (fun k hk => ⟨by omega, by omega⟩)⟩
        have := hcells (g := g) rfl i L[i] (by
          have h9 := flat_get (cs := fnC) (n := 1) (fun _ => rfl) L i 0 L[i] (List.getElem?_eq_getElem hi) (by decide)
          simpa [fnC] using h9)
        rw [show ((⟨g, 0, none⟩ : Addr).add i) = ⟨g, i, none⟩ by unfold Addr.add; split <;> simp_all] at this
        rw [this, h7]

/-- What AllBest answers. -/
def RAllBest (x0 : List DRanking) (x1 : Int) (w : World) (e : Ending) (w' : World) : Prop := ∃ (a0 : Option Addr) (n0 c0 : Nat) (T0 : Nat → Prop), e = .returned (.tuple #[.slice a0 n0 c0, .bool (fAllBest x0 x1).2]) ∧ (kRow kScored).is true w' T0 [.slice a0 n0 c0] (fAllBest x0 x1).1 ∧ (∀ k, T0 k → w.heap.size ≤ k) ∧ sums kScored.cnt (fAllBest x0 x1).1 ≤ 2 ^ 26 ∧ Below w.heap.size w w'
theorem RAllBest.no {x0 : List DRanking} {x1 : Int} {w w' : World} (h : (fGoodRankings x0 && decide (0 ≤ x1 ∧ x1 ≤ 60)) = false) (hb : Below w.heap.size w w') : RAllBest x0 x1 w (.returned (.tuple #[.slice none 0 0, .bool false])) w' := by
  unfold RAllBest fAllBest
  rw [if_neg (by rw [h]; exact Bool.false_ne_true)]
  exact ⟨none, 0, 0, fun _ => False, rfl, row_nil _ _ _ _ _ _, fun k hk => hk.elim, by simp [sums], hb⟩
theorem RAllBest.yes {x0 : List DRanking} {t : Nat} {w w' : World} (h : fGoodRankings x0 = true) (ht : t ≤ 60) {a : Option Addr} {n c B : Nat} (hr : (kRow kScored).is true w' (fun q => B ≤ q) [.slice a n c] ((allD x0).take t)) (hB : w.heap.size ≤ B) (hb : Below w.heap.size w w') : RAllBest x0 t w (.returned (.tuple #[.slice a n c, .bool true])) w' := by
  unfold RAllBest fAllBest
  rw [if_pos (by rw [h, decide_eq_true (by omega)]; rfl)]
  refine ⟨a, n, c, _, rfl, hr, fun k hk => Nat.le_trans hB hk, ?_, hb⟩
  rw [cnt_scs]
  show ((allD x0).take t).length * 2 ≤ _
  rw [List.length_take]
  omega
def depthOf (w : World) (g : Nat) : Nat := match w.cell? ⟨g, 3, none⟩ with | some v => (intOf v).toNat | none => 0

set_option maxRecDepth 100000 in
set_option maxHeartbeats 4000000 in
theorem implAllBest_k (x0 : List DRanking) (a0 : Option Addr) (n0 c0 : Nat) (S0 : Nat → Prop) (x1 : Int) (w : World) (h0 : (kRow kRanking).is true w S0 [.slice a0 n0 c0] x0) (z0 : (kRow kRanking).sz x0 ≤ 2 ^ 20) (h1 : IntOk x1) :
    Calls Try.prog 26 #[.slice a0 n0 c0, .int .i64 x1] w (RAllBest x0 x1 w) := by
  have H : Hid ((kRow kRanking).is true w S0 [.slice a0 n0 c0] x0) := h0
  have HZ : Hid ((kRow kRanking).sz x0 ≤ 2 ^ 20) := z0
  clear h0 z0 h1
  go_enter Try.func26, Try.ntmps26
  go_wp2_with fail
  refine (implGoodRankings_k x0 a0 n0 c0 S0 _ H.out HZ.out).mono ?_
  rintro e w1 ⟨rfl, hb1⟩
  have HB1 : Hid (Below w.heap.size w w1) := hb1
  clear hb1
  cases hg : fGoodRankings x0 with
  | false =>
    have HNO : Hid ((fGoodRankings x0 && decide (0 ≤ x1 ∧ x1 ≤ 60)) = false) := by show _ = _; rw [hg]; rfl
    clear hg
    go_wp2
    refine bodyPost_ret (v := .tuple #[.slice none 0 0, .bool false]) (by simp [results, Try.results26, go_sem]) rfl ?_
    exact RAllBest.no HNO.out HB1.out
  | true =>
    have HG : Hid (fGoodRankings x0 = true) := hg
    clear hg
    go_wp2_with fail
    refine (isManyBest_k x1 _).mono ?_
    rintro e w2 ⟨rfl, rfl⟩
    by_cases hk : 0 ≤ x1 ∧ x1 ≤ 60
    · rw [decide_eq_true hk]
      obtain ⟨t, rfl⟩ : ∃ t : Nat, x1 = t := ⟨x1.toNat, by omega⟩
      have ht : t ≤ 60 := by omega
      clear hk
      have h5 : x0.length ≤ 5 := (good_len HG.out).1
      have H5 : Hid (x0.length ≤ 5) := h5
      go_wp2_with fail
      refine (searchIn_k x0 a0 n0 c0 S0 _ (Kd.below (Kd.read _ H.out) HB1.out) h5).mono ?_
      rintro e w3 ⟨ea, ec, B, L, rfl, hb3, hfn, hL, hB, ho⟩
      obtain ⟨hf4, hs4⟩ := search_at (Kd.tight _ (Kd.below (Kd.read _ H.out) HB1.out) (fun k hk _ => hk)) hb3 hfn hL hB ho
      have HB3 : Hid (Below w.heap.size w w3) := HB1.out.trans (hb3.mono HB1.out.size)
      have z3 : w.heap.size ≤ w3.heap.size := HB3.out.size
      obtain ⟨W4, hW4⟩ : ∃ W4, W4 = w3.alloc (.cells #[.slice a0 n0 c0, .slice ea n0 ec, .slice none 0 0, .int .i64 0, .int .i64 0] 98) := ⟨_, rfl⟩
      rw [← hW4] at hf4 hs4
      have HST : Hid (SrTo W4 w3.heap.size (w3.heap.size + 1) x0 a0 n0 c0 ea ec (metD x0 0) 0 (thrB x0 0) W4) := ⟨hf4, bbut_refl _ _ _, none, 0, hs4⟩
      have HB4 : Hid (Below w.heap.size w W4) := by rw [hW4]; exact HB3.out.trans ((below_a1r _ _).mono z3)
      clear hb3 hfn hL hB ho hf4 hs4 h5
      go_wp2_with fail
      rw [← hW4]
      clear hW4
      go_loopw [17] (fun _ wr => ∃ (d : Nat), d ≤ 60 ∧ Hid (SrTo W4 w3.heap.size (w3.heap.size + 1) x0 a0 n0 c0 ea ec (metD x0 d) d (thrB x0 d) wr)) (fun _ wr => 60 - depthOf wr w3.heap.size)
      case atStart => exact ⟨0, by omega, HST⟩
      case round =>
        obtain ⟨d, hd, HS⟩ := hrel
        obtain ⟨hf5, hbb5, ma5, mc5, hs5⟩ := HS.out
        have HF5 : Hid (SrFix wr w3.heap.size (w3.heap.size + 1) x0 a0 n0 c0 ea ec) := hf5
        have HS5 : Hid (SrAt wr w3.heap.size (w3.heap.size + 1) a0 n0 c0 ea ec ma5 mc5 (metD x0 d) d (thrB x0 d)) := hs5
        have HBB5 : Hid (BelowBut (w3.heap.size + 1) w3.heap.size W4 wr) := hbb5
        have hD : depthOf wr w3.heap.size = d := by unfold depthOf; rw [hs5.c3]; simp [intOf]
        have HD : Hid (depthOf wr w3.heap.size = d) := hD
        clear hf5 hbb5 hs5 HS hD
        go_wp2_with fail
        refine (hasEnded_k x0 _ w3.heap.size (w3.heap.size + 1) a0 n0 c0 ea ec ma5 mc5 (metD x0 d) d (thrB x0 d) HF5.out HS5.out).mono ?_
        rintro e w6 ⟨rfl, hb6⟩
        have HF6 : Hid (SrFix w6 w3.heap.size (w3.heap.size + 1) x0 a0 n0 c0 ea ec) := HF5.out.keep (below_but hb6 HF5.out.lt)
        have HS6 : Hid (SrAt w6 w3.heap.size (w3.heap.size + 1) a0 n0 c0 ea ec ma5 mc5 (metD x0 d) d (thrB x0 d)) := HS5.out.below hb6
        have HBB6 : Hid (BelowBut (w3.heap.size + 1) w3.heap.size W4 w6) := bbut_trans HBB5.out (below_but hb6 HF5.out.lt)
        clear hb6
        by_cases hend : atDp x0 d = []
        · rw [decide_eq_true hend]
          have HEN : Hid (srtL (metD x0 d) = allD x0) := by show _ = _; rw [srt_metD, outD_all hend]
          clear hend
          go_wp2_with fail
          refine (best_k _ w3.heap.size (w3.heap.size + 1) a0 n0 c0 ea ec ma5 mc5 (metD x0 d) d (thrB x0 d) t HS6.out (Nat.le_trans (metD_len x0 d H5.out hd) (by decide)) ((metD_ok x0 d).int HG.out) ht HF6.out.lt).mono ?_
          rintro e w7 ⟨a7, n7, c7, rfl, hr7, hb7⟩
          have HR7 : Hid ((kRow kScored).is true w7 (fun q => w6.heap.size ≤ q) [.slice a7 n7 c7] ((allD x0).take t)) := by rw [← HEN.out]; exact hr7
          have HB7 : Hid (Below w.heap.size w w7) := HB4.out.trans ((below_of_bbut (bbut_trans HBB6.out (below_bbut hb7)) (by omega)).mono (by omega))
          have z6 : w.heap.size ≤ w6.heap.size := by have := HF6.out.lt; omega
          clear hr7 hb7
          go_wp2
          refine bodyPost_ret (v := .tuple #[.slice a7 n7 c7, .bool true]) (by simp [results, Try.results26, go_sem]) rfl ?_
          exact RAllBest.yes HG.out ht HR7.out z6 HB7.out
        · rw [decide_eq_false hend]
          have hd60 : d < 60 := by
            rcases Nat.lt_or_ge d 60 with h | h
            · exact h
            · exact absurd (atDp_none fun r hr => Nat.le_trans ((good_len HG.out).2 r hr) h) hend
          clear hend
          go_wp2_with fail
          refine (goDeeper_k x0 _ w3.heap.size (w3.heap.size + 1) a0 n0 c0 ea ec ma5 mc5 (metD x0 d) d (thrB x0 d) HF6.out HS6.out HG.out (Nat.le_trans (metD_len x0 d H5.out hd) (by decide)) (metD_ok x0 d) hd).mono ?_
          rintro e w7 ⟨rfl, hto⟩
          have HS7 : Hid (SrTo W4 w3.heap.size (w3.heap.size + 1) x0 a0 n0 c0 ea ec (metD x0 (d + 1)) (d + 1) (thrB x0 (d + 1)) w7) := by rw [metD_next]; exact hto.from HBB6.out
          have HD7 : Hid (depthOf w7 w3.heap.size = d + 1) := by obtain ⟨_, _, _, _, h⟩ := HS7.out; show _ = _; unfold depthOf; rw [h.c3]; simp [intOf]
          clear hto
          go_wp2
          go_roundw
          case rel => exact ⟨d + 1, by omega, HS7⟩
          case measure => rw [HD7.out, HD.out]; omega
    · rw [decide_eq_false hk]
      have HNO : Hid ((fGoodRankings x0 && decide (0 ≤ x1 ∧ x1 ≤ 60)) = false) := by show _ = _; rw [decide_eq_false hk, Bool.and_false]
      clear hk
      go_wp2
      refine bodyPost_ret (v := .tuple #[.slice none 0 0, .bool false]) (by simp [results, Try.results26, go_sem]) rfl ?_
      exact RAllBest.no HNO.out HB1.out
end Go.Proofs.Ytikgcgfigcolmaa
