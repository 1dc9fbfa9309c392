/- The best of several lists, found ahead of their ends: the program's. No condition but that they fit in memory. -/
import Derived.Test.YtikgcgfigcolmaaSbI
import Derived.Deep.RegionWith
namespace Go.Proofs.Ytikgcgfigcolmaa
open Go.RowKit
set_option linter.unusedVariables false

/-- What TopBest answers. -/
def RTopBest (x0 : List DRanking) (x1 : Int) (w : World) (e : Ending) (w' : World) : Prop := ∃ (a0 : Option Addr) (n0 c0 : Nat) (T0 : Nat → Prop), e = .returned (.tuple #[.slice a0 n0 c0, .int .i64 (fTopBest x0 x1).2.1, .bool (fTopBest x0 x1).2.2]) ∧ (kRow kScored).is true w' T0 [.slice a0 n0 c0] (fTopBest x0 x1).1 ∧ (∀ k, T0 k → w.heap.size ≤ k) ∧ sums kScored.cnt (fTopBest x0 x1).1 ≤ 2 ^ 26 ∧ IntOk (fTopBest x0 x1).2.1 ∧ Below w.heap.size w w'
theorem RTopBest.no {x0 : List DRanking} {x1 : Int} {w w' : World} (h : (fGoodRankings x0 && decide (0 ≤ x1 ∧ x1 ≤ 60)) = false) (hb : Below w.heap.size w w') : RTopBest x0 x1 w (.returned (.tuple #[.slice none 0 0, .int .i64 0, .bool false])) w' := by
  unfold RTopBest fTopBest
  rw [if_neg (by rw [h]; exact Bool.false_ne_true)]
  exact ⟨none, 0, 0, fun _ => False, rfl, row_nil _ _ _ _ _ _, fun k hk => hk.elim, by simp [sums], ⟨by decide, by decide⟩, hb⟩
theorem topI_le (ls : List DRanking) (k : Nat) : ∀ n d, topI ls k n d ≤ d + n
  | 0, d => Nat.le_refl _
  | n + 1, d => by
    have := topI_le ls k n (d + 1)
    rw [topI]
    split
    · omega
    · split <;> omega
/-- How far it goes, on both sides. -/
theorem top_is {ls : List DRanking} (hg : fGoodRankings ls = true) {t : Nat} (ht : t ≤ 60) : fTopBest ls t = ((outD ls (topI ls t 61 0)).take t, ((topI ls t 61 0 : Nat) : Int), true) := by
  unfold fTopBest
  rw [if_pos (by rw [hg, decide_eq_true (by omega)]; rfl)]
  by_cases h0 : t = 0
  · subst h0
    have e : topI ls 0 61 0 = 0 := by rw [topI, if_pos (Nat.zero_le _)]
    rw [if_pos (by rfl), e]
    rfl
  · rw [if_neg (by omega), Int.toNat_natCast, top_same ls t (by omega) 60 0 (by show ¬ t ≤ cntA [] 0; rw [cntA]; omega) (by rw [Nat.zero_add]; exact atDp_none (good_len hg).2)]
theorem RTopBest.yes {x0 : List DRanking} {t : Nat} {w w' : World} (h : fGoodRankings x0 = true) (ht : t ≤ 60) {a : Option Addr} {n c B d : Nat} (hd : topI x0 t 61 0 = d) (hr : (kRow kScored).is true w' (fun q => B ≤ q) [.slice a n c] ((outD x0 d).take t)) (hB : w.heap.size ≤ B) (hb : Below w.heap.size w w') : RTopBest x0 t w (.returned (.tuple #[.slice a n c, .int .i64 d, .bool true])) w' := by
  have h1 := topI_le x0 t 61 0
  unfold RTopBest
  rw [top_is h ht, hd]
  refine ⟨a, n, c, _, rfl, hr, fun k hk => Nat.le_trans hB hk, ?_, by unfold IntOk; show _ ∧ _; simp only; omega, hb⟩
  rw [cnt_scs]
  show ((outD x0 d).take t).length * 2 ≤ _
  rw [List.length_take]
  omega
theorem topI_next {ls : List DRanking} {k n d : Nat} (h1 : ¬ k ≤ cntA (metD ls d) (thrB ls d)) (h2 : ¬ atDp ls d = []) : topI ls k (n + 1) d = topI ls k n (d + 1) := by rw [topI, if_neg h1, if_neg h2]
theorem topI_one {ls : List DRanking} {k n d : Nat} (h : k ≤ cntA (metD ls d) (thrB ls d)) : topI ls k (n + 1) d = d := by rw [topI, if_pos h]
theorem topI_end {ls : List DRanking} {k n d : Nat} (h : atDp ls d = []) : topI ls k (n + 1) d = d := by
  rw [topI]
  by_cases c : k ≤ cntA (metD ls d) (thrB ls d)
  · rw [if_pos c]
  · rw [if_neg c, if_pos h]

set_option maxRecDepth 100000 in
set_option maxHeartbeats 4000000 in
theorem implTopBest_k (x0 : List DRanking) (a0 : Option Addr) (n0 c0 : Nat) (S0 : Nat → Prop) (x1 : Int) (w : World) (h0 : (kRow kRanking).is true w S0 [.slice a0 n0 c0] x0) (z0 : (kRow kRanking).sz x0 ≤ 2 ^ 20) (h1 : IntOk x1) :
    Calls Try.prog 24 #[.slice a0 n0 c0, .int .i64 x1] w (RTopBest x0 x1 w) := by
  have H : Hid ((kRow kRanking).is true w S0 [.slice a0 n0 c0] x0) := h0
  have HZ : Hid ((kRow kRanking).sz x0 ≤ 2 ^ 20) := z0
  clear h0 z0 h1
  go_enter Try.func24, Try.ntmps24
  go_wp2_with fail
  refine (implGoodRankings_k x0 a0 n0 c0 S0 _ H.out HZ.out).mono ?_
  rintro e w1 ⟨rfl, hb1⟩
  have HB1 : Hid (Below w.heap.size w w1) := hb1
  clear hb1
  cases hg : fGoodRankings x0 with
  | false =>
    have HNO : Hid ((fGoodRankings x0 && decide (0 ≤ x1 ∧ x1 ≤ 60)) = false) := by show _ = _; rw [hg]; rfl
    clear hg
    go_wp2
    refine bodyPost_ret (v := .tuple #[.slice none 0 0, .int .i64 0, .bool false]) (by simp [results, Try.results24, go_sem]) rfl ?_
    exact RTopBest.no HNO.out HB1.out
  | true =>
    have HG : Hid (fGoodRankings x0 = true) := hg
    clear hg
    go_wp2_with fail
    refine (isManyBest_k x1 _).mono ?_
    rintro e w2 ⟨rfl, rfl⟩
    by_cases hk : 0 ≤ x1 ∧ x1 ≤ 60
    · rw [decide_eq_true hk]
      obtain ⟨t, rfl⟩ : ∃ t : Nat, x1 = t := ⟨x1.toNat, by omega⟩
      have ht : t ≤ 60 := by omega
      clear hk
      have h5 : x0.length ≤ 5 := (good_len HG.out).1
      have H5 : Hid (x0.length ≤ 5) := h5
      go_wp2_with fail
      refine (searchIn_k x0 a0 n0 c0 S0 _ (Kd.below (Kd.read _ H.out) HB1.out) h5).mono ?_
      rintro e w3 ⟨ea, ec, B, L, rfl, hb3, hfn, hL, hB, ho⟩
      obtain ⟨hf4, hs4⟩ := search_at (Kd.tight _ (Kd.below (Kd.read _ H.out) HB1.out) (fun k hk _ => hk)) hb3 hfn hL hB ho
      have HB3 : Hid (Below w.heap.size w w3) := HB1.out.trans (hb3.mono HB1.out.size)
      have z3 : w.heap.size ≤ w3.heap.size := HB3.out.size
      obtain ⟨W4, hW4⟩ : ∃ W4, W4 = w3.alloc (.cells #[.slice a0 n0 c0, .slice ea n0 ec, .slice none 0 0, .int .i64 0, .int .i64 0] 98) := ⟨_, rfl⟩
      rw [← hW4] at hf4 hs4
      have HST : Hid (SrTo W4 w3.heap.size (w3.heap.size + 1) x0 a0 n0 c0 ea ec (metD x0 0) 0 (thrB x0 0) W4) := ⟨hf4, bbut_refl _ _ _, none, 0, hs4⟩
      have HB4 : Hid (Below w.heap.size w W4) := by rw [hW4]; exact HB3.out.trans ((below_a1r _ _).mono z3)
      clear hb3 hfn hL hB ho hf4 hs4 h5
      go_wp2_with fail
      rw [← hW4]
      clear hW4
      go_loopw [18] (fun _ wr => ∃ (d : Nat), d ≤ 60 ∧ Hid (topI x0 t (61 - d) d = topI x0 t 61 0) ∧ Hid (SrTo W4 w3.heap.size (w3.heap.size + 1) x0 a0 n0 c0 ea ec (metD x0 d) d (thrB x0 d) wr)) (fun _ wr => 60 - depthOf wr w3.heap.size)
      case atStart => exact ⟨0, by omega, rfl, HST⟩
      case round =>
        obtain ⟨d, hd, HT, HS⟩ := hrel
        obtain ⟨hf5, hbb5, ma5, mc5, hs5⟩ := HS.out
        have HF5 : Hid (SrFix wr w3.heap.size (w3.heap.size + 1) x0 a0 n0 c0 ea ec) := hf5
        have HS5 : Hid (SrAt wr w3.heap.size (w3.heap.size + 1) a0 n0 c0 ea ec ma5 mc5 (metD x0 d) d (thrB x0 d)) := hs5
        have HBB5 : Hid (BelowBut (w3.heap.size + 1) w3.heap.size W4 wr) := hbb5
        have hD : depthOf wr w3.heap.size = d := by unfold depthOf; rw [hs5.c3]; simp [intOf]
        have HD : Hid (depthOf wr w3.heap.size = d) := hD
        clear hf5 hbb5 hs5 HS hD
        go_wp2_with fail
        refine (above_k _ w3.heap.size (w3.heap.size + 1) a0 n0 c0 ea ec ma5 mc5 (metD x0 d) d (thrB x0 d) HS5.out (Nat.le_trans (metD_len x0 d H5.out hd) (by decide)) ((metD_ok x0 d).int HG.out)).mono ?_
        rintro e w6 ⟨rfl, hb6⟩
        have HF6 : Hid (SrFix w6 w3.heap.size (w3.heap.size + 1) x0 a0 n0 c0 ea ec) := HF5.out.keep (below_but hb6 HF5.out.lt)
        have HS6 : Hid (SrAt w6 w3.heap.size (w3.heap.size + 1) a0 n0 c0 ea ec ma5 mc5 (metD x0 d) d (thrB x0 d)) := HS5.out.below hb6
        have HBB6 : Hid (BelowBut (w3.heap.size + 1) w3.heap.size W4 w6) := bbut_trans HBB5.out (below_but hb6 HF5.out.lt)
        have HT1 : Hid (topI x0 t (60 - d + 1) d = topI x0 t 61 0) := by have := HT.out; rw [show 61 - d = 60 - d + 1 by omega] at this; exact this
        clear hb6 HT
        obtain ⟨cn, hcn⟩ : ∃ cn, cn = cntA (metD x0 d) (thrB x0 d) := ⟨_, rfl⟩
        rw [← hcn]
        by_cases hab : t ≤ cn
        · have HEND : Hid (topI x0 t 61 0 = d) := by have := HT1.out; rw [topI_one (by rw [← hcn]; exact hab)] at this; exact this.symm
          have hab2 : ¬ (cn : Int) < (t : Int) := by omega
          clear hcn hab HT1
          go_wp2_with fail
          have HBEST : Hid (∀ W, Below w6.heap.size w6 W → Calls Try.prog 66 #[.pointer (some ⟨w3.heap.size, 0, none⟩), .int .i64 t] W fun e w' => ∃ (a' : Option Addr) (n' c' : Nat), e = .returned (.slice a' n' c') ∧ (kRow kScored).is true w' (fun q => W.heap.size ≤ q) [.slice a' n' c'] ((outD x0 d).take t) ∧ Below (w3.heap.size + 1) W w') := fun W hW => by
            rw [← srt_metD]
            exact best_k W w3.heap.size (w3.heap.size + 1) a0 n0 c0 ea ec ma5 mc5 (metD x0 d) d (thrB x0 d) t (HS6.out.below hW) (Nat.le_trans (metD_len x0 d H5.out hd) (by decide)) ((metD_ok x0 d).int HG.out) ht (Nat.le_trans HF6.out.lt hW.size)
          have D3 := HS6.out.c3
          have HDR : Hid (Below w6.heap.size w6 w6.drew) := (Below.refl _ _).drew
          have zS := HF6.out.lt
          go_region_with (first | (go_at_call 66; go_fit (HBEST.out _ HDR.out); rintro e w8 ⟨a8, n8, c8, rfl, hr8, hb8⟩; have D8 : w8.cell? ⟨w3.heap.size, 3, none⟩ = some (.int .i64 d) := (hb8.cell (p := ⟨w3.heap.size, 3, none⟩) (by show w3.heap.size < _; omega)).trans D3))
          all_goals
            have HR8 : Hid ((kRow kScored).is true w8 (fun q => w3.heap.size ≤ q) [.slice a8 n8 c8] ((outD x0 d).take t)) := Kd.mono hr8 (fun q hq => by have h' : w6.heap.size ≤ q := hq; show w3.heap.size ≤ q; omega)
            have HB8 : Hid (Below w.heap.size w w8) := HB4.out.trans ((below_of_bbut (bbut_trans (bbut_trans HBB6.out (below_but HDR.out zS)) (below_bbut hb8)) (by omega)).mono (by omega))
            clear hr8 hb8
            go_wp2
            refine bodyPost_ret (v := .tuple #[.slice a8 n8 c8, .int .i64 d, .bool true]) (by simp [results, Try.results24, go_sem]) rfl ?_
            exact RTopBest.yes HG.out ht HEND.out HR8.out z3 HB8.out
        · have hab2 : (cn : Int) < (t : Int) := by omega
          have HNR : Hid (¬ t ≤ cntA (metD x0 d) (thrB x0 d)) := by rw [← hcn]; exact hab
          clear hab hcn
          go_wp2_with fail
          refine (hasEnded_k x0 _ w3.heap.size (w3.heap.size + 1) a0 n0 c0 ea ec ma5 mc5 (metD x0 d) d (thrB x0 d) HF6.out HS6.out).mono ?_
          rintro e w7 ⟨rfl, hb7⟩
          have HF7 : Hid (SrFix w7 w3.heap.size (w3.heap.size + 1) x0 a0 n0 c0 ea ec) := HF6.out.keep (below_but hb7 HF6.out.lt)
          have HS7 : Hid (SrAt w7 w3.heap.size (w3.heap.size + 1) a0 n0 c0 ea ec ma5 mc5 (metD x0 d) d (thrB x0 d)) := HS6.out.below hb7
          have HBB7 : Hid (BelowBut (w3.heap.size + 1) w3.heap.size W4 w7) := bbut_trans HBB6.out (below_but hb7 HF6.out.lt)
          clear hb7
          by_cases hend : atDp x0 d = []
          · rw [decide_eq_true hend]
            have HEND : Hid (topI x0 t 61 0 = d) := by have := HT1.out; rw [topI_end hend] at this; exact this.symm
            clear hend HT1
            go_wp2_with fail
            have HBEST : Hid (∀ W, Below w7.heap.size w7 W → Calls Try.prog 66 #[.pointer (some ⟨w3.heap.size, 0, none⟩), .int .i64 t] W fun e w' => ∃ (a' : Option Addr) (n' c' : Nat), e = .returned (.slice a' n' c') ∧ (kRow kScored).is true w' (fun q => W.heap.size ≤ q) [.slice a' n' c'] ((outD x0 d).take t) ∧ Below (w3.heap.size + 1) W w') := fun W hW => by
              rw [← srt_metD]
              exact best_k W w3.heap.size (w3.heap.size + 1) a0 n0 c0 ea ec ma5 mc5 (metD x0 d) d (thrB x0 d) t (HS7.out.below hW) (Nat.le_trans (metD_len x0 d H5.out hd) (by decide)) ((metD_ok x0 d).int HG.out) ht (Nat.le_trans HF7.out.lt hW.size)
            have D3 := HS7.out.c3
            have HDR : Hid (Below w7.heap.size w7 w7.drew) := (Below.refl _ _).drew
            have zS := HF7.out.lt
            go_region_with (first | (go_at_call 66; go_fit (HBEST.out _ HDR.out); rintro e w8 ⟨a8, n8, c8, rfl, hr8, hb8⟩; have D8 : w8.cell? ⟨w3.heap.size, 3, none⟩ = some (.int .i64 d) := (hb8.cell (p := ⟨w3.heap.size, 3, none⟩) (by show w3.heap.size < _; omega)).trans D3))
            all_goals
              have HR8 : Hid ((kRow kScored).is true w8 (fun q => w3.heap.size ≤ q) [.slice a8 n8 c8] ((outD x0 d).take t)) := Kd.mono hr8 (fun q hq => by have h' : w7.heap.size ≤ q := hq; show w3.heap.size ≤ q; omega)
              have HB8 : Hid (Below w.heap.size w w8) := HB4.out.trans ((below_of_bbut (bbut_trans (bbut_trans HBB7.out (below_but HDR.out zS)) (below_bbut hb8)) (by omega)).mono (by omega))
              clear hr8 hb8
              go_wp2
              refine bodyPost_ret (v := .tuple #[.slice a8 n8 c8, .int .i64 d, .bool true]) (by simp [results, Try.results24, go_sem]) rfl ?_
              exact RTopBest.yes HG.out ht HEND.out HR8.out z3 HB8.out
          · rw [decide_eq_false hend]
            have HT2 : Hid (topI x0 t (61 - (d + 1)) (d + 1) = topI x0 t 61 0) := by have := HT1.out; rw [topI_next HNR.out hend] at this; rw [show 61 - (d + 1) = 60 - d by omega]; exact this
            have hd60 : d < 60 := by
              rcases Nat.lt_or_ge d 60 with h | h
              · exact h
              · exact absurd (atDp_none fun r hr => Nat.le_trans ((good_len HG.out).2 r hr) h) hend
            clear hend HT1 HNR
            go_wp2_with fail
            refine (goDeeper_k x0 _ w3.heap.size (w3.heap.size + 1) a0 n0 c0 ea ec ma5 mc5 (metD x0 d) d (thrB x0 d) HF7.out HS7.out HG.out (Nat.le_trans (metD_len x0 d H5.out hd) (by decide)) (metD_ok x0 d) hd).mono ?_
            rintro e w8 ⟨rfl, hto⟩
            have HS8 : Hid (SrTo W4 w3.heap.size (w3.heap.size + 1) x0 a0 n0 c0 ea ec (metD x0 (d + 1)) (d + 1) (thrB x0 (d + 1)) w8) := by rw [metD_next]; exact hto.from HBB7.out
            have HD8 : Hid (depthOf w8 w3.heap.size = d + 1) := by obtain ⟨_, _, _, _, h⟩ := HS8.out; show _ = _; unfold depthOf; rw [h.c3]; simp [intOf]
            clear hto
            go_wp2
            go_roundw
            case rel => exact ⟨d + 1, by omega, HT2, HS8⟩
            case measure => rw [HD8.out, HD.out]; omega
    · rw [decide_eq_false hk]
      have HNO : Hid ((fGoodRankings x0 && decide (0 ≤ x1 ∧ x1 ≤ 60)) = false) := by show _ = _; rw [decide_eq_false hk, Bool.and_false]
      clear hk
      go_wp2
      refine bodyPost_ret (v := .tuple #[.slice none 0 0, .int .i64 0, .bool false]) (by simp [results, Try.results24, go_sem]) rfl ?_
      exact RTopBest.no HNO.out HB1.out
end Go.Proofs.Ytikgcgfigcolmaa
