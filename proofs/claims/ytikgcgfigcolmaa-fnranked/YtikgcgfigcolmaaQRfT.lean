/- A word's ranking: the program's. No condition but that it fits in memory. How many of the words each text has: the specification's l10Marks. No condition but that they fit in memory. Words that are unlike: the program's and the specification's. No condition but that they fit in memory. Rankings for words: the program's. No condition but that they fit in memory. Rankings for words: the specification's. No condition but that they fit in memory. Rankings for words, and a text's score: the specification's and the program's. No condition but that they fit in memory. -/
import Derived.Test.YtikgcgfigcolmaaQRfM
import Derived.Test.YtikgcgfigcolmaaQSrC
import Derived.Test.YtikgcgfigcolmaaQRpP
import Derived.Test.YtikgcgfigcolmaaRkI
import Derived.Test.YtikgcgfigcolmaaWdI
import Derived.Test.YtikgcgfigcolmaaQLoS
import Derived.Test.YtikgcgfigcolmaaWgS
namespace Go.Proofs.Ytikgcgfigcolmaa
open Go.RowKit
set_option linter.unusedVariables false

theorem srt_rkOf {t : Int} {l : List DPosting} (h : PostW t l) : srtL (scOf t l.length l) = rkOf t l :=
  srt_perm (srtL_srt (scOf_once t l.length h.once)) (rkOf_srt t l) ((srtL_perm _).trans (rkOf_perm h).symm)
theorem scOf_take {t : Int} {n : Nat} {l : List DPosting} {k : Nat} {p : DPosting} (h : l[k]? = some p) : (scOf t n l).take (k + 1) = (scOf t n l).take k ++ [(p.1, p.2 * (t - n + 1))] := by
  unfold scOf
  rw [List.take_add_one, List.getElem?_map, h]
  rfl
/-- What a word's ranking is. -/
def RRk (t : Int) (l : List DPosting) (w : World) (e : Ending) (w' : World) : Prop := ∃ (a : Option Addr) (n c : Nat), e = .returned (.agg #[.slice a n c]) ∧ (kRow kScored).is true w' (fun k => w.heap.size ≤ k) [.slice a n c] (rkOf t l) ∧ Below w.heap.size w w'
structure RoAt (W0 w : World) (s B : Nat) (oa : Option Addr) (k oc : Nat) (L : List DScored) : Prop where
  c0 : w.cell? ⟨s, 0, none⟩ = some (.slice oa k oc)
  fz : w.frozen? ⟨s, 0, none⟩ = false
  own : OwnL scC 60 2 w B (.slice oa k oc) L
  bb : BelowBut B s W0 w
  lt : s < B
  le : B ≤ w.heap.size
theorem RoAt.put {W0 w w3 : World} {s B : Nat} {oa : Option Addr} {k oc : Nat} {L : List DScored} (h : RoAt W0 w s B oa k oc L) (hb : Below B w w3) {oa' : Option Addr} {k' oc' : Nat} {L' : List DScored} (ho : OwnL scC 60 2 w3 B (.slice oa' k' oc') L') : RoAt W0 (w3.setCell ⟨s, 0, none⟩ (.slice oa' k' oc')) s B oa' k' oc' L' := by
  refine ⟨set_same ((hb.cell (p := ⟨s, 0, none⟩) h.lt).trans h.c0), ?_, OwnL.set ho h.lt, set_bbut (bbut_trans h.bb (below_bbut hb)), h.lt, by have := h.le; have := hb.size; simp; omega⟩
  rw [World.frozen?_setCell, hb.frozen (p := ⟨s, 0, none⟩) h.lt]
  exact h.fz

set_option maxRecDepth 100000 in
set_option maxHeartbeats 4000000 in
theorem rankingOf_k (l : List DPosting) (a : Option Addr) (n c : Nat) (S : Nat → Prop) (t : Int) (w : World) (h : (kRow kPosting).is false w S [.slice a n c] l) (hp : PostW t l) (h0 : 0 ≤ t) (h40 : t ≤ 40) :
    Calls Try.prog 79 #[.slice a n c, .int .i64 t] w (RRk t l w) := by
  have hnl := row_len h
  have hn40 : (n : Int) ≤ t := by rw [hnl]; exact hp.len h0
  have HNL : Hid (n = l.length) := hnl
  have H : Hid ((kRow kPosting).is false w S [.slice a n c] l) := h
  have HP : Hid (PostW t l) := hp
  clear h hnl hp
  go_enter Try.func79, Try.ntmps79
  go_wp2_with fail
  obtain ⟨W0, hW0⟩ : ∃ W0, W0 = (w.alloc (.cells #[.slice none 0 0] 58)).alloc (.cells #[.slice none 0 0] 58) := ⟨_, rfl⟩
  rw [← hW0]
  have hz0 : W0.heap.size = w.heap.size + 1 + 1 := by rw [hW0]; simp
  have HB0 : Hid (Below w.heap.size w W0) := by rw [hW0]; exact below_a2r _ _ _
  have HRO : Hid (RoAt W0 W0 (w.heap.size + 1) W0.heap.size none 0 0 []) := by
    refine ⟨?_, ?_, OwnL.nil _ _ _ _ _, bbut_refl _ _ _, by omega, Nat.le_refl _⟩
    all_goals (rw [hW0]; simp [go_sem])
  have HRS : Hid (W0.cell? ⟨w.heap.size, 0, none⟩ = some (.slice none 0 0) ∧ W0.frozen? ⟨w.heap.size, 0, none⟩ = false) := by
    refine ⟨?_, by rw [hW0]; simp [go_sem]⟩
    rw [hW0, World.cell?_alloc_old _ _ _ (by show w.heap.size ≠ _; simp), World.cell?_alloc_new]
    rfl
  clear hW0 hz0
  go_loopw [10] (fun iv wr => ∃ (k : Nat) (oa : Option Addr) (oc : Nat), k ≤ n ∧ iv = .int .i64 k ∧ Hid (RoAt W0 wr (w.heap.size + 1) W0.heap.size oa k oc ((scOf t n l).take k))) (fun iv _ => n - (intOf iv).toNat)
  case atStart => exact ⟨0, none, 0, Nat.zero_le _, rfl, HRO⟩
  case round =>
    obtain ⟨k, oa, oc, hk, rfl, HS⟩ := hrel
    have hwz : W0.heap.size ≤ wr.heap.size := HS.out.le
    have hsB : w.heap.size + 1 < W0.heap.size := HS.out.lt
    have HBR : Hid (Below w.heap.size w wr) := HB0.out.trans ⟨HS.out.bb.os, HS.out.bb.tape, HS.out.bb.output, HS.out.bb.size, fun q hq => HS.out.bb.block q (by omega) (by omega)⟩
    have C0 := HS.out.c0
    have C0f := HS.out.fz
    by_cases hlt : k < n
    · obtain ⟨⟨i, m⟩, hx⟩ : ∃ x, l[k]? = some x := ⟨_, List.getElem?_eq_getElem (by rw [← HNL.out]; exact hlt)⟩
      obtain ⟨b, off, B, C, rfl, hb, _, hi, _, hc⟩ := row_at (Kd.below H.out HBR.out) hx
      obtain ⟨rfl, g0, g1⟩ := kPosting_open hi
      have A0 : wr.cell? ⟨b, off + k * 2, none⟩ = some (.int .i64 i) := (hc 0 _ rfl).1
      have A1 : wr.cell? ⟨b, off + k * 2 + 1, none⟩ = some (.int .i64 m) := (hc 1 _ rfl).1
      have i0 : (0 : Int) ≤ (k : Int) := by omega
      have i1 : (k : Int) < (n : Int) := by omega
      obtain ⟨hi1, hm1, hm2⟩ := HP.out.at (List.mem_of_getElem? hx)
      simp only at hi1 hm1 hm2
      obtain ⟨y1, y2⟩ := sc_bnd hm1 hm2 (b := t - n + 1) (by omega) (by omega)
      obtain ⟨f, hf⟩ : ∃ f, f = t - (n : Int) + 1 := ⟨_, rfl⟩
      have hfe : t - (n : Int) + 1 = f := hf.symm
      obtain ⟨y, hy⟩ : ∃ y, y = m * f := ⟨_, rfl⟩
      have hye : m * f = y := hy.symm
      rw [← hf, ← hy] at y1 y2
      have HTK : Hid ((scOf t n l).take (k + 1) = (scOf t n l).take k ++ [(i, y)]) := by show _ = _; rw [scOf_take hx, hy, hf]
      have HLK : Hid (((scOf t n l).take k).length = k) := by show _ = _; rw [List.length_take]; unfold scOf; rw [List.length_map, ← HNL.out]; omega
      have G0 := cell_later (below_a1r wr (.cells #[.int .i64 i, .int .i64 m] 43)) C0
      have f1 : f ≤ 41 := by omega
      have f2 : 1 ≤ f := by omega
      clear hc hi hx hf hy
      go_wp2_with (at_builtin; go_loud (refine app_sc rfl _ _ rfl W0.heap.size _ ((scOf t n l).take k) rfl (OwnL.below HS.out.own (below_a2r _ _ _)) _ (i, y) rfl (by simp [go_sem]) (by simp [go_sem]) (by rw [HLK.out]; omega) (by simp; omega) ?_))
      intro v3 w3 ho3 hb3 _
      obtain ⟨a3, c3, rfl, _⟩ := ho3.form
      rw [List.length_append, HLK.out] at ho3 ⊢
      have HB3 : Hid (Below W0.heap.size wr w3) := ((below_a2r wr _ _).mono hwz).trans hb3
      have HS3 : Hid (RoAt W0 (w3.setCell ⟨w.heap.size + 1, 0, none⟩ (.slice a3 (k + 1) c3)) (w.heap.size + 1) W0.heap.size a3 (k + 1) c3 ((scOf t n l).take (k + 1))) := by rw [HTK.out]; exact HS.out.put HB3.out ho3
      have K1 : w3.cell? ⟨w.heap.size + 1, 0, none⟩ = some (.slice oa k oc) := (HB3.out.cell (p := ⟨w.heap.size + 1, 0, none⟩) hsB).trans C0
      have K1f : w3.frozen? ⟨w.heap.size + 1, 0, none⟩ = false := (HB3.out.frozen (p := ⟨w.heap.size + 1, 0, none⟩) hsB).trans C0f
      clear ho3 hb3 G0
      go_wp2
      go_roundw
      case rel => exact ⟨k + 1, a3, c3, by omega, by go_num, HS3⟩
      case measure => simp [intOf]; omega
    · have i1 : ¬ (k : Int) < (n : Int) := by omega
      obtain rfl : k = n := by omega
      have hfull : (scOf t k l).take k = scOf t l.length l := by rw [HNL.out, List.take_of_length_le (by unfold scOf; simp)]
      have hown := HS.out.own
      rw [hfull] at hown
      have HOW : Hid ((kRow kScored).is true wr (fun q => W0.heap.size ≤ q) [.slice oa k oc] (scOf t l.length l)) := own_scs hown (by unfold scOf; rw [List.length_map, ← HNL.out]; omega) (fun x hx => by have := scOf_ok HP.out h0 h40 x hx; unfold IntOk; omega)
      have R0 : wr.cell? ⟨w.heap.size, 0, none⟩ = some (.slice none 0 0) := (World.cell?_of_block (w := W0) (HS.out.bb.block w.heap.size (by omega) (by omega))).trans HRS.out.1
      have R0f : wr.frozen? ⟨w.heap.size, 0, none⟩ = false := (World.frozen?_of_block (w := W0) (HS.out.bb.block w.heap.size (by omega) (by omega))).trans HRS.out.2
      clear hfull hown
      go_wp2_with fail
      refine (sortSc_k (scOf t l.length l) oa k oc _ _ HOW.out (by unfold scOf; rw [List.length_map, ← HNL.out]; omega)).mono ?_
      rintro e w4 ⟨rfl, hr4, hk4⟩
      have HB4 : Hid (Below W0.heap.size wr w4) := hk4.below hwz (fun q hq h => by have h' : W0.heap.size ≤ q := h; omega)
      have HR4 : Hid ((kRow kScored).is true w4 (fun q => W0.heap.size ≤ q) [.slice oa k oc] (rkOf t l)) := by rw [← srt_rkOf HP.out]; exact hr4
      have hwlt : w.heap.size < W0.heap.size := by omega
      have Q0 : w4.cell? ⟨w.heap.size + 1, 0, none⟩ = some (.slice oa k oc) := (HB4.out.cell (p := ⟨w.heap.size + 1, 0, none⟩) hsB).trans C0
      have Q1 : w4.cell? ⟨w.heap.size, 0, none⟩ = some (.slice none 0 0) := (HB4.out.cell (p := ⟨w.heap.size, 0, none⟩) hwlt).trans R0
      have Q1f : w4.frozen? ⟨w.heap.size, 0, none⟩ = false := (HB4.out.frozen (p := ⟨w.heap.size, 0, none⟩) hwlt).trans R0f
      have HBW : Hid (Below w.heap.size w w4) := HBR.out.trans (HB4.out.mono (by omega))
      clear hr4 hk4
      go_wp2
      refine bodyPost_ret (v := .agg #[.slice oa k oc]) (by simp [results, Try.results79, go_sem, Q1]) rfl ?_
      refine ⟨oa, k, oc, rfl, ?_, ⟨HBW.out.os, HBW.out.tape, HBW.out.output, by simpa using HBW.out.size, fun q hq => (heap_set_ne (by omega)).trans (HBW.out.block q hq)⟩⟩
      refine Kd.mono (Kd.kept (S' := fun q => q = w.heap.size) HR4.out ⟨rfl, rfl, rfl, by simp, fun q hq hn => heap_set_ne hn⟩ (fun q _ h h' => by have h1 : W0.heap.size ≤ q := h; have h2 : q = w.heap.size := h'; omega)) (fun q hq => by have h1 : W0.heap.size ≤ q := hq; show w.heap.size ≤ q; omega)
end Go.Proofs.Ytikgcgfigcolmaa
namespace Go.Proofs.Ytikgcgfigcolmaa
open Go.RowKit
set_option linter.unusedVariables false

theorem sz_str {ws : List ByteArray} {i : Nat} {x : ByteArray} (h : ws[i]? = some x) : x.size ≤ (kRow kStr).sz ws := by
  have h1 := sums_ge kStr.sz ws i x h
  have h2 : kStr.sz x = x.size := rfl
  have h3 : (kRow kStr).sz ws = ws.length + sums kStr.sz ws := rfl
  omega
/-- What the marks are. -/
def RMarks (x : DWords) (ws : List ByteArray) (w : World) (e : Ending) (w' : World) : Prop :=
  (fMarks x ws = none ∧ e = .returned (.tuple #[.slice none 0 0, .bool false]) ∧ Below w.heap.size w w') ∨
  ∃ g M, fMarks x ws = some M ∧ e = .returned (.tuple #[.slice (some ⟨g, 0, none⟩) M.length M.length, .bool true]) ∧ w.heap.size ≤ g ∧ MkAt w' g M ∧ BndM M (2 ^ 30) ∧ M.length ≤ 40 ∧ Below w.heap.size w w'

set_option maxRecDepth 100000 in
set_option maxHeartbeats 4000000 in
theorem l10Marks_k (x0 : DWords) (C0 : List Value) (S0 S1 : Nat → Prop) (ws : List ByteArray) (a1 : Option Addr) (n1 c1 : Nat) (w : World) (h0 : kWords.is false w S0 C0 x0) (z0 : kWords.sz x0 ≤ 2 ^ 20) (h1 : (kRow kStr).is false w S1 [.slice a1 n1 c1] ws) (z1 : (kRow kStr).sz ws ≤ 2 ^ 20) :
    Calls Try.prog 51 #[.agg C0.toArray, .slice a1 n1 c1] w (RMarks x0 ws w) := by
  obtain ⟨tx, es⟩ := x0
  have HK : Hid (kWords.is false w S0 C0 (tx, es)) := h0
  obtain ⟨a, c, T, rfl, g0, hmx, hr, _⟩ := kWords_open h0
  have HZ0 : Hid (kWords.sz (tx, es) ≤ 2 ^ 20) := z0
  have HZ : Hid ((kRow kEntry).sz es ≤ 2 ^ 20) := by have : kWords.sz (tx, es) = 0 + (kRow kEntry).sz es := rfl; show _ ≤ _; omega
  have HZ1 : Hid ((kRow kStr).sz ws ≤ 2 ^ 20) := z1
  have HRW : Hid ((kRow kEntry).is false w T [.slice a es.length c] es) := hr
  have HW : Hid ((kRow kStr).is false w S1 [.slice a1 n1 c1] ws) := h1
  have hn1 : n1 = ws.length := row_len h1
  have HN1 : Hid (n1 = ws.length) := hn1
  have hn20 : n1 ≤ 2 ^ 20 := by have h3 : (kRow kStr).sz ws = ws.length + sums kStr.sz ws := rfl; omega
  obtain ⟨G, hG⟩ : ∃ G, G = fMarks (tx, es) ws := ⟨_, rfl⟩
  have HF : Hid (G = if (fGoodWords (tx, es) && decide (ws.length ≤ 20)) = true then markL es (List.replicate tx.toNat 0) ws else none) := hG
  have HG : Hid (G = fMarks (tx, es) ws) := hG
  clear h0 z0 hr h1 z1 hn1 hG
  show Calls Try.prog 51 #[.agg #[.int .i64 tx, .slice a es.length c], .slice a1 n1 c1] w _
  go_enter Try.func51, Try.ntmps51
  go_wp2_with fail
  refine (specGoodWords_k (tx, es) [.int .i64 tx, .slice a es.length c] S0 _ (Kd.below HK.out (below_a1 _ _)) HZ0.out).mono ?_
  rintro e w1 ⟨rfl, hb1⟩
  have X0 : w1.cell? ⟨w.heap.size, 0, none⟩ = some (.int .i64 tx) := by rw [hb1.cell (by simp)]; simp [go_sem]
  have X1 : w1.cell? ⟨w.heap.size, 1, none⟩ = some (.slice a es.length c) := by rw [hb1.cell (by simp)]; simp [go_sem]
  have HB1 : Hid (Below w.heap.size w w1) := (below_a1 _ _).trans (hb1.mono (by simp))
  have zw1 : w.heap.size < w1.heap.size := by have := hb1.size; simp at this; omega
  clear hb1
  cases hg : fGoodWords (tx, es) with
  | false =>
    have HNO : Hid (G = none) := by have := HF.out; rw [hg] at this; exact this
    clear hg
    go_wp2
    refine bodyPost_ret (v := .tuple #[.slice none 0 0, .bool false]) (by simp [results, Try.results51, go_sem]) rfl ?_
    exact .inl ⟨by rw [← HG.out, HNO.out], rfl, HB1.out⟩
  | true =>
    obtain ⟨t0, t40⟩ := good_texts hg
    have HFU : Hid (Full es) := good_full hg
    have HIN : Hid (∀ s, InT tx (findL s es)) := good_in hg
    by_cases h20 : (20 : Int) < (n1 : Int)
    · have HNO : Hid (G = none) := by have := HF.out; rw [hg, decide_eq_false (by rw [← HN1.out]; omega)] at this; exact this
      clear hg
      go_wp2
      refine bodyPost_ret (v := .tuple #[.slice none 0 0, .bool false]) (by simp [results, Try.results51, go_sem]) rfl ?_
      exact .inl ⟨by rw [← HG.out, HNO.out], rfl, HB1.out⟩
    · have HF1 : Hid (markL es (List.replicate tx.toNat 0) ws = G) := by have := HF.out; rw [hg, decide_eq_true (by rw [← HN1.out]; omega)] at this; exact this.symm
      clear hg HF
      obtain ⟨t, rfl⟩ : ∃ t : Nat, tx = t := ⟨tx.toNat, by omega⟩
      have hmw := makeIntS t (by omega) w1
      obtain ⟨W, hW⟩ : ∃ W, W = w1.alloc (.cells (madeCells #[.int .i64 0] t) 3) := ⟨_, rfl⟩
      have HM0 : Hid (MkAt W w1.heap.size (List.replicate t 0)) := by rw [hW]; exact MkAt.start _ _ _
      have BW : Below w1.heap.size w1 W := by rw [hW]; exact below_a1 _ _
      have zW : w1.heap.size < W.heap.size := by rw [hW]; simp
      have Y0 := cell_later BW X0
      have Y1 := cell_later BW X1
      have HBW : Hid (Below w.heap.size w W) := HB1.out.trans (BW.mono HB1.out.size)
      rw [← hW] at hmw
      obtain ⟨g, hg⟩ : ∃ g, g = w1.heap.size := ⟨_, rfl⟩
      rw [← hg] at hmw HM0 zW
      have hgw : w.heap.size < g := by omega
      clear hW BW hg
      go_wp2_with fail
      go_loopw [24] (fun iv wr => ∃ (k : Nat) (M : List Int), k ≤ n1 ∧ iv = .int .i64 k ∧ M.length = t ∧ Hid (markL es M (ws.drop k) = G) ∧ Hid (MkAt wr g M) ∧ BndM M (2 ^ 20 * k) ∧ KeptO (fun q => q = g) W wr) (fun iv _ => n1 - (intOf iv).toNat)
      case atStart => exact ⟨0, List.replicate t 0, Nat.zero_le _, rfl, by simp, HF1, HM0, (BndM.zero t).mono (by omega), KeptO.refl _ _⟩
      case round =>
        obtain ⟨k, M, hk, rfl, hMt, HI, HM, hbn, hkp⟩ := hrel
        have hkb : Below w.heap.size w wr := HBW.out.trans (hkp.below (by omega) (fun q hq e => by omega))
        have Z0 := cell_keptO hkp Y0 (by omega)
        have Z1 := cell_keptO hkp Y1 (by omega)
        have zr := hkp.size
        by_cases hlt : k < n1
        · obtain ⟨s, hs⟩ : ∃ s, ws[k]? = some s := ⟨_, List.getElem?_eq_getElem (by rw [← HN1.out]; exact hlt)⟩
          obtain ⟨b, off, B, C, rfl, hb, _, hi, _, hc⟩ := row_at (Kd.below HW.out hkb) hs
          obtain ⟨rfl, _⟩ := hi
          have A0 : wr.cell? ⟨b, off + k, none⟩ = some (.string s) := by have := (hc 0 _ rfl).1; simpa [kInt, kStr, kBool] using this
          have i0 : (0 : Int) ≤ (k : Int) := by omega
          have i1 : (k : Int) < (n1 : Int) := by omega
          have HI1 : Hid ((if isWordB s = true then markL es (addL M (findL s es)) (ws.drop (k + 1)) else none) = G) := by have := HI.out; rw [mark_drop hs] at this; exact this
          have HS : Hid (s.size ≤ 2 ^ 20) := Nat.le_trans (sz_str hs) HZ1.out
          have HKP : Hid (KeptO (fun q => q = g) W wr) := hkp
          have HBR : Hid (Below w.heap.size w wr) := hkb
          have HBN : Hid (BndM M (2 ^ 20 * k)) := hbn
          clear HI hc hs hkp hkb hbn
          go_wp2_with fail
          refine (l10Word_k s _ HS.out).mono ?_
          rintro e w2 ⟨rfl, hb2⟩
          have V0 := cell_later hb2 Z0
          have V1 := cell_later hb2 Z1
          have HM2 : Hid (MkAt w2 g M) := HM.out.below hb2
          have HB2 : Hid (Below w.heap.size w w2) := HBR.out.trans (hb2.mono HBR.out.size)
          have HKP2 : Hid (KeptO (fun q => q = g) W w2) := HKP.out.trans (KeptO.of hb2)
          have z2 : wr.heap.size ≤ w2.heap.size := hb2.size
          clear hb2 HM HKP HBR Z0 Z1
          cases hw : isWordB s with
          | false =>
            have HNO : Hid (G = none) := by have := HI1.out; rw [hw] at this; exact this.symm
            clear hw HI1
            go_wp2
            refine bodyPost_ret (v := .tuple #[.slice none 0 0, .bool false]) (by simp [results, Try.results51, go_sem]) rfl ?_
            exact .inl ⟨by rw [← HG.out, HNO.out], rfl, HB2.out⟩
          | true =>
            have HI2 : Hid (markL es (addL M (findL s es)) (ws.drop (k + 1)) = G) := by have := HI1.out; rw [hw] at this; exact this
            clear hw HI1
            go_wp2_with fail
            refine (l10Postings_k t es s a es.length c T _ (Kd.below HRW.out HB2.out) HZ.out HFU.out).mono ?_
            rintro e w3 ⟨la, ln, lc, rfl, hl3, hb3⟩
            obtain ⟨l, hl⟩ : ∃ l, l = findL s es := ⟨_, rfl⟩
            have hll : l.length ≤ 2 ^ 20 := by have := findL_len s es; have h3 : (kRow kEntry).sz es = es.length + sums kEntry.sz es := rfl; have := HZ.out; rw [hl]; omega
            have HIT : Hid (InT (t : Int) l) := by rw [hl]; exact HIN.out s
            rw [← hl] at hl3 HI2
            have hln : ln = l.length := row_len hl3
            have HL3 : Hid ((kRow kPosting).is false w3 (fun q => w2.heap.size ≤ q) [.slice la ln lc] l) := Kd.read _ hl3
            have HLN : Hid (ln = l.length) := hln
            have U0 := cell_later hb3 V0
            have U1 := cell_later hb3 V1
            have HM3 : Hid (MkAt w3 g M) := HM2.out.below hb3
            have HKP3 : Hid (KeptO (fun q => q = g) W w3) := HKP2.out.trans (KeptO.of hb3)
            have z3 : w2.heap.size ≤ w3.heap.size := hb3.size
            have hln20 : ln ≤ 2 ^ 20 := by omega
            clear hl hl3 hln hb3 HM2 HKP2 V0 V1
            go_wp2_with fail
            go_loopw [35] (fun iv wq => ∃ (j : Nat) (N : List Int), j ≤ ln ∧ iv = .int .i64 j ∧ N.length = t ∧ Hid (addL N (l.drop j) = addL M l) ∧ Hid (MkAt wq g N) ∧ BndM N (2 ^ 20 * k + j) ∧ KeptO (fun q => q = g) w3 wq) (fun iv _ => ln - (intOf iv).toNat)
            case atStart => exact ⟨0, M, Nat.zero_le _, rfl, hMt, rfl, HM3, HBN.out.mono (by omega), KeptO.refl _ _⟩
            case round =>
              obtain ⟨j, N, hj, rfl, hNt, HJ, HN, hbj, hkj⟩ := hrel
              have zq := hkj.size
              by_cases hjl : j < ln
              · obtain ⟨⟨p0, p1⟩, hp⟩ : ∃ p, l[j]? = some p := ⟨_, List.getElem?_eq_getElem (by rw [← HLN.out]; exact hjl)⟩
                obtain ⟨q0, q1⟩ := HIT.out _ (List.mem_of_getElem? hp)
                simp only at q0 q1
                obtain ⟨p, rfl⟩ : ∃ p : Nat, p0 = p := ⟨p0.toNat, by omega⟩
                have hrow := Kd.kept HL3.out hkj (fun q hq h2 h3 => by have h4 : w2.heap.size ≤ q := h2; have h5 : q = g := h3; omega)
                obtain ⟨b', off', B', C', rfl, hb', _, hi', _, hc'⟩ := row_at hrow hp
                obtain ⟨rfl, _, _⟩ := kPosting_open hi'
                have D0 : wr.cell? ⟨b', off' + j * 2, none⟩ = some (.int .i64 p) := (hc' 0 _ rfl).1
                have D1 : wr.cell? ⟨b', off' + j * 2 + 1, none⟩ = some (.int .i64 p1) := (hc' 1 _ rfl).1
                obtain ⟨y, hy⟩ : ∃ y, N[p]? = some y := ⟨_, List.getElem?_eq_getElem (by omega)⟩
                obtain ⟨y0, y1⟩ := hbj.at hy
                have E0 := (HN.out.2 p y hy).1
                have E1 := (HN.out.2 p y hy).2
                have hb1 : Below wr.heap.size wr (wr.alloc (.cells #[.int .i64 p, .int .i64 p1] 43)) := below_a1 _ _
                have HMX : Hid (MkAt ((wr.setCell ⟨g, p, none⟩ (.int .i64 (y + 1))).alloc (.cells #[.int .i64 p, .int .i64 p1] 43)) g (N.modify p (· + 1))) := (HN.out.put hy).below (below_a1 _ _)
                have HKX : Hid (KeptO (fun q => q = g) w3 ((wr.setCell ⟨g, p, none⟩ (.int .i64 (y + 1))).alloc (.cells #[.int .i64 p, .int .i64 p1] 43))) := (hkj.trans (kept_set _ _ _ _)).trans (KeptO.of (below_a1 _ _))
                have HJX : Hid (addL (N.modify p (· + 1)) (l.drop (j + 1)) = addL M l) := by have := HJ.out; rw [addL_drop hp] at this; exact this
                have HBX : Hid (BndM (N.modify p (· + 1)) (2 ^ 20 * k + j + 1)) := hbj.step p
                have F0 := cell_later hb1 E0
                have F1 : (wr.alloc (.cells #[.int .i64 p, .int .i64 p1] 43)).frozen? ⟨g, p, none⟩ = false := frozen_later hb1 E0 E1
                have j0 : (0 : Int) ≤ (j : Int) := by omega
                have j1 : (j : Int) < (ln : Int) := by omega
                have p0' : (0 : Int) ≤ (p : Int) := by omega
                have hgr : g < wr.heap.size := HN.out.1
                clear hrow hi' hc' hp hy hb1 HJ HN hbj hkj
                go_wp2
                go_roundw
                case rel => exact ⟨j + 1, N.modify p (· + 1), by omega, by rfl, by simpa using hNt, HJX, HMX, HBX.out.mono (by omega), HKX.out⟩
                case measure => simp only [intOf]; omega
              · have HE : Hid (N = addL M l) := by have := HJ.out; rw [List.drop_eq_nil_of_le (by rw [← HLN.out]; omega)] at this; exact this
                have HKO : Hid (KeptO (fun q => q = g) W wr) := HKP3.out.trans hkj
                have hjn : j = ln := by omega
                have HBO : Hid (BndM N (2 ^ 20 * (k + 1 : Nat))) := hbj.mono (by omega)
                have HIO : Hid (markL es N (ws.drop (k + 1)) = G) := by rw [HE.out]; exact HI2.out
                have j1 : ¬ (j : Int) < (ln : Int) := by omega
                clear HJ hbj hkj HE
                go_wp2
                go_roundw
                case rel => exact ⟨k + 1, N, by omega, by rfl, hNt, HIO, HN, HBO.out, HKO.out⟩
                case measure => simp only [intOf]; omega
        · have HE : Hid (G = some M) := by have := HI.out; rw [List.drop_eq_nil_of_le (by rw [← HN1.out]; omega)] at this; exact this.symm
          have i1 : ¬ (k : Int) < (n1 : Int) := by omega
          have HBO : Hid (BndM M (2 ^ 30)) := hbn.mono (by omega)
          have HBR : Hid (Below w.heap.size w wr) := hkb
          clear HI hkb hbn hkp
          go_wp2
          refine bodyPost_ret (v := .tuple #[.slice (some ⟨g, 0, none⟩) t t, .bool true]) (by simp [results, Try.results51, go_sem]) rfl ?_
          exact .inr ⟨g, M, by rw [← HG.out, HE.out], by rw [hMt], by omega, HM.out, HBO.out, by omega, HBR.out⟩
end Go.Proofs.Ytikgcgfigcolmaa
namespace Go.Proofs.Ytikgcgfigcolmaa
open Go.RowKit
set_option linter.unusedVariables false

/-- One of them is the text. -/
def hasB (l : List ByteArray) (s : ByteArray) : Bool := l.any fun y => decide (y = s)
theorem has_drop {l : List ByteArray} {k : Nat} {x : ByteArray} (h : l[k]? = some x) (s : ByteArray) : hasB (l.drop k) s = (decide (x = s) || hasB (l.drop (k + 1)) s) := by
  have hk := (List.getElem?_eq_some_iff.1 h)
  unfold hasB
  rw [List.drop_eq_getElem_cons hk.1, hk.2, List.any_cons]

def RIdx (l : List ByteArray) (s : ByteArray) (w : World) (e : Ending) (w' : World) : Prop := Below w.heap.size w w' ∧ ((hasB l s = true ∧ ∃ k : Nat, e = .returned (.int .i64 k)) ∨ (hasB l s = false ∧ e = .returned (.int .i64 (-1))))

set_option maxRecDepth 100000 in
set_option maxHeartbeats 2000000 in
theorem index_k (l : List ByteArray) (a : Option Addr) (n c : Nat) (S : Nat → Prop) (s : ByteArray) (w : World) (h : (kRow kStr).is false w S [.slice a n c] l) :
    Calls Try.prog 113 #[.slice a n c, .string s] w (RIdx l s w) := by
  have hnl := row_len h
  have hmx : n ≤ 9223372036854775807 := by obtain ⟨_, _, _, h, _⟩ := row_form h; rw [hnl]; exact h
  have HNL : Hid (n = l.length) := hnl
  have H : Hid ((kRow kStr).is false w S [.slice a n c] l) := h
  obtain ⟨q, hq⟩ : ∃ q, q = hasB l s := ⟨_, rfl⟩
  have HQ : Hid (q = hasB l s) := hq
  clear h hnl hq
  go_enter Try.func113, Try.ntmps113
  go_wp2_with fail
  go_loopw [8] (fun iv wr => ∃ (k : Nat), k ≤ n ∧ iv = .int .i64 k ∧ Hid (hasB (l.drop k) s = q) ∧ Below w.heap.size w wr) (fun iv _ => n - (intOf iv).toNat)
  case atStart => exact ⟨0, Nat.zero_le _, rfl, HQ.out.symm, Below.refl _ _⟩
  case round =>
    obtain ⟨k, hk, rfl, HI, hnx⟩ := hrel
    by_cases hlt : k < n
    · obtain ⟨x, hx⟩ : ∃ x, l[k]? = some x := ⟨_, List.getElem?_eq_getElem (by rw [← HNL.out]; exact hlt)⟩
      obtain ⟨b, off, B, C, rfl, hb, _, hi, _, hc⟩ := row_at (Kd.below H.out hnx) hx
      obtain ⟨rfl, _⟩ := hi
      have A0 : wr.cell? ⟨b, off + k, none⟩ = some (.string x) := by have := (hc 0 _ rfl).1; simpa [kInt, kStr, kBool] using this
      have i0 : (0 : Int) ≤ (k : Int) := by omega
      have i1 : (k : Int) < (n : Int) := by omega
      have HI1 : Hid ((decide (x = s) || hasB (l.drop (k + 1)) s) = q) := by have := HI.out; rw [has_drop hx] at this; exact this
      clear hc hx HI
      by_cases hxs : x = s
      · have HF : Hid (hasB l s = true) := by have := HI1.out; rw [decide_eq_true hxs, Bool.true_or] at this; show _ = _; rw [← HQ.out, ← this]
        subst hxs
        clear HI1
        go_wp2
        go_ret
        exact ⟨hnx, .inl ⟨HF.out, k, rfl⟩⟩
      · have HI2 : Hid (hasB (l.drop (k + 1)) s = q) := by have := HI1.out; rw [decide_eq_false hxs, Bool.false_or] at this; exact this
        have heq : (s.toList == x.toList) = false := by rw [eq_texts]; exact decide_eq_false (fun e => hxs e.symm)
        have heq2 : ¬ s.toList = x.toList := by simpa using heq
        clear HI1 hxs
        go_wp2
        go_roundw
        case rel => exact ⟨k + 1, by omega, by go_num, HI2, hnx⟩
        case measure => simp [intOf]; omega
    · have HF : Hid (hasB l s = false) := by
        have := HI.out
        rw [show k = l.length by rw [← HNL.out]; omega, List.drop_length] at this
        show _ = _
        rw [← HQ.out, ← this]
        rfl
      go_wp2
      go_ret
      exact ⟨hnx, .inr ⟨HF.out, rfl⟩⟩

set_option maxRecDepth 100000 in
set_option maxHeartbeats 1000000 in
theorem contains_k (l : List ByteArray) (a : Option Addr) (n c : Nat) (S : Nat → Prop) (s : ByteArray) (w : World) (h : (kRow kStr).is false w S [.slice a n c] l) :
    Calls Try.prog 103 #[.slice a n c, .string s] w fun e w' => e = .returned (.bool (hasB l s)) ∧ Below w.heap.size w w' := by
  have hcon := index_k l a n c S s w h
  clear h
  go_enter Try.func103, Try.ntmps103
  go_wp2_with fail
  refine hcon.mono ?_
  rintro e w1 ⟨hb, ⟨hq, k, rfl⟩ | ⟨hq, rfl⟩⟩
  · have HQ : Hid (hasB l s = true) := hq
    have HB : Hid (Below w.heap.size w w1) := hb
    have i0 : (0 : Int) ≤ (k : Int) := by omega
    clear hq hb
    go_wp2
    go_ret
    exact ⟨by rw [HQ.out]; rfl, HB.out⟩
  · have HQ : Hid (hasB l s = false) := hq
    have HB : Hid (Below w.heap.size w w1) := hb
    clear hq hb
    go_wp2
    go_ret
    exact ⟨by rw [HQ.out]; rfl, HB.out⟩

set_option maxRecDepth 100000 in
set_option maxHeartbeats 2000000 in
theorem areUnlike_k (ws : List ByteArray) (a : Option Addr) (n c : Nat) (S : Nat → Prop) (w : World) (h : (kRow kStr).is true w S [.slice a n c] ws) (z : (kRow kStr).sz ws ≤ 2 ^ 20) :
    Calls Try.prog 78 #[.slice a n c] w fun e w' => e = .returned (.bool (fDistinct ws)) ∧ Below w.heap.size w w' := by
  have hnl := row_len h
  have hmx : n ≤ 9223372036854775807 := by obtain ⟨_, _, _, h, _⟩ := row_form h; rw [hnl]; exact h
  have hnc : n ≤ c := by obtain ⟨_, _, e, _, h⟩ := row_form h; simp only [List.cons.injEq, Value.slice.injEq, and_true] at e; have := h rfl; omega
  have HNL : Hid (n = ws.length) := hnl
  have H : Hid ((kRow kStr).is false w S [.slice a n c] ws) := Kd.read _ h
  have HZ : Hid ((kRow kStr).sz ws ≤ 2 ^ 20) := z
  obtain ⟨q, hq⟩ : ∃ q, q = fDistinct ws := ⟨_, rfl⟩
  have HQ : Hid (q = (unlike [] ws && decide (ws.length ≤ 5))) := hq
  rw [← hq]
  clear h hnl hq z
  by_cases c5 : (5 : Int) < (n : Int)
  · have HF : Hid (q = false) := by show _ = _; rw [HQ.out, decide_eq_false (by rw [← HNL.out]; omega), Bool.and_false]
    go_enter Try.func78, Try.ntmps78
    go_wp2
    go_ret
    exact ⟨by rw [HF.out]; rfl, Below.refl _ _⟩
  have HQ1 : Hid (unlike (ws.take 0) (ws.drop 0) = q) := by show _ = _; rw [HQ.out, decide_eq_true (by rw [← HNL.out]; omega), Bool.and_true]; simp
  clear HQ
  go_enter Try.func78, Try.ntmps78
  go_wp2_with fail
  go_loopw [10] (fun iv wr => ∃ (k : Nat), k ≤ n ∧ iv = .int .i64 k ∧ Hid (unlike (ws.take k) (ws.drop k) = q) ∧ Below w.heap.size w wr) (fun iv _ => n - (intOf iv).toNat)
  case atStart => exact ⟨0, Nat.zero_le _, rfl, HQ1, Below.refl _ _⟩
  case round =>
    obtain ⟨k, hk, rfl, HI, hnx⟩ := hrel
    by_cases hlt : k < n
    · obtain ⟨x, hx⟩ : ∃ x, ws[k]? = some x := ⟨_, List.getElem?_eq_getElem (by rw [← HNL.out]; exact hlt)⟩
      obtain ⟨b, off, B, C, hab, hb, _, hi, _, hc⟩ := row_at (Kd.below H.out hnx) hx
      obtain ⟨rfl, _⟩ := hi
      have A0 : wr.cell? ⟨b, off + k, none⟩ = some (.string x) := by have := (hc 0 _ rfl).1; simpa [kInt, kStr, kBool] using this
      have i0 : (0 : Int) ≤ (k : Int) := by omega
      have i1 : (k : Int) < (n : Int) := by omega
      have k0 : ¬ (k : Int) < 0 := by omega
      have kc : (k : Int) ≤ (c : Int) := by omega
      have HI1 : Hid (((isWordB x && !hasB (ws.take k) x) && unlike (ws.take (k + 1)) (ws.drop (k + 1))) = q) := by have := HI.out; rw [un_drop hx] at this; exact this
      have HXZ : Hid (x.size ≤ 2 ^ 20) := Nat.le_trans (sz_str hx) HZ.out
      have HRT : Hid ((kRow kStr).is false w S [.slice a k c] (ws.take k)) := row_take H.out hk
      have HBR : Hid (Below w.heap.size w wr) := hnx
      subst hab
      clear hc hx HI hb hnx
      go_wp2_with fail
      refine (isWord_k x _ HXZ.out).mono ?_
      rintro e w1 ⟨rfl, hb1⟩
      have HB1 : Hid (Below w.heap.size w w1) := HBR.out.trans (hb1.mono HBR.out.size)
      clear hb1
      cases hw : isWordB x with
      | false =>
        have HF : Hid (q = false) := by have := HI1.out; rw [hw] at this; exact this.symm
        clear HI1 hw
        go_wp2
        go_ret
        exact ⟨by rw [HF.out]; rfl, HB1.out⟩
      | true =>
        have HI2 : Hid ((!hasB (ws.take k) x && unlike (ws.take (k + 1)) (ws.drop (k + 1))) = q) := by have := HI1.out; rw [hw] at this; exact this
        clear HI1 hw
        go_wp2_with fail
        refine (contains_k (ws.take k) _ k c S x _ (Kd.below HRT.out HB1.out)).mono ?_
        rintro e w2 ⟨rfl, hb2⟩
        have HB2 : Hid (Below w.heap.size w w2) := HB1.out.trans (hb2.mono HB1.out.size)
        clear hb2
        cases hh : hasB (ws.take k) x with
        | true =>
          have HF : Hid (q = false) := by have := HI2.out; rw [hh] at this; exact this.symm
          clear HI2 hh
          go_wp2
          go_ret
          exact ⟨by rw [HF.out]; rfl, HB2.out⟩
        | false =>
          have HI3 : Hid (unlike (ws.take (k + 1)) (ws.drop (k + 1)) = q) := by have := HI2.out; rw [hh] at this; exact this
          clear HI2 hh
          go_wp2
          go_roundw
          case rel => exact ⟨k + 1, by omega, by go_num, HI3, HB2.out⟩
          case measure => simp [intOf]; omega
    · have HF : Hid (q = true) := by
        have := HI.out
        rw [show k = ws.length by rw [← HNL.out]; omega, List.drop_length, unlike] at this
        exact this.symm
      go_wp2
      go_ret
      exact ⟨by rw [HF.out]; rfl, hnx⟩

set_option maxRecDepth 100000 in
set_option maxHeartbeats 2000000 in
theorem l11Distinct_k (ws : List ByteArray) (a : Option Addr) (n c : Nat) (S : Nat → Prop) (w : World) (h : (kRow kStr).is true w S [.slice a n c] ws) (z : (kRow kStr).sz ws ≤ 2 ^ 20) :
    Calls Try.prog 75 #[.slice a n c] w fun e w' => e = .returned (.bool (fDistinct ws)) ∧ Below w.heap.size w w' := by
  have hnl := row_len h
  have hmx : n ≤ 9223372036854775807 := by obtain ⟨_, _, _, h, _⟩ := row_form h; rw [hnl]; exact h
  have hnc : n ≤ c := by obtain ⟨_, _, e, _, h⟩ := row_form h; simp only [List.cons.injEq, Value.slice.injEq, and_true] at e; have := h rfl; omega
  have HNL : Hid (n = ws.length) := hnl
  have H : Hid ((kRow kStr).is false w S [.slice a n c] ws) := Kd.read _ h
  have HZ : Hid ((kRow kStr).sz ws ≤ 2 ^ 20) := z
  obtain ⟨q, hq⟩ : ∃ q, q = fDistinct ws := ⟨_, rfl⟩
  have HQ : Hid ((unlike (ws.take 0) (ws.drop 0) && decide (ws.length ≤ 5)) = q) := hq.symm
  rw [← hq]
  clear h hnl hq z
  go_enter Try.func75, Try.ntmps75
  go_wp2_with fail
  go_loopw [9] (fun iv wr => ∃ (k : Nat), k ≤ n ∧ iv = .int .i64 k ∧ Hid ((unlike (ws.take k) (ws.drop k) && decide (ws.length ≤ 5)) = q) ∧ Below w.heap.size w wr) (fun iv _ => n - (intOf iv).toNat)
  case atStart => exact ⟨0, Nat.zero_le _, rfl, HQ, Below.refl _ _⟩
  case round =>
    obtain ⟨k, hk, rfl, HI, hnx⟩ := hrel
    by_cases hlt : k < n
    · obtain ⟨x, hx⟩ : ∃ x, ws[k]? = some x := ⟨_, List.getElem?_eq_getElem (by rw [← HNL.out]; exact hlt)⟩
      obtain ⟨b, off, B, C, hab, hb, _, hi, _, hc⟩ := row_at (Kd.below H.out hnx) hx
      obtain ⟨rfl, _⟩ := hi
      have A0 : wr.cell? ⟨b, off + k, none⟩ = some (.string x) := by have := (hc 0 _ rfl).1; simpa [kInt, kStr, kBool] using this
      have i0 : (0 : Int) ≤ (k : Int) := by omega
      have i1 : (k : Int) < (n : Int) := by omega
      have k0 : ¬ (k : Int) < 0 := by omega
      have kc : (k : Int) ≤ (c : Int) := by omega
      obtain ⟨R, hR⟩ : ∃ R, R = (unlike (ws.take (k + 1)) (ws.drop (k + 1)) && decide (ws.length ≤ 5)) := ⟨_, rfl⟩
      have HR : Hid (R = (unlike (ws.take (k + 1)) (ws.drop (k + 1)) && decide (ws.length ≤ 5))) := hR
      have HI1 : Hid ((isWordB x && (!hasB ((ws.take k).drop 0) x && R)) = q) := by
        have := HI.out
        rw [un_drop hx] at this
        simp only [Bool.and_assoc] at this
        show _ = _
        rw [hR, ← this]
        rfl
      have HXZ : Hid (x.size ≤ 2 ^ 20) := Nat.le_trans (sz_str hx) HZ.out
      have HRT : Hid ((kRow kStr).is false w S [.slice a k c] (ws.take k)) := row_take H.out hk
      have HBR : Hid (Below w.heap.size w wr) := hnx
      have HTL : Hid ((ws.take k).length = k) := by show _ = _; rw [List.length_take, ← HNL.out]; omega
      subst hab
      clear hc hx HI hb hnx hR
      go_wp2_with fail
      refine (l10Word_k x _ HXZ.out).mono ?_
      rintro e w1 ⟨rfl, hb1⟩
      have HB1 : Hid (Below w.heap.size w w1) := HBR.out.trans (hb1.mono HBR.out.size)
      clear hb1
      cases hw : isWordB x with
      | false =>
        have HF : Hid (q = false) := by have := HI1.out; rw [hw] at this; exact this.symm
        clear HI1 hw
        go_wp2
        go_ret
        exact ⟨by rw [HF.out]; rfl, HB1.out⟩
      | true =>
        have HI2 : Hid ((!hasB ((ws.take k).drop 0) x && R) = q) := by have := HI1.out; rw [hw] at this; exact this
        clear HI1 hw
        go_wp2_with fail
        go_loopw [21] (fun jv wq => ∃ (j : Nat), j ≤ k ∧ jv = .int .i64 j ∧ Hid ((!hasB ((ws.take k).drop j) x && R) = q) ∧ Below w1.heap.size w1 wq) (fun jv _ => k - (intOf jv).toNat)
        case atStart => exact ⟨0, Nat.zero_le _, rfl, HI2, Below.refl _ _⟩
        case round =>
          obtain ⟨j, hj, rfl, HJ, hnq⟩ := hrel
          have HBQ : Hid (Below w.heap.size w wr) := HB1.out.trans (hnq.mono HB1.out.size)
          by_cases hjl : j < k
          · obtain ⟨y, hy⟩ : ∃ y, (ws.take k)[j]? = some y := ⟨_, List.getElem?_eq_getElem (by rw [HTL.out]; exact hjl)⟩
            obtain ⟨b3, off3, B3, C3, hab3, hb3, _, hi3, _, hc3⟩ := row_at (Kd.below HRT.out HBQ.out) hy
            obtain ⟨rfl, _⟩ := hi3
            obtain ⟨rfl, rfl⟩ : b = b3 ∧ off = off3 := by injection hab3 with e; injection e with e1 e2; exact ⟨e1, e2⟩
            have D0 : wr.cell? ⟨b, off + j, none⟩ = some (.string y) := by have := (hc3 0 _ rfl).1; simpa [kInt, kStr, kBool] using this
            have j0 : (0 : Int) ≤ (j : Int) := by omega
            have j1 : (j : Int) < (k : Int) := by omega
            have HJ1 : Hid ((!(decide (y = x) || hasB ((ws.take k).drop (j + 1)) x) && R) = q) := by have := HJ.out; rw [has_drop hy] at this; exact this
            clear hc3 hy HJ hab3 hb3
            by_cases hyx : y = x
            · have HF : Hid (q = false) := by have := HJ1.out; rw [decide_eq_true hyx] at this; exact this.symm
              subst hyx
              clear HJ1
              go_wp2
              go_ret
              exact ⟨by rw [HF.out]; rfl, HBQ.out⟩
            · have HJ2 : Hid ((!hasB ((ws.take k).drop (j + 1)) x && R) = q) := by have := HJ1.out; rw [decide_eq_false hyx, Bool.false_or] at this; exact this
              have heq : (y.toList == x.toList) = false := by rw [eq_texts]; exact decide_eq_false hyx
              have heq2 : ¬ y.toList = x.toList := by simpa using heq
              clear HJ1 hyx
              go_wp2
              go_roundw
              case rel => exact ⟨j + 1, by omega, by go_num, HJ2, hnq⟩
              case measure => simp [intOf]; omega
          · have j1 : ¬ (j : Int) < (k : Int) := by omega
            have HE : Hid ((unlike (ws.take (k + 1)) (ws.drop (k + 1)) && decide (ws.length ≤ 5)) = q) := by
              have := HJ.out
              rw [List.drop_eq_nil_of_le (by rw [HTL.out]; omega), HR.out] at this
              exact this
            clear HJ
            go_wp2
            go_roundw
            case rel => exact ⟨k + 1, by omega, by go_num, HE, HBQ.out⟩
            case measure => simp [intOf]; omega
    · have i1 : ¬ (k : Int) < (n : Int) := by omega
      have HE : Hid (decide (n ≤ 5) = q) := by
        have := HI.out
        rw [show k = ws.length by rw [← HNL.out]; omega, List.drop_length, unlike, Bool.true_and, ← HNL.out] at this
        exact this
      by_cases c5 : (n : Int) ≤ 5
      · have HF : Hid (q = true) := by have := HE.out; rw [decide_eq_true (by omega)] at this; exact this.symm
        clear HE
        go_wp2
        go_ret
        exact ⟨by rw [HF.out]; rfl, hnx⟩
      · have HF : Hid (q = false) := by have := HE.out; rw [decide_eq_false (by omega)] at this; exact this.symm
        clear HE
        go_wp2
        go_ret
        exact ⟨by rw [HF.out]; rfl, hnx⟩
end Go.Proofs.Ytikgcgfigcolmaa
namespace Go.Proofs.Ytikgcgfigcolmaa
open Go.RowKit
set_option linter.unusedVariables false

/-- append(out, r) of rankings at a step of a statement that draws its order. -/
theorem step_rk {w : World} {ops : Array Oper} {o : Oper} {a : Act} {K : Act → World → Prop} {Q : Exit → Act → World → Prop} {E : Prop} (hgd : o.guard = none) (s x : Operand)
    (ho : o.op = .call { callee := .builtin .append, args := #[s, x], argTypes := #[47, 47] })
    (B : Nat) (v : Value) (L : List DRanking) (hs : a.eval s = v) {w0 w1 : World} (hown : RBld w0 B v L) (hb : Below w0.heap.size w0 w1) (hb2 : Below w1.heap.size w1 w) (b : Nat) (cv : Value) (r : DRanking) (hx : a.eval x = .slice (some ⟨b, 0, none⟩) 1 1) (hcv : cv.oneCell' = true) (hc : w.cell? ⟨b, 0, none⟩ = some cv)
    (hr : kRanking.is true w1 (fun k => w0.heap.size ≤ k) [cv] r)
    (hL : L.length < 2 ^ 30) (hbase : B ≤ w0.heap.size)
    (h : ∀ g cap w', RBld w' B (.slice (some ⟨g, 0, none⟩) (L.length + 1) cap) (L ++ [r]) → Below B w w' → K (a.put o.dst (.slice (some ⟨g, 0, none⟩) (L.length + 1) cap)) w') : if Region.wanted o (yielded ops a.tmps) = true then Oper.wp Try.prog o a w K Q else E := by
  obtain ⟨i0, hi, hz0, hz1, hz2⟩ := info_parts infoRkA
  obtain ⟨cs, T, h1, h2, h3, h4, h5⟩ := hown
  have hbw := hb.trans (hb2.mono hb.size)
  have z0 := hb.size
  have z1 := hb2.size
  have hbm : (cs.length + 1) * 24 ≤ 140737488355328 := by omega
  have ho2 := h2.below hbw
  refine step_append_lies w hgd s x 47 ho B 58 i0 _ 1 24 Try.underlying47 hi hz0 hz1 hz2 rfl (by decide) v cs.length (cs.flatMap vC) hs ho2 ⟨b, 0, none⟩ 1 1 (vC cv) hx rfl (fun j u hj => ?_) (fun u hu => by simp [vC] at hu; rw [hu]; exact hcv) (by decide) (by unfold maxLen; omega) hbm (by omega) _ rfl fun g cap w' h6 h7 h8 _ => ?_
  · match j, hj with
    | 0, hj =>
      obtain rfl : cv = u := by simpa [vC] using hj
      exact hc
  · have hgrew : GrewO w w' v (.slice (some ⟨g, 0, none⟩) (cs.length + 1) cap) := by
      refine ⟨⟨h7.os, h7.tape, h7.output, h7.size, fun k hk hn => h7.block k hk (fun e => hn e.symm)⟩, ?_⟩
      rcases h8 with e | e
      · exact .inl e.symm
      · exact .inr ⟨g, rfl, by omega⟩
    have hR : RBld w' B (.slice (some ⟨g, 0, none⟩) (cs.length + 1) cap) (L ++ [r]) := by
      refine RBld.grew (S := fun k => w0.heap.size ≤ k ∧ k < w1.heap.size) h1 (fun i q hq => ?_) (fun i k hik hk => ?_) h5 (Kd.below (Kd.tight _ hr (fun k hk h' => ⟨h', hk⟩)) hb2) (fun k hk => ?_) (fun i k hik hk hS => ?_) ?_ hgrew
      · obtain ⟨c', h9, h10⟩ := h3 i q hq
        exact ⟨c', h9, Kd.below h10 hbw⟩
      · obtain ⟨h9, h10, h11⟩ := h4 i k hik hk
        exact ⟨h9, by omega, h11⟩
      · exact ⟨by omega, by omega, fun e => by have := (World.ownsRow.lt h2 k e).2; omega⟩
      · have := (h4 i k hik hk).2.1
        omega
      · unfold OwnL
        rw [List.length_append, List.flatMap_append]
        simpa using h6
    rw [h1] at hR ⊢
    exact h g cap w' hR ⟨h7.os, h7.tape, h7.output, h7.size, fun k hk => h7.block k (by omega) (fun e => by have := (World.ownsRow.lt ho2 k e.symm).1; omega)⟩

/-- What RankingsFor answers. -/
def RRankingsFor (x0 : DWords) (x1 : List ByteArray) (w : World) (e : Ending) (w' : World) : Prop := ∃ (a0 : Option Addr) (n0 c0 : Nat) (T0 : Nat → Prop), e = .returned (.tuple #[.slice a0 n0 c0, .bool (fRankingsFor x0 x1).2]) ∧ (kRow kRanking).is true w' T0 [.slice a0 n0 c0] (fRankingsFor x0 x1).1 ∧ (∀ k, T0 k → w.heap.size ≤ k) ∧ sums kRanking.cnt (fRankingsFor x0 x1).1 ≤ 2 ^ 26 ∧ Below w.heap.size w w'
theorem RRankingsFor.no {x0 : DWords} {x1 : List ByteArray} {w w' : World} (h : (fGoodWords x0 && fDistinct x1) = false) (hb : Below w.heap.size w w') : RRankingsFor x0 x1 w (.returned (.tuple #[.slice none 0 0, .bool false])) w' := by
  unfold RRankingsFor fRankingsFor
  rw [if_neg (by rw [h]; exact Bool.false_ne_true)]
  exact ⟨none, 0, 0, fun _ => False, rfl, row_nil _ _ _ _ _ _, fun k hk => hk.elim, by simp [sums], hb⟩
theorem sums_small {α : Type} (f : α → Nat) (c : Nat) : ∀ (l : List α), (∀ x ∈ l, f x ≤ c) → sums f l ≤ c * l.length
  | [], _ => by simp [sums]
  | x :: t, h => by
    have h1 := h x (by simp)
    have h2 := sums_small f c t fun y hy => h y (by simp [hy])
    simp only [sums, List.length_cons, Nat.mul_add, Nat.mul_one]
    omega
theorem rks_cnt {x0 : DWords} {x1 : List ByteArray} (h : fGoodWords x0 = true) (h2 : fDistinct x1 = true) : sums kRanking.cnt (rksOf x0 x1) ≤ 2 ^ 26 := by
  have hg := rks_good h h2
  have h5 := (good_len hg).1
  have h6 := sums_small kRanking.cnt 120 (rksOf x0 x1) fun r hr => by
    have := (good_len hg).2 r hr
    show sums kScored.cnt r ≤ 120
    have e : sums kScored.cnt r = r.length * 2 := sums_const 2 r
    rw [e]
    omega
  have h7 := Nat.mul_le_mul_left 120 h5
  omega
theorem RRankingsFor.yes {x0 : DWords} {x1 : List ByteArray} {w w' : World} (h : fGoodWords x0 = true) (h2 : fDistinct x1 = true) {a : Option Addr} {n c B : Nat} (hr : (kRow kRanking).is true w' (fun q => B ≤ q) [.slice a n c] (rksOf x0 x1)) (hB : w.heap.size ≤ B) (hb : Below w.heap.size w w') : RRankingsFor x0 x1 w (.returned (.tuple #[.slice a n c, .bool true])) w' := by
  unfold RRankingsFor fRankingsFor
  rw [if_pos (by rw [h, h2]; rfl)]
  exact ⟨a, n, c, _, rfl, hr, fun k hk => Nat.le_trans hB hk, rks_cnt h h2, hb⟩
theorem rks_take {x : DWords} {ws : List ByteArray} {k : Nat} {s : ByteArray} (h : ws[k]? = some s) : rksOf x (ws.take (k + 1)) = rksOf x (ws.take k) ++ [rkOf x.1 (findL s x.2)] := by
  rw [List.take_add_one, h]
  unfold rksOf
  rw [List.map_append]
  rfl

set_option maxRecDepth 100000 in
set_option maxHeartbeats 8000000 in
theorem implRankingsFor_k (x0 : DWords) (C0 : List Value) (S0 : Nat → Prop) (x1 : List ByteArray) (a1 : Option Addr) (n1 c1 : Nat) (S1 : Nat → Prop) (w : World) (h0 : kWords.is true w S0 C0 x0) (z0 : kWords.sz x0 ≤ 2 ^ 20) (h1 : (kRow kStr).is true w S1 [.slice a1 n1 c1] x1) (z1 : (kRow kStr).sz x1 ≤ 2 ^ 20) :
    Calls Try.prog 34 #[.agg C0.toArray, .slice a1 n1 c1] w (RRankingsFor x0 x1 w) := by
  obtain ⟨tx, es⟩ := x0
  have HK : Hid (kWords.is false w S0 C0 (tx, es)) := Kd.read _ h0
  obtain ⟨a, c, T, rfl, g0, hmx, hr, _⟩ := kWords_open HK.out
  have HZ0 : Hid (kWords.sz (tx, es) ≤ 2 ^ 20) := z0
  have HZ : Hid ((kRow kEntry).sz es ≤ 2 ^ 20) := by have : kWords.sz (tx, es) = 0 + (kRow kEntry).sz es := rfl; show _ ≤ _; omega
  have HZ1 : Hid ((kRow kStr).sz x1 ≤ 2 ^ 20) := z1
  have HRW : Hid ((kRow kEntry).is false w T [.slice a es.length c] es) := hr
  have HW : Hid ((kRow kStr).is true w S1 [.slice a1 n1 c1] x1) := h1
  have HN1 : Hid (n1 = x1.length) := row_len h1
  clear h0 z0 h1 z1 hr
  show Calls Try.prog 34 #[.agg #[.int .i64 tx, .slice a es.length c], .slice a1 n1 c1] w _
  go_enter Try.func34, Try.ntmps34
  go_wp2_with fail
  refine (implGoodWords_k (tx, es) [.int .i64 tx, .slice a es.length c] S0 _ (Kd.below HK.out (below_a1r _ _)) HZ0.out).mono ?_
  rintro e w1 ⟨rfl, hb1⟩
  have X0 : w1.cell? ⟨w.heap.size, 0, none⟩ = some (.int .i64 tx) := by rw [hb1.cell (by simp)]; simp [go_sem]
  have X1 : w1.cell? ⟨w.heap.size, 1, none⟩ = some (.slice a es.length c) := by rw [hb1.cell (by simp)]; simp [go_sem]
  have HB1 : Hid (Below w.heap.size w w1) := (below_a1r _ _).trans (hb1.mono (by simp))
  clear hb1
  cases hg : fGoodWords (tx, es) with
  | false =>
    have HNO : Hid ((fGoodWords (tx, es) && fDistinct x1) = false) := by show _ = _; rw [hg]; rfl
    clear hg
    go_wp2
    refine bodyPost_ret (v := .tuple #[.slice none 0 0, .bool false]) (by simp [results, Try.results34, go_sem]) rfl ?_
    exact RRankingsFor.no HNO.out HB1.out
  | true =>
    have HG : Hid (fGoodWords (tx, es) = true) := hg
    clear hg
    go_wp2_with fail
    refine (areUnlike_k x1 a1 n1 c1 S1 _ (Kd.below HW.out HB1.out) HZ1.out).mono ?_
    rintro e w2 ⟨rfl, hb2⟩
    have Y0 := cell_later hb2 X0
    have Y1 := cell_later hb2 X1
    have HB2 : Hid (Below w.heap.size w w2) := HB1.out.trans (hb2.mono HB1.out.size)
    clear hb2 X0 X1
    cases hd : fDistinct x1 with
    | false =>
      have HNO : Hid ((fGoodWords (tx, es) && fDistinct x1) = false) := by show _ = _; rw [hd, Bool.and_false]
      clear hd
      go_wp2
      refine bodyPost_ret (v := .tuple #[.slice none 0 0, .bool false]) (by simp [results, Try.results34, go_sem]) rfl ?_
      exact RRankingsFor.no HNO.out HB2.out
    | true =>
      have HD : Hid (fDistinct x1 = true) := hd
      have hn5 : n1 ≤ 5 := by unfold fDistinct at hd; simp only [Bool.and_eq_true, decide_eq_true_eq] at hd; rw [HN1.out]; exact hd.2
      have HRI : Hid (Rises es) := good_rises HG.out
      obtain ⟨t0, t40⟩ := good_texts HG.out
      have HPW : Hid (∀ s, PostW tx (findL s es)) := good_post HG.out
      have z2 : w.heap.size ≤ w2.heap.size := HB2.out.size
      have HR2 : Hid ((kRow kEntry).is false w2 T [.slice a es.length c] es) := Kd.below HRW.out HB2.out
      clear hd
      go_wp2_with fail
      go_loopw [6, 19] (fun ov iv wr => ∃ (k : Nat), k ≤ n1 ∧ iv = .int .i64 k ∧ Hid (RBld wr w2.heap.size ov (rksOf (tx, es) (x1.take k))) ∧ Below w2.heap.size w2 wr) (fun _ iv _ => n1 - (intOf iv).toNat)
      case atStart => exact ⟨0, Nat.zero_le _, rfl, RBld.nil _ _, Below.refl _ _⟩
      case round =>
        obtain ⟨k, hk, rfl, HO, hnx⟩ := hrel
        obtain ⟨oa, oc, hov, _⟩ := HO.out.form
        subst hov
        have HLK : Hid ((rksOf (tx, es) (x1.take k)).length = k) := by show _ = _; unfold rksOf; rw [List.length_map, List.length_take, ← HN1.out]; omega
        rw [HLK.out] at HO ⊢
        have zw := hnx.size
        have HBR : Hid (Below w2.heap.size w2 wr) := hnx
        have HBW : Hid (Below w.heap.size w wr) := HB2.out.trans (hnx.mono z2)
        have Z0 : wr.cell? ⟨w.heap.size, 0, none⟩ = some (.int .i64 tx) := cell_later hnx Y0
        have Z1 : wr.cell? ⟨w.heap.size, 1, none⟩ = some (.slice a es.length c) := cell_later hnx Y1
        by_cases hlt : k < n1
        · obtain ⟨s, hx⟩ : ∃ s, x1[k]? = some s := ⟨_, List.getElem?_eq_getElem (by rw [← HN1.out]; exact hlt)⟩
          obtain ⟨b, off, B, C, rfl, hb, _, hi, _, hc⟩ := row_at (Kd.below (Kd.read _ HW.out) HBW.out) hx
          obtain ⟨rfl, _⟩ := hi
          have A0 : wr.cell? ⟨b, off + k, none⟩ = some (.string s) := by have := (hc 0 _ rfl).1; simpa [kInt, kStr, kBool] using this
          have i0 : (0 : Int) ≤ (k : Int) := by omega
          have i1 : (k : Int) < (n1 : Int) := by omega
          have HTK : Hid (rksOf (tx, es) (x1.take (k + 1)) = rksOf (tx, es) (x1.take k) ++ [rkOf tx (findL s es)]) := rks_take hx
          have HDR : Hid (Below wr.heap.size wr wr.drew) := (Below.refl _ _).drew
          have HC1 : Hid (Calls Try.prog 56 #[.agg #[.int .i64 tx, .slice a es.length c], .string s] wr.drew fun e w' => ∃ (la : Option Addr) (ln lc : Nat) (U : Nat → Prop), e = .returned (.slice la ln lc) ∧ (kRow kPosting).is false w' U [.slice la ln lc] (findL s es) ∧ (∀ k, U k → T k) ∧ Below wr.drew.heap.size wr.drew w') := listOf_k tx es s a es.length c T _ (Kd.below HR2.out HBR.out.drew) HRI.out (by have := HZ.out; have h3 : (kRow kEntry).sz es = es.length + sums kEntry.sz es := rfl; omega)
          clear hc hx hnx hb
          go_wp2_with fail
          go_region_law (first
            | (go_simp; go_at_call 56; refine HC1.out.mono ?_; rintro e w3 ⟨la, ln, lc, U, rfl, hl3, _, hb3⟩; have HL3 : Hid ((kRow kPosting).is false w3 U [.slice la ln lc] (findL s es)) := hl3; have HB3 : Hid (Below wr.heap.size wr w3) := HDR.out.trans hb3; have V0 := cell_later HB3.out Z0; clear hl3 hb3)
            | (go_simp; go_at_call 79; refine (rankingOf_k (findL s es) la ln lc U tx _ HL3.out (HPW.out s) t0 t40).mono ?_; rintro e w4 ⟨ra, rn, rc, rfl, hr4, hb4⟩; have HB4 : Hid (Below wr.heap.size wr w4) := HB3.out.trans (hb4.mono HB3.out.size); have HR4 : Hid (kRanking.is true w4 (fun q => wr.heap.size ≤ q) [.slice ra rn rc] (rkOf tx (findL s es))) := Kd.mono hr4 (fun q hq => Nat.le_trans HB3.out.size hq); clear hr4 hb4)
            | (refine step_rk (by rfl) _ _ (by rfl) w2.heap.size _ (rksOf (tx, es) (x1.take k)) (by rfl) HO.out HB4.out (below_a1r _ _) _ (.slice ra rn rc) (rkOf tx (findL s es)) (by rfl) rfl (by simp [go_sem]) HR4.out (by rw [HLK.out]; omega) zw ?_; intro g5 cap5 w5 hb5 hbl5))
          all_goals
            have HO5 : Hid (RBld w5 w2.heap.size (.slice (some ⟨g5, 0, none⟩) (k + 1) cap5) (rksOf (tx, es) (x1.take (k + 1)))) := by rw [HTK.out]; rw [HLK.out] at hb5; exact hb5
            have HB5 : Hid (Below w2.heap.size w2 w5) := HBR.out.trans (((HB4.out.trans ((below_a1r _ _).mono HB4.out.size)).mono zw).trans hbl5)
            rw [HLK.out]
            clear hb5 hbl5
            go_wp2
            go_roundw
            case rel => exact ⟨k + 1, by omega, by go_num, HO5, HB5.out⟩
            case measure => simp [intOf]; omega
        · have i1 : ¬ (k : Int) < (n1 : Int) := by omega
          have hfull : x1.take k = x1 := List.take_of_length_le (by rw [← HN1.out]; omega)
          have HRR : Hid ((kRow kRanking).is true wr (fun q => w2.heap.size ≤ q) [.slice oa k oc] (rksOf (tx, es) x1)) := by have := HO.out; rw [hfull] at this; exact this.row (by unfold rksOf; rw [List.length_map, ← HN1.out]; omega)
          clear hfull hnx
          go_wp2
          refine bodyPost_ret (v := .tuple #[.slice oa k oc, .bool true]) (by simp [results, Try.results34, go_sem]) rfl ?_
          exact RRankingsFor.yes HG.out HD.out HRR.out z2 HBW.out
end Go.Proofs.Ytikgcgfigcolmaa
namespace Go.Proofs.Ytikgcgfigcolmaa
open Go.RowKit
set_option linter.unusedVariables false

theorem putAll_one (l : List DScored) (x : DScored) : putAll l [x] = putL l x := rfl
theorem below_from {B s : Nat} {W3 W4 wq : World} (h3 : Below s W3 W4) (h : BelowBut B s W4 wq) (hs : s ≤ B) : Below s W3 wq := h3.trans ⟨h.os, h.tape, h.output, h.size, fun k hk => h.block k (by omega) (by omega)⟩
/-- The rankings, in memory of their own. -/
def RRks (x : DWords) (ws : List ByteArray) (w : World) (e : Ending) (w' : World) : Prop := ∃ (a : Option Addr) (n c : Nat), e = .returned (.slice a n c) ∧ (kRow kRanking).is true w' (fun k => w.heap.size ≤ k) [.slice a n c] (rksOf x ws) ∧ Below w.heap.size w w'

set_option maxRecDepth 100000 in
set_option maxHeartbeats 8000000 in
theorem l11Rankings_k (tx : Int) (es : List DEntry) (a : Option Addr) (c : Nat) (S0 : Nat → Prop) (x1 : List ByteArray) (a1 : Option Addr) (n1 c1 : Nat) (S1 : Nat → Prop) (w : World) (hr : (kRow kEntry).is false w S0 [.slice a es.length c] es) (z : (kRow kEntry).sz es ≤ 2 ^ 20) (h1 : (kRow kStr).is false w S1 [.slice a1 n1 c1] x1) (hg : fGoodWords (tx, es) = true) (hn5 : n1 ≤ 5) :
    Calls Try.prog 77 #[.agg #[.int .i64 tx, .slice a es.length c], .slice a1 n1 c1] w (RRks (tx, es) x1 w) := by
  have HRW : Hid ((kRow kEntry).is false w S0 [.slice a es.length c] es) := hr
  have HZ : Hid ((kRow kEntry).sz es ≤ 2 ^ 20) := z
  have HW : Hid ((kRow kStr).is false w S1 [.slice a1 n1 c1] x1) := h1
  have HN1 : Hid (n1 = x1.length) := row_len h1
  have HFU : Hid (Full es) := good_full hg
  obtain ⟨t0, t40⟩ := good_texts hg
  have HPW : Hid (∀ s, PostW tx (findL s es)) := good_post hg
  clear hr z h1 hg
  go_enter Try.func77, Try.ntmps77
  go_wp2_with fail
  obtain ⟨W0, hW0⟩ : ∃ W0, W0 = w.alloc (.cells #[.int .i64 tx, .slice a es.length c] 27) := ⟨_, rfl⟩
  rw [← hW0]
  have X0 : W0.cell? ⟨w.heap.size, 0, none⟩ = some (.int .i64 tx) := by rw [hW0]; simp [go_sem]
  have X1 : W0.cell? ⟨w.heap.size, 1, none⟩ = some (.slice a es.length c) := by rw [hW0]; simp [go_sem]
  have HB0 : Hid (Below w.heap.size w W0) := by rw [hW0]; exact below_a1r _ _
  have z0 : w.heap.size < W0.heap.size := by rw [hW0]; simp
  clear hW0
  go_loopw [5, 14] (fun ov iv wr => ∃ (k : Nat), k ≤ n1 ∧ iv = .int .i64 k ∧ Hid (RBld wr W0.heap.size ov (rksOf (tx, es) (x1.take k))) ∧ Below W0.heap.size W0 wr) (fun _ iv _ => n1 - (intOf iv).toNat)
  case atStart => exact ⟨0, Nat.zero_le _, rfl, RBld.nil _ _, Below.refl _ _⟩
  case round =>
    obtain ⟨k, hk, rfl, HO, hnx⟩ := hrel
    obtain ⟨oa, oc, hov, _⟩ := HO.out.form
    subst hov
    have HLK : Hid ((rksOf (tx, es) (x1.take k)).length = k) := by show _ = _; unfold rksOf; rw [List.length_map, List.length_take, ← HN1.out]; omega
    rw [HLK.out] at HO ⊢
    have zw := hnx.size
    have HBR : Hid (Below W0.heap.size W0 wr) := hnx
    have HBW : Hid (Below w.heap.size w wr) := HB0.out.trans (hnx.mono HB0.out.size)
    have Z0 : wr.cell? ⟨w.heap.size, 0, none⟩ = some (.int .i64 tx) := cell_later hnx X0
    have Z1 : wr.cell? ⟨w.heap.size, 1, none⟩ = some (.slice a es.length c) := cell_later hnx X1
    by_cases hlt : k < n1
    · obtain ⟨s, hx⟩ : ∃ s, x1[k]? = some s := ⟨_, List.getElem?_eq_getElem (by rw [← HN1.out]; exact hlt)⟩
      obtain ⟨b, off, B, C, rfl, hb, _, hi, _, hc⟩ := row_at (Kd.below HW.out HBW.out) hx
      obtain ⟨rfl, _⟩ := hi
      have A0 : wr.cell? ⟨b, off + k, none⟩ = some (.string s) := by have := (hc 0 _ rfl).1; simpa [kInt, kStr, kBool] using this
      have i0 : (0 : Int) ≤ (k : Int) := by omega
      have i1 : (k : Int) < (n1 : Int) := by omega
      have HTK : Hid (rksOf (tx, es) (x1.take (k + 1)) = rksOf (tx, es) (x1.take k) ++ [rkOf tx (findL s es)]) := rks_take hx
      obtain ⟨w0, hw0⟩ : ∃ w0, w0 = wr := ⟨_, rfl⟩
      have HO0 : Hid (RBld w0 W0.heap.size (.slice oa k oc) (rksOf (tx, es) (x1.take k))) := by rw [hw0]; exact HO.out
      have HBW0 : Hid (Below w.heap.size w w0) := by rw [hw0]; exact HBW.out
      have HBR0 : Hid (Below W0.heap.size W0 w0) := by rw [hw0]; exact HBR.out
      have HW0' : Hid (w0 = wr) := hw0
      clear hc hx hnx hb hw0
      go_wp2_with fail
      refine (l10Postings_k tx es s a es.length c S0 _ (Kd.below HRW.out HBW.out) HZ.out HFU.out).mono ?_
      rintro e w3 ⟨la, ln, lc, rfl, hl3, hb3⟩
      rw [← HW0'.out] at hb3
      obtain ⟨l, hl⟩ : ∃ l, l = findL s es := ⟨_, rfl⟩
      have HPL : Hid (PostW tx l) := by rw [hl]; exact HPW.out s
      have HL : Hid (l = findL s es) := hl
      rw [← hl] at hl3
      have hln : ln = l.length := row_len hl3
      have HLN : Hid (ln = l.length) := hln
      have hlt2 : (ln : Int) ≤ tx := by rw [hln]; exact HPL.out.len t0
      have HB3 : Hid (Below w0.heap.size w0 w3) := hb3
      have z3 : w0.heap.size ≤ w3.heap.size := hb3.size
      have HL3 : Hid ((kRow kPosting).is false w3 (fun q => q < w3.heap.size) [.slice la ln lc] l) := Kd.tight _ (Kd.read _ hl3) (fun q hq _ => hq)
      obtain ⟨W4, hW4⟩ : ∃ W4, W4 = w3.alloc (.cells #[.slice none 0 0] 58) := ⟨_, rfl⟩
      have HB4 : Hid (Below w3.heap.size w3 W4) := by rw [hW4]; exact below_a1r _ _
      have hz4 : W4.heap.size = w3.heap.size + 1 := by rw [hW4]; simp
      have HZ4 : Hid (W4.heap.size = w3.heap.size + 1) := hz4
      have R0 : W4.cell? ⟨w3.heap.size, 0, none⟩ = some (.slice none 0 0) := by rw [hW4]; simp [go_sem]
      have R0f : W4.frozen? ⟨w3.heap.size, 0, none⟩ = false := by rw [hW4]; simp [go_sem]
      have hwlt : w.heap.size < w3.heap.size := by have := HBR0.out.size; omega
      have T0 : w3.cell? ⟨w.heap.size, 0, none⟩ = some (.int .i64 tx) := cell_later HB3.out (cell_later HBR0.out X0)
      clear hl hl3 hln hb3 Z0 Z1 hz4
      go_wp2_with fail
      rw [← hW4]
      clear hW4
      go_loopw [24] (fun jv wq => ∃ (j : Nat) (pa : Option Addr) (pm pc : Nat) (P : List DScored), j ≤ ln ∧ jv = .int .i64 j ∧ Hid (P = putAll [] ((scOf tx ln l).take j)) ∧ Hid ((kRow kScored).is true wq (fun q => w3.heap.size + 1 ≤ q) [.slice pa pm pc] P) ∧ wq.cell? ⟨w3.heap.size, 0, none⟩ = some (.slice pa pm pc) ∧ wq.frozen? ⟨w3.heap.size, 0, none⟩ = false ∧ w3.heap.size + 1 ≤ wq.heap.size ∧ Hid (BelowBut (w3.heap.size + 1) w3.heap.size W4 wq)) (fun jv _ => ln - (intOf jv).toNat)
      case atStart => exact ⟨0, none, 0, 0, [], Nat.zero_le _, rfl, rfl, row_nil _ _ _ _ _ _, R0, R0f, by rw [HZ4.out]; exact Nat.le_refl _, bbut_refl _ _ _⟩
      case round =>
        obtain ⟨j, pa, pm, pc, P, hj, rfl, HJ, HP, hc0, hcf, hqz, HBB⟩ := hrel
        have HBQ : Hid (Below w3.heap.size w3 wr) := below_from HB4.out HBB.out (by omega)
        have U0 : wr.cell? ⟨w.heap.size, 0, none⟩ = some (.int .i64 tx) := (HBQ.out.cell (p := ⟨w.heap.size, 0, none⟩) hwlt).trans T0
        have HPL2 : Hid (P.length ≤ j) := by
          have := putAll_length ((scOf tx ln l).take j) []
          show _ ≤ _
          rw [HJ.out]
          have h2 : ((scOf tx ln l).take j).length ≤ j := by rw [List.length_take]; omega
          simp at this
          omega
        by_cases hjl : j < ln
        · obtain ⟨⟨i, m⟩, hy⟩ : ∃ y, l[j]? = some y := ⟨_, List.getElem?_eq_getElem (by rw [← HLN.out]; exact hjl)⟩
          obtain ⟨b2, off2, B2, C2, rfl, hb2, _, hi2, _, hc2⟩ := row_at (Kd.keep _ HL3.out HBQ.out.size (fun q _ hq => HBQ.out.block q hq)) hy
          obtain ⟨rfl, g0, g1⟩ := kPosting_open hi2
          have D0 : wr.cell? ⟨b2, off2 + j * 2, none⟩ = some (.int .i64 i) := (hc2 0 _ rfl).1
          have D1 : wr.cell? ⟨b2, off2 + j * 2 + 1, none⟩ = some (.int .i64 m) := (hc2 1 _ rfl).1
          have j0 : (0 : Int) ≤ (j : Int) := by omega
          have j1 : (j : Int) < (ln : Int) := by omega
          obtain ⟨⟨hi1, hi2'⟩, hm1, hm2⟩ := HPL.out.at (List.mem_of_getElem? hy)
          simp only at hi1 hi2' hm1 hm2
          obtain ⟨y1, y2⟩ := sc_bnd hm1 hm2 (b := tx - ln + 1) (by omega) (by omega)
          obtain ⟨f, hf⟩ : ∃ f, f = tx - (ln : Int) + 1 := ⟨_, rfl⟩
          have hfe : tx - (ln : Int) + 1 = f := hf.symm
          obtain ⟨y, hyy⟩ : ∃ y, y = m * f := ⟨_, rfl⟩
          have hye : m * f = y := hyy.symm
          rw [← hf, ← hyy] at y1 y2
          have HTJ : Hid ((scOf tx ln l).take (j + 1) = (scOf tx ln l).take j ++ [(i, y)]) := by show _ = _; rw [scOf_take hy, hyy, hf]
          have G0 := cell_later (below_a1r wr (.cells #[.int .i64 i, .int .i64 m] 43)) hc0
          have G1 := cell_later (below_a1r wr (.cells #[.int .i64 i, .int .i64 m] 43)) U0
          have f1 : f ≤ 41 := by omega
          have f2 : 1 ≤ f := by omega
          have HIY : Hid (IntOk i ∧ IntOk y) := by unfold IntOk; constructor <;> omega
          have HPW2 : Hid ((kRow kScored).is true (wr.alloc (.cells #[.int .i64 i, .int .i64 m] 43)) (fun q => w3.heap.size + 1 ≤ q) [.slice pa pm pc] P) := Kd.below HP.out (below_a1r _ _)
          clear hc2 hi2 hy hf hyy
          go_wp2_with fail
          refine (l11Put_k P pa pm pc _ i y _ HPW2.out (by have := HPL2.out; omega) HIY.out.1 HIY.out.2).mono ?_
          rintro e w6 ⟨a6, n6, c6, rfl, hr6, hb6⟩
          have hb6w : Below wr.heap.size wr w6 := (below_a1r _ _).trans (hb6.mono (by simp))
          have z6 : wr.heap.size ≤ w6.heap.size := hb6w.size
          have K0 : w6.cell? ⟨w3.heap.size, 0, none⟩ = some (.slice pa pm pc) := cell_later hb6w hc0
          have K0f : w6.frozen? ⟨w3.heap.size, 0, none⟩ = false := frozen_later hb6w hc0 hcf
          have HR6 : Hid ((kRow kScored).is true (w6.setCell ⟨w3.heap.size, 0, none⟩ (.slice a6 n6 c6)) (fun q => w3.heap.size + 1 ≤ q) [.slice a6 n6 c6] (putL P (i, y))) := by
            have h1 : (kRow kScored).is true w6 (fun q => w3.heap.size + 1 ≤ q) [.slice a6 n6 c6] (putL P (i, y)) := Kd.mono hr6 (fun q hq => by rcases hq with h | h; exact h; simp at h; omega)
            exact Kd.kept (S' := fun q => q = w3.heap.size) h1 ⟨rfl, rfl, rfl, by simp, fun q hq hn => heap_set_ne hn⟩ (fun q _ h h' => by have h2 : w3.heap.size + 1 ≤ q := h; have h3 : q = w3.heap.size := h'; omega)
          have HBB6 : Hid (BelowBut (w3.heap.size + 1) w3.heap.size W4 (w6.setCell ⟨w3.heap.size, 0, none⟩ (.slice a6 n6 c6))) := set_bbut (bbut_trans HBB.out (below_but hb6w hqz))
          have K1 : (w6.setCell ⟨w3.heap.size, 0, none⟩ (.slice a6 n6 c6)).cell? ⟨w3.heap.size, 0, none⟩ = some (.slice a6 n6 c6) := set_same K0
          have K1f : (w6.setCell ⟨w3.heap.size, 0, none⟩ (.slice a6 n6 c6)).frozen? ⟨w3.heap.size, 0, none⟩ = false := frozen_set K0f
          clear hr6 hb6 hb6w G0 G1
          go_wp2
          go_roundw
          case rel => exact ⟨j + 1, a6, n6, c6, putL P (i, y), by omega, by go_num, by show _ = _; rw [HTJ.out, putAll_append, ← HJ.out, putAll_one], HR6, K1, K1f, by simp; omega, HBB6⟩
          case measure => simp [intOf]; omega
        · have j1 : ¬ (j : Int) < (ln : Int) := by omega
          have HE : Hid (P = rkOf tx (findL s es)) := by show _ = _; rw [HJ.out, List.take_of_length_le (by unfold scOf; rw [List.length_map, ← HLN.out]; omega), ← HL.out, HLN.out]; rfl
          have HB7 : Hid (Below w0.heap.size w0 wr) := HB3.out.trans (HBQ.out.mono z3)
          have HRK : Hid (kRanking.is true wr (fun q => w0.heap.size ≤ q) [.slice pa pm pc] (rkOf tx (findL s es))) := by rw [← HE.out]; exact Kd.mono HP.out (fun q hq => by have h2 : w3.heap.size + 1 ≤ q := hq; show w0.heap.size ≤ q; omega)
          have z0w : W0.heap.size ≤ w0.heap.size := HBR0.out.size
          have z7 : w0.heap.size ≤ wr.heap.size := HB7.out.size
          clear HJ HP
          go_wp2_with (at_builtin; go_loud (refine app_rk rfl _ _ rfl W0.heap.size _ (rksOf (tx, es) (x1.take k)) rfl HO0.out HB7.out (below_a1r _ _) _ (.slice pa pm pc) (rkOf tx (findL s es)) rfl rfl (by simp [go_sem]) HRK.out (by rw [HLK.out]; omega) z0w ?_))
          intro v8 w8 hb8 hbl8
          have HO8 : Hid (RBld w8 W0.heap.size v8 (rksOf (tx, es) (x1.take (k + 1)))) := by rw [HTK.out]; exact hb8
          have HB8 : Hid (Below W0.heap.size W0 w8) := HBR0.out.trans (((HB7.out.trans ((below_a1r _ _).mono z7)).mono z0w).trans hbl8)
          clear hb8 hbl8
          go_wp2_with fail
          go_roundw
          case rel => exact ⟨k + 1, by omega, by go_num, HO8, HB8.out⟩
          case measure => simp [intOf]; omega
    · have i1 : ¬ (k : Int) < (n1 : Int) := by omega
      have hfull : x1.take k = x1 := List.take_of_length_le (by rw [← HN1.out]; omega)
      have HRR : Hid ((kRow kRanking).is true wr (fun q => w.heap.size ≤ q) [.slice oa k oc] (rksOf (tx, es) x1)) := by have := HO.out; rw [hfull] at this; exact Kd.mono (this.row (by unfold rksOf; rw [List.length_map, ← HN1.out]; omega)) (fun q hq => by have h2 : W0.heap.size ≤ q := hq; show w.heap.size ≤ q; omega)
      clear hfull hnx
      go_wp2
      go_ret
      exact ⟨oa, k, oc, rfl, HRR.out, HBW.out⟩
end Go.Proofs.Ytikgcgfigcolmaa
namespace Go.Proofs.Ytikgcgfigcolmaa
open Go.RowKit
set_option linter.unusedVariables false

/-- What ScoreOf answers. -/
def RScoreOf (x0 : DWords) (x1 : List ByteArray) (x2 : Int) (w : World) (e : Ending) (w' : World) : Prop := e = .returned (.tuple #[.int .i64 (fScoreOf x0 x1 x2).1, .bool (fScoreOf x0 x1 x2).2]) ∧ IntOk (fScoreOf x0 x1 x2).1 ∧ Below w.heap.size w w'
theorem RScoreOf.no {x0 : DWords} {x1 : List ByteArray} {x2 : Int} {w w' : World} (h : ((fGoodWords x0 && fDistinct x1) && decide (0 ≤ x2 ∧ x2 ≤ x0.1 - 1)) = false) (hb : Below w.heap.size w w') : RScoreOf x0 x1 x2 w (.returned (.tuple #[.int .i64 0, .bool false])) w' := by
  unfold RScoreOf fScoreOf
  rw [if_neg (by rw [h]; exact Bool.false_ne_true)]
  exact ⟨rfl, ⟨by decide, by decide⟩, hb⟩
theorem RScoreOf.no1 {x0 : DWords} {x1 : List ByteArray} {x2 : Int} {w w' : World} (h : (fGoodWords x0 && fDistinct x1) = false) (hb : Below w.heap.size w w') : RScoreOf x0 x1 x2 w (.returned (.tuple #[.int .i64 0, .bool false])) w' := RScoreOf.no (by rw [h]; rfl) hb
theorem RScoreOf.yes {x0 : DWords} {x1 : List ByteArray} {x2 : Int} {w w' : World} (h : fGoodWords x0 = true) (h2 : fDistinct x1 = true) (h3 : 0 ≤ x2 ∧ x2 ≤ x0.1 - 1) (hb : Below w.heap.size w w') : RScoreOf x0 x1 x2 w (.returned (.tuple #[.int .i64 (sumL (rksOf x0 x1) x2), .bool true])) w' := by
  unfold RScoreOf fScoreOf
  rw [if_pos (by rw [h, h2, decide_eq_true h3]; rfl)]
  have hg := rks_good h h2
  have h4 := sumL_bnd (fun r hr y hy => (good_sc hg r hr y hy).1) x2
  have h5 := (good_len hg).1
  exact ⟨rfl, by unfold IntOk; show _ ∧ _; simp only; omega, hb⟩

set_option maxRecDepth 100000 in
set_option maxHeartbeats 4000000 in
theorem specRankingsFor_k (x0 : DWords) (C0 : List Value) (S0 : Nat → Prop) (x1 : List ByteArray) (a1 : Option Addr) (n1 c1 : Nat) (S1 : Nat → Prop) (w : World) (h0 : kWords.is true w S0 C0 x0) (z0 : kWords.sz x0 ≤ 2 ^ 20) (h1 : (kRow kStr).is true w S1 [.slice a1 n1 c1] x1) (z1 : (kRow kStr).sz x1 ≤ 2 ^ 20) :
    Calls Try.prog 35 #[.agg C0.toArray, .slice a1 n1 c1] w (RRankingsFor x0 x1 w) := by
  obtain ⟨tx, es⟩ := x0
  have HKT : Hid (kWords.is true w S0 C0 (tx, es)) := h0
  have HK : Hid (kWords.is false w S0 C0 (tx, es)) := Kd.read _ h0
  obtain ⟨a, c, T, rfl, g0, hmx, hr, _⟩ := kWords_open HK.out
  have HZ0 : Hid (kWords.sz (tx, es) ≤ 2 ^ 20) := z0
  have HZ : Hid ((kRow kEntry).sz es ≤ 2 ^ 20) := by have : kWords.sz (tx, es) = 0 + (kRow kEntry).sz es := rfl; show _ ≤ _; omega
  have HZ1 : Hid ((kRow kStr).sz x1 ≤ 2 ^ 20) := z1
  have HRW : Hid ((kRow kEntry).is false w T [.slice a es.length c] es) := hr
  have HW : Hid ((kRow kStr).is true w S1 [.slice a1 n1 c1] x1) := h1
  have HN1 : Hid (n1 = x1.length) := row_len h1
  clear h0 z0 h1 z1 hr
  show Calls Try.prog 35 #[.agg #[.int .i64 tx, .slice a es.length c], .slice a1 n1 c1] w _
  go_enter Try.func35, Try.ntmps35
  go_wp2_with fail
  refine (specGoodWords_k (tx, es) [.int .i64 tx, .slice a es.length c] S0 _ (Kd.below HK.out (below_a1r _ _)) HZ0.out).mono ?_
  rintro e w1 ⟨rfl, hb1⟩
  have X0 : w1.cell? ⟨w.heap.size, 0, none⟩ = some (.int .i64 tx) := by rw [hb1.cell (by simp)]; simp [go_sem]
  have X1 : w1.cell? ⟨w.heap.size, 1, none⟩ = some (.slice a es.length c) := by rw [hb1.cell (by simp)]; simp [go_sem]
  have HB1 : Hid (Below w.heap.size w w1) := (below_a1r _ _).trans (hb1.mono (by simp))
  clear hb1
  cases hg : fGoodWords (tx, es) with
  | false =>
    have HNO : Hid ((fGoodWords (tx, es) && fDistinct x1) = false) := by show _ = _; rw [hg]; rfl
    clear hg
    go_wp2
    refine bodyPost_ret (v := .tuple #[.slice none 0 0, .bool false]) (by simp [results, Try.results35, go_sem]) rfl ?_
    exact RRankingsFor.no HNO.out HB1.out
  | true =>
    have HG : Hid (fGoodWords (tx, es) = true) := hg
    clear hg
    go_wp2_with fail
    refine (l11Distinct_k x1 a1 n1 c1 S1 _ (Kd.below HW.out HB1.out) HZ1.out).mono ?_
    rintro e w2 ⟨rfl, hb2⟩
    have Y0 := cell_later hb2 X0
    have Y1 := cell_later hb2 X1
    have HB2 : Hid (Below w.heap.size w w2) := HB1.out.trans (hb2.mono HB1.out.size)
    clear hb2 X0 X1
    cases hd : fDistinct x1 with
    | false =>
      have HNO : Hid ((fGoodWords (tx, es) && fDistinct x1) = false) := by show _ = _; rw [hd, Bool.and_false]
      clear hd
      go_wp2
      refine bodyPost_ret (v := .tuple #[.slice none 0 0, .bool false]) (by simp [results, Try.results35, go_sem]) rfl ?_
      exact RRankingsFor.no HNO.out HB2.out
    | true =>
      have HD : Hid (fDistinct x1 = true) := hd
      have hn5 : n1 ≤ 5 := by unfold fDistinct at hd; simp only [Bool.and_eq_true, decide_eq_true_eq] at hd; rw [HN1.out]; exact hd.2
      obtain ⟨t0, t40⟩ := good_texts HG.out
      have z2 : w.heap.size ≤ w2.heap.size := HB2.out.size
      clear hd
      go_wp2_with fail
      refine (l11Rankings_k tx es a c T x1 a1 n1 c1 S1 _ (Kd.below HRW.out HB2.out) HZ.out (Kd.below (Kd.read _ HW.out) HB2.out) HG.out hn5).mono ?_
      rintro e w3 ⟨ra, rn, rc, rfl, hr3, hb3⟩
      have HR3 : Hid ((kRow kRanking).is true w3 (fun q => w2.heap.size ≤ q) [.slice ra rn rc] (rksOf (tx, es) x1)) := hr3
      have HB3 : Hid (Below w.heap.size w w3) := HB2.out.trans (hb3.mono z2)
      have z3 : w.heap.size ≤ w3.heap.size := HB3.out.size
      clear hr3 hb3
      go_wp2
      refine bodyPost_ret (v := .tuple #[.slice ra rn rc, .bool true]) (by simp [results, Try.results35, go_sem]) rfl ?_
      exact RRankingsFor.yes HG.out HD.out HR3.out z2 HB3.out

set_option maxRecDepth 100000 in
set_option maxHeartbeats 4000000 in
theorem specScoreOf_k (x0 : DWords) (C0 : List Value) (S0 : Nat → Prop) (x1 : List ByteArray) (a1 : Option Addr) (n1 c1 : Nat) (S1 : Nat → Prop) (x2 : Int) (w : World) (h0 : kWords.is true w S0 C0 x0) (z0 : kWords.sz x0 ≤ 2 ^ 20) (h1 : (kRow kStr).is true w S1 [.slice a1 n1 c1] x1) (z1 : (kRow kStr).sz x1 ≤ 2 ^ 20) (h2 : IntOk x2) :
    Calls Try.prog 37 #[.agg C0.toArray, .slice a1 n1 c1, .int .i64 x2] w (RScoreOf x0 x1 x2 w) := by
  obtain ⟨tx, es⟩ := x0
  have HKT : Hid (kWords.is true w S0 C0 (tx, es)) := h0
  have HK : Hid (kWords.is false w S0 C0 (tx, es)) := Kd.read _ h0
  obtain ⟨a, c, T, rfl, g0, hmx, hr, _⟩ := kWords_open HK.out
  have HZ0 : Hid (kWords.sz (tx, es) ≤ 2 ^ 20) := z0
  have HZ : Hid ((kRow kEntry).sz es ≤ 2 ^ 20) := by have : kWords.sz (tx, es) = 0 + (kRow kEntry).sz es := rfl; show _ ≤ _; omega
  have HZ1 : Hid ((kRow kStr).sz x1 ≤ 2 ^ 20) := z1
  have HRW : Hid ((kRow kEntry).is false w T [.slice a es.length c] es) := hr
  have HW : Hid ((kRow kStr).is true w S1 [.slice a1 n1 c1] x1) := h1
  have HN1 : Hid (n1 = x1.length) := row_len h1
  clear h0 z0 h1 z1 hr
  show Calls Try.prog 37 #[.agg #[.int .i64 tx, .slice a es.length c], .slice a1 n1 c1, .int .i64 x2] w _
  go_enter Try.func37, Try.ntmps37
  go_wp2_with fail
  refine (specGoodWords_k (tx, es) [.int .i64 tx, .slice a es.length c] S0 _ (Kd.below HK.out (below_a1r _ _)) HZ0.out).mono ?_
  rintro e w1 ⟨rfl, hb1⟩
  have X0 : w1.cell? ⟨w.heap.size, 0, none⟩ = some (.int .i64 tx) := by rw [hb1.cell (by simp)]; simp [go_sem]
  have X1 : w1.cell? ⟨w.heap.size, 1, none⟩ = some (.slice a es.length c) := by rw [hb1.cell (by simp)]; simp [go_sem]
  have HB1 : Hid (Below w.heap.size w w1) := (below_a1r _ _).trans (hb1.mono (by simp))
  clear hb1
  cases hg : fGoodWords (tx, es) with
  | false =>
    have HNO : Hid ((fGoodWords (tx, es) && fDistinct x1) = false) := by show _ = _; rw [hg]; rfl
    clear hg
    go_wp2
    refine bodyPost_ret (v := .tuple #[.int .i64 0, .bool false]) (by simp [results, Try.results37, go_sem]) rfl ?_
    exact RScoreOf.no1 HNO.out HB1.out
  | true =>
    have HG : Hid (fGoodWords (tx, es) = true) := hg
    clear hg
    go_wp2_with fail
    refine (l11Distinct_k x1 a1 n1 c1 S1 _ (Kd.below HW.out HB1.out) HZ1.out).mono ?_
    rintro e w2 ⟨rfl, hb2⟩
    have Y0 := cell_later hb2 X0
    have Y1 := cell_later hb2 X1
    have HB2 : Hid (Below w.heap.size w w2) := HB1.out.trans (hb2.mono HB1.out.size)
    clear hb2 X0 X1
    cases hd : fDistinct x1 with
    | false =>
      have HNO : Hid ((fGoodWords (tx, es) && fDistinct x1) = false) := by show _ = _; rw [hd, Bool.and_false]
      clear hd
      go_wp2
      refine bodyPost_ret (v := .tuple #[.int .i64 0, .bool false]) (by simp [results, Try.results37, go_sem]) rfl ?_
      exact RScoreOf.no1 HNO.out HB2.out
    | true =>
      have HD : Hid (fDistinct x1 = true) := hd
      have hn5 : n1 ≤ 5 := by unfold fDistinct at hd; simp only [Bool.and_eq_true, decide_eq_true_eq] at hd; rw [HN1.out]; exact hd.2
      obtain ⟨t0, t40⟩ := good_texts HG.out
      have z2 : w.heap.size ≤ w2.heap.size := HB2.out.size
      clear hd
      go_wp2_with fail
      refine (l1In_k x2 0 (tx - 1) _).mono ?_
      rintro e w4 ⟨rfl, rfl⟩
      by_cases hk : 0 ≤ x2 ∧ x2 ≤ tx - 1
      · rw [decide_eq_true hk]
        have HK2 : Hid (0 ≤ x2 ∧ x2 ≤ (tx, es).1 - 1) := hk
        clear hk
        go_wp2_with fail
        refine (l11Rankings_k tx es a c T x1 a1 n1 c1 S1 _ (Kd.below HRW.out HB2.out) HZ.out (Kd.below (Kd.read _ HW.out) HB2.out) HG.out hn5).mono ?_
        rintro e w3 ⟨ra, rn, rc, rfl, hr3, hb3⟩
        have HR3 : Hid ((kRow kRanking).is true w3 (fun q => w4.heap.size ≤ q) [.slice ra rn rc] (rksOf (tx, es) x1)) := hr3
        have HB3 : Hid (Below w.heap.size w w3) := HB2.out.trans (hb3.mono z2)
        have z3 : w.heap.size ≤ w3.heap.size := HB3.out.size
        clear hr3 hb3
        go_wp2_with fail
        refine (l11Sum_k (rksOf (tx, es) x1) ra rn rc _ x2 _ (Kd.read _ HR3.out) (good_sumOk (rks_good HG.out HD.out))).mono ?_
        rintro e w5 ⟨rfl, hb5⟩
        have HB5 : Hid (Below w.heap.size w w5) := HB3.out.trans (hb5.mono z3)
        have HY := RScoreOf.yes (w := w) (w' := w5) HG.out HD.out HK2.out HB5.out
        have HYY : Hid (RScoreOf (tx, es) x1 x2 w (.returned (.tuple #[.int .i64 (sumL (rksOf (tx, es) x1) x2), .bool true])) w5) := HY
        clear hb5 HY
        generalize sumL (rksOf (tx, es) x1) x2 = sm at *
        go_wp2
        refine bodyPost_ret (v := .tuple #[.int .i64 sm, .bool true]) (by simp [results, Try.results37, go_sem]) rfl ?_
        exact HYY.out
      · rw [decide_eq_false hk]
        have HNO : Hid (((fGoodWords (tx, es) && fDistinct x1) && decide (0 ≤ x2 ∧ x2 ≤ (tx, es).1 - 1)) = false) := by show _ = _; rw [decide_eq_false hk, Bool.and_false]
        clear hk
        go_wp2
        refine bodyPost_ret (v := .tuple #[.int .i64 0, .bool false]) (by simp [results, Try.results37, go_sem]) rfl ?_
        exact RScoreOf.no HNO.out HB2.out

set_option maxRecDepth 100000 in
set_option maxHeartbeats 4000000 in
theorem implScoreOf_k (x0 : DWords) (C0 : List Value) (S0 : Nat → Prop) (x1 : List ByteArray) (a1 : Option Addr) (n1 c1 : Nat) (S1 : Nat → Prop) (x2 : Int) (w : World) (h0 : kWords.is true w S0 C0 x0) (z0 : kWords.sz x0 ≤ 2 ^ 20) (h1 : (kRow kStr).is true w S1 [.slice a1 n1 c1] x1) (z1 : (kRow kStr).sz x1 ≤ 2 ^ 20) (h2 : IntOk x2) :
    Calls Try.prog 36 #[.agg C0.toArray, .slice a1 n1 c1, .int .i64 x2] w (RScoreOf x0 x1 x2 w) := by
  obtain ⟨tx, es⟩ := x0
  have HKT : Hid (kWords.is true w S0 C0 (tx, es)) := h0
  have HK : Hid (kWords.is false w S0 C0 (tx, es)) := Kd.read _ h0
  obtain ⟨a, c, T, rfl, g0, hmx, hr, _⟩ := kWords_open HK.out
  have HZ0 : Hid (kWords.sz (tx, es) ≤ 2 ^ 20) := z0
  have HZ : Hid ((kRow kEntry).sz es ≤ 2 ^ 20) := by have : kWords.sz (tx, es) = 0 + (kRow kEntry).sz es := rfl; show _ ≤ _; omega
  have HZ1 : Hid ((kRow kStr).sz x1 ≤ 2 ^ 20) := z1
  have HRW : Hid ((kRow kEntry).is false w T [.slice a es.length c] es) := hr
  have HW : Hid ((kRow kStr).is true w S1 [.slice a1 n1 c1] x1) := h1
  have HN1 : Hid (n1 = x1.length) := row_len h1
  clear h0 z0 h1 z1 hr
  show Calls Try.prog 36 #[.agg #[.int .i64 tx, .slice a es.length c], .slice a1 n1 c1, .int .i64 x2] w _
  go_enter Try.func36, Try.ntmps36
  go_wp2_with fail
  refine (implRankingsFor_k (tx, es) [.int .i64 tx, .slice a es.length c] S0 x1 a1 n1 c1 S1 _ (Kd.below HKT.out (below_a1r _ _)) HZ0.out (Kd.below HW.out (below_a1r _ _)) HZ1.out).mono ?_
  rintro e w3 ⟨ra, rn, rc, T3, rfl, hr3, hT3, _, hb3⟩
  have Y0 : w3.cell? ⟨w.heap.size, 0, none⟩ = some (.int .i64 tx) := by rw [hb3.cell (by simp)]; simp [go_sem]
  have HB3 : Hid (Below w.heap.size w w3) := (below_a1r _ _).trans (hb3.mono (by simp))
  have z3 : w.heap.size ≤ w3.heap.size := HB3.out.size
  clear hb3
  cases hgd : (fGoodWords (tx, es) && fDistinct x1) with
  | false =>
    have e : fRankingsFor (tx, es) x1 = ([], false) := by unfold fRankingsFor; rw [if_neg (by rw [hgd]; exact Bool.false_ne_true)]
    have HNO : Hid ((fGoodWords (tx, es) && fDistinct x1) = false) := hgd
    rw [e]
    clear hgd e hr3 hT3
    go_wp2
    refine bodyPost_ret (v := .tuple #[.int .i64 0, .bool false]) (by simp [results, Try.results36, go_sem]) rfl ?_
    exact RScoreOf.no1 HNO.out HB3.out
  | true =>
    have e : fRankingsFor (tx, es) x1 = (rksOf (tx, es) x1, true) := by unfold fRankingsFor; rw [if_pos hgd]
    rw [e] at hr3 ⊢
    obtain ⟨hg', hd'⟩ : fGoodWords (tx, es) = true ∧ fDistinct x1 = true := by simpa using hgd
    have HG : Hid (fGoodWords (tx, es) = true) := hg'
    have HD : Hid (fDistinct x1 = true) := hd'
    have HR3 : Hid ((kRow kRanking).is true w3 T3 [.slice ra rn rc] (rksOf (tx, es) x1)) := hr3
    obtain ⟨t0, t40⟩ := good_texts HG.out
    clear hgd e hr3 hg' hd'
    clear hT3
    by_cases k1 : x2 < 0
    · have HNO : Hid (((fGoodWords (tx, es) && fDistinct x1) && decide (0 ≤ x2 ∧ x2 ≤ (tx, es).1 - 1)) = false) := by show _ = _; rw [decide_eq_false (by omega), Bool.and_false]
      go_wp2
      refine bodyPost_ret (v := .tuple #[.int .i64 0, .bool false]) (by simp [results, Try.results36, go_sem]) rfl ?_
      exact RScoreOf.no HNO.out HB3.out
    · by_cases k2 : tx ≤ x2
      · have HNO : Hid (((fGoodWords (tx, es) && fDistinct x1) && decide (0 ≤ x2 ∧ x2 ≤ (tx, es).1 - 1)) = false) := by show _ = _; rw [decide_eq_false (by show ¬ (0 ≤ x2 ∧ x2 ≤ tx - 1); omega), Bool.and_false]
        go_wp2
        refine bodyPost_ret (v := .tuple #[.int .i64 0, .bool false]) (by simp [results, Try.results36, go_sem]) rfl ?_
        exact RScoreOf.no HNO.out HB3.out
      · have HK2 : Hid (0 ≤ x2 ∧ x2 ≤ (tx, es).1 - 1) := by show 0 ≤ x2 ∧ x2 ≤ tx - 1; omega
        go_wp2_with fail
        refine (sumIn_k (rksOf (tx, es) x1) ra rn rc _ x2 _ (Kd.read _ HR3.out) (good_sumOk (rks_good HG.out HD.out))).mono ?_
        rintro e w5 ⟨rfl, hb5⟩
        have HB5 : Hid (Below w.heap.size w w5) := HB3.out.trans (hb5.mono z3)
        have HY := RScoreOf.yes (w := w) (w' := w5) HG.out HD.out HK2.out HB5.out
        have HYY : Hid (RScoreOf (tx, es) x1 x2 w (.returned (.tuple #[.int .i64 (sumL (rksOf (tx, es) x1) x2), .bool true])) w5) := HY
        clear hb5 HY
        generalize sumL (rksOf (tx, es) x1) x2 = sm at *
        go_wp2
        refine bodyPost_ret (v := .tuple #[.int .i64 sm, .bool true]) (by simp [results, Try.results36, go_sem]) rfl ?_
        exact HYY.out
end Go.Proofs.Ytikgcgfigcolmaa
