/- Rankings that are drawn: some few lists of few. No condition but that they fit in memory. What the law of the best few draws. No condition but that it fits in memory. What the law of ranked texts draws. No condition but that it fits in memory. The best few of several lists: what the law asks of them. No condition. sameScored of lists that are the same. No condition. Words that are good: the program's. No condition but that they fit in memory. An entry looked for by halving: the program's listOf. No condition but that the words rise. An entry looked for by halving: slices.BinarySearchFunc. No condition but that the words rise. Postings copied: append of a whole list behind none, and the program's slices.Clone. No condition. A word's postings: the program's listOf and PostingsOf. No condition but that they fit in memory. A word's postings: the specification's. No condition but that they fit in memory. -/
import Derived.Test.YtikgcgfigcolmaaQCuX
import Derived.Test.YtikgcgfigcolmaaQRpP
import Derived.Deep.RegionWith
import Derived.Deep.DeepFit
import Derived.Test.YtikgcgfigcolmaaRkG
import Derived.Test.YtikgcgfigcolmaaQb
import Derived.Test.YtikgcgfigcolmaaCur
import Derived.Test.YtikgcgfigcolmaaWgM
import Derived.Test.YtikgcgfigcolmaaWdI
import Derived.Test.YtikgcgfigcolmaaPoI
import Derived.Test.YtikgcgfigcolmaaLoM
import Derived.Test.YtikgcgfigcolmaaUpJ
import Derived.RangeFuncNested
import Derived.Test.YtikgcgfigcolmaaWgS
namespace Go.Proofs.Ytikgcgfigcolmaa
open Go.RowKit
set_option linter.unusedVariables false

/-- append(out, r) of rankings, where blocks ahead of all rows may have turned. -/
theorem app_rk2 {w : World} {ops : Array Oper} {rest : List Oper} {o : Oper} {a : Act} {Q : Exit → Act → World → Prop} (hgd : o.guard = none) (s x : Operand)
    (ho : o.op = .call { callee := .builtin .append, args := #[s, x], argTypes := #[47, 47] })
    (B : Nat) (v : Value) (L : List DRanking) (hs : a.eval s = v) {w0 : World} {A S : Nat → Prop} (hown : RBld w0 B v L) (hk : KeptO A w0 w) (hA : ∀ k, B ≤ k → k < w0.heap.size → ¬ A k) (b : Nat) (cv : Value) (r : DRanking) (hx : a.eval x = .slice (some ⟨b, 0, none⟩) 1 1) (hcv : cv.oneCell' = true) (hc : w.cell? ⟨b, 0, none⟩ = some cv)
    (hr : kRanking.is true w S [cv] r) (hS : ∀ k, S k → w0.heap.size ≤ k)
    (hL : L.length < 2 ^ 30) (hbase : B ≤ w0.heap.size)
    (h : ∀ v' w', RBld w' B v' (L ++ [r]) → Below B w w' → wpList Try.prog ops Q rest (a.put o.dst v') w') : wpList Try.prog ops Q (o :: rest) a w := by
  obtain ⟨i0, hi, hz0, hz1, hz2⟩ := info_parts infoRkA
  obtain ⟨cs, T, h1, h2, h3, h4, h5⟩ := hown
  have z0 := hk.size
  have h2' : OwnL vC 58 1 w B v cs := by
    obtain ⟨q1, q2 | ⟨g, cap, cur, e, q3, q4, q5⟩⟩ := h2
    · exact ⟨q1, .inl q2⟩
    · have hg := (Array.getElem?_eq_some_iff.1 q4).1
      exact ⟨q1, .inr ⟨g, cap, cur, e, q3, by rw [hk.block g hg (hA g q3 hg)]; exact q4, q5⟩⟩
  refine wpList_app1 vC hgd s x 47 ho B 58 i0 _ 1 24 Try.underlying47 hi hz0 hz1 hz2 rfl (by decide) (by decide) v cs hs h2' b cv hx rfl (fun u hu => by simp [vC] at hu; rw [hu]; exact hcv) (fun j u hj => by
    match j, hj with
    | 0, hj => obtain rfl : cv = u := by simpa [vC] using hj
               exact hc) (by omega) (by omega) fun v' w' ho' hb' hg' => h v' w' ?_ hb'
  refine RBld.grew (S := fun k => S k ∧ k < w.heap.size) h1 (fun i q hq => ?_) (fun i k hik hk' => ?_) h5 (Kd.tight _ hr (fun k hk h' => ⟨h', hk⟩)) (fun k hk' => ?_) (fun i k hik hk' hS' => ?_) ho' hg'.o
  · obtain ⟨c', h6, h7⟩ := h3 i q hq
    have hil : i < L.length := (List.getElem?_eq_some_iff.1 hq).1
    exact ⟨c', h6, Kd.kept h7 hk (fun k hkw hT => hA k (h4 i k hil hT).1 hkw)⟩
  · obtain ⟨h6, h7, h8⟩ := h4 i k hik hk'
    exact ⟨h6, by omega, h8⟩
  · have hS1 := hS k hk'.1
    exact ⟨by omega, hk'.2, fun e => by have := (World.ownsRow.lt h2 k e).2; omega⟩
  · have := (h4 i k hik hk').2.1
    have := hS k hS'.1
    omega
theorem RBld.kept {w w' : World} {A : Nat → Prop} {B : Nat} {v : Value} {L : List DRanking} (h : RBld w B v L) (hk : KeptO A w w') (hA : ∀ k, B ≤ k → ¬ A k) : RBld w' B v L := by
  obtain ⟨cs, T, h1, h2, h3, h4, h5⟩ := h
  refine ⟨cs, T, h1, h2.kept hk hA, fun i r hr => ?_, fun i k hi hk' => ?_, h5⟩
  · obtain ⟨cv, h6, h7⟩ := h3 i r hr
    have hil : i < L.length := (List.getElem?_eq_some_iff.1 hr).1
    exact ⟨cv, h6, Kd.kept h7 hk (fun k _ hT => hA k (h4 i k hil hT).1)⟩
  · obtain ⟨h6, h7, h8⟩ := h4 i k hi hk'
    exact ⟨h6, Nat.lt_of_lt_of_le h7 hk.size, h8⟩
/-- Some few lists of few. -/
def Few (l : List DRanking) : Prop := l.length ≤ 4 ∧ ∀ r ∈ l, r.length ≤ 8
def RDrk (w : World) (g : Nat) (S : Nat → Prop) (m : Int) (e : Ending) (w' : World) : Prop := ∃ (a : Option Addr) (n c : Nat) (T : Nat → Prop) (l : List DRanking), e = .returned (.slice a n c) ∧ (kRow kRanking).is true w' T [.slice a n c] l ∧ (∀ k, T k → w.heap.size ≤ k) ∧ Few l ∧ CurAt w' g S m ∧ KeptO (fun k => k = g) w w'
/-- The first score of the first list written anew. -/
theorem rk_put {w wr w3 : World} {g w1s : Nat} {S : Nat → Prop} {m : Int} {b off ln oc b2 off2 mm lc : Nat} {L : List DRanking} {l0 : DRanking} {x0 x1 y : Int} (hw : KeptO (fun q => q = g) w wr) (hk : KeptO (fun q => q = g) wr w3) (hr : (kRow kRanking).is true wr (fun q => w1s ≤ q) [.slice (some ⟨b, off, none⟩) ln oc] L) (hl0 : L[0]? = some l0) (hx : l0[0]? = some (x0, x1)) (hmm : mm = l0.length)
    (hA : w3.cell? ⟨b, off, none⟩ = some (.slice (some ⟨b2, off2, none⟩) mm lc)) (hz : w.heap.size ≤ w1s) (hg : g < w1s) (hf : Few L) (hy : IntOk y) (hc : CurAt w3 g S m) (hS : ∀ q, S q → q < w1s) :
    RDrk w g S m (.returned (.slice (some ⟨b, off, none⟩) ln oc)) (w3.setCell ⟨b2, off2 + 1, none⟩ (.int .i64 y)) := by
  have hr3 : (kRow kRanking).is true w3 (fun q => w1s ≤ q) [.slice (some ⟨b, off, none⟩) ln oc] L := Kd.kept hr hk (fun q _ h1 h2 => by have e : q = g := h2; omega)
  obtain ⟨b', off', B, C, e, hb, hSb, hnb, hi, hBS, hcc, hput⟩ := row_put hr3 hl0
  obtain ⟨rfl, rfl⟩ : b = b' ∧ off = off' := by injection e with e; injection e with e1 e2; exact ⟨e1, e2⟩
  obtain ⟨la, lc', hC, _⟩ := row_form (K := kScored) hi
  subst hC
  have h0 := (hcc 0 _ rfl).1
  rw [show off + 0 * kRanking.wd + 0 = off by simp] at h0
  rw [hA] at h0
  obtain ⟨rfl, rfl⟩ : la = some ⟨b2, off2, none⟩ ∧ lc' = lc := by
    injection h0 with h0
    injection h0 with h1 _ h2
    exact ⟨h1.symm, h2.symm⟩
  obtain ⟨b3, off3, B3, C3, e3, hb3, hSb3, hnb3, hi3, hBS3, hcc3, hput3⟩ := row_put (K := kScored) hi hx
  obtain ⟨rfl, rfl⟩ : b2 = b3 ∧ off2 = off3 := by injection e3 with e; injection e with e1 e2; exact ⟨e1, e2⟩
  obtain ⟨rfl, g0, g1⟩ := kScored_open hi3
  have P0 : w3.cell? ⟨b2, off2 + 0 * 2 + 0, none⟩ = some (.int .i64 x0) := (hcc3 0 _ rfl).1
  have P1 : w3.cell? ⟨b2, off2 + 0 * 2 + 1, none⟩ = some (.int .i64 x1) := (hcc3 1 _ rfl).1
  rw [Nat.zero_mul] at P0 P1
  have hne : b2 ≠ b := fun e => hnb (e ▸ hSb3)
  have hin := hput3 (w3.setCell ⟨b2, off2 + 1, none⟩ (.int .i64 y)) (x0, y) [.int .i64 x0, .int .i64 y] ((OnlyO.refl _ _ _ _ _).thenSet (o := off2 + 1) (v := .int .i64 y) (by show off2 + 0 * 2 ≤ _; omega) (by show _ < off2 + 0 * 2 + 2; omega)) (kScored_shut g0 hy) (cells_cons (P := fun j u => World.cell? _ ⟨b2, off2 + 0 * kScored.wd + j, none⟩ = some u) (by show World.cell? _ ⟨b2, off2 + 0 * 2 + 0, none⟩ = _; rw [Nat.zero_mul]; exact set_other P0 (by omega)) (cells_cons (by show World.cell? _ ⟨b2, off2 + 0 * 2 + 1, none⟩ = _; rw [Nat.zero_mul]; exact set_same P1) cells_nil))
  have hon : OnlyO B b (off + 0 * kRanking.wd) (off + 0 * kRanking.wd + kRanking.wd) w3 (w3.setCell ⟨b2, off2 + 1, none⟩ (.int .i64 y)) :=
    ⟨rfl, rfl, rfl, by simp, fun k _ _ hn => heap_set_ne (fun e => hn (e ▸ hSb3)), fun o _ => World.cell?_setCell_other _ _ _ _ (fun e => by injection e with e1 _ _; exact hne e1), fun o => World.frozen?_setCell _ _ _ _⟩
  have hfin := hput (w3.setCell ⟨b2, off2 + 1, none⟩ (.int .i64 y)) (l0.set 0 (x0, y)) [.slice (some ⟨b2, off2, none⟩) l0.length lc'] hon hin (cells_cons (P := fun j u => World.cell? _ ⟨b, off + 0 * kRanking.wd + j, none⟩ = some u) (by
    rw [show off + 0 * kRanking.wd + 0 = off by simp]
    rw [World.cell?_setCell_other _ _ _ _ (fun e => by injection e with e1 _ _; exact hne e1), hA, hmm]) cells_nil)
  have hb2s : w1s ≤ b2 := hBS b2 hSb3
  have hks : KeptO (fun k => k = b2) w3 (w3.setCell ⟨b2, off2 + 1, none⟩ (.int .i64 y)) := ⟨rfl, rfl, rfl, by simp, fun k _ hn => heap_set_ne hn⟩
  refine ⟨_, _, oc, _, _, rfl, hfin, fun k hk => Nat.le_trans hz hk, ⟨by rw [List.length_set]; exact hf.1, fun r hr => ?_⟩, hc.kept hks (fun e => by have e' : g = b2 := e; omega) (fun q hq e => by have e' : q = b2 := e; have := hS q hq; omega), keptF (hw.trans hk) hks (fun q hq e => by have e' : q = b2 := e; omega)⟩
  rcases List.mem_or_eq_of_mem_set hr with h | h
  · exact hf.2 r h
  · rw [h, List.length_set]
    exact hf.2 l0 (List.mem_of_getElem? hl0)
set_option maxRecDepth 100000 in
set_option maxHeartbeats 8000000 in
theorem rankings_k (w : World) (g : Nat) (S : Nat → Prop) (m : Int) (h : CurAt w g S m) (hm : m ≤ 2 ^ 40) (hg : g < w.heap.size) (hS : ∀ k, S k → k < w.heap.size) :
    Calls Try.prog 95 #[.pointer (some ⟨g, 0, none⟩)] w (RDrk w g S (m + 200)) := by
  have H : Hid (CurAt w g S m) := h
  have HSL : Hid (∀ k, S k → k < w.heap.size) := hS
  clear h hS
  go_enter Try.func95, Try.ntmps95
  go_wp2_with fail
  refine (pick_k w g S m 5 H.out (by omega) (by omega) (by omega)).mono ?_
  rintro e w1 ⟨n0, rfl, ⟨n00, n01⟩, hc, hk⟩
  obtain ⟨n, rfl⟩ : ∃ n : Nat, n0 = n := ⟨n0.toNat, by omega⟩
  have HC1 : Hid (CurAt w1 g S (m + 1)) := hc
  have HK1 : Hid (KeptO (fun k => k = g) w w1) := hk
  have z1 : w.heap.size ≤ w1.heap.size := hk.size
  clear hc hk
  go_wp2_with fail
  go_loopw [3, 4] (fun lv nv wr => ∃ (k : Nat) (L : List DRanking), k ≤ n ∧ L.length + k = n ∧ nv = .int .i64 k ∧ Hid (RBld wr w1.heap.size lv L) ∧ Hid (∀ r ∈ L, r.length ≤ 8) ∧ Hid (CurAt wr g S (m + 1 + 40 * (n - k))) ∧ Hid (KeptO (fun q => q = g) w1 wr)) (fun _ nv _ => (intOf nv).toNat)
  case atStart => exact ⟨n, [], Nat.le_refl _, by simp, rfl, RBld.nil _ _, (fun r hr => by simp at hr), HC1.out.mono (by omega), KeptO.refl _ _⟩
  case round =>
    obtain ⟨k, L, hk, hLk, rfl, HO, HSm, HC, HK⟩ := hrel
    obtain ⟨oa, oc, hov, _⟩ := HO.out.form
    subst hov
    obtain ⟨ln, hln⟩ : ∃ ln, ln = L.length := ⟨_, rfl⟩
    have HLN : Hid (ln = L.length) := hln
    rw [← hln] at HO hLk ⊢
    clear hln
    have zr : w1.heap.size ≤ wr.heap.size := HK.out.size
    by_cases h0 : k = 0
    · obtain rfl : k = 0 := h0
      have HKw : Hid (KeptO (fun q => q = g) w wr) := HK1.out.trans HK.out
      have HRW : Hid ((kRow kRanking).is true wr (fun q => w1.heap.size ≤ q) [.slice oa ln oc] L) := HO.out.row (by rw [← HLN.out]; omega)
      have HFEW : Hid (Few L) := ⟨by rw [← HLN.out]; omega, HSm.out⟩
      have fin : ∀ w', KeptO (fun q => q = g) wr w' → CurAt w' g S (m + 200) → RDrk w g S (m + 200) (.returned (.slice oa ln oc)) w' := fun w' hk hc => ⟨oa, ln, oc, _, L, rfl, Kd.kept HRW.out hk (fun q _ h1 h2 => by omega), fun q hq => Nat.le_trans z1 hq, HFEW.out, hc, HKw.out.trans hk⟩
      have FIN : Hid (∀ w', KeptO (fun q => q = g) wr w' → CurAt w' g S (m + 200) → RDrk w g S (m + 200) (.returned (.slice oa ln oc)) w') := fin
      clear fin
      by_cases hL0 : ln = 0
      · subst hL0
        go_wp2
        go_ret
        exact FIN.out wr (KeptO.refl _ _) (HC.out.mono (by omega))
      · have hLp : (0 : Int) < (ln : Int) := by omega
        obtain ⟨l0, hl0⟩ : ∃ l0, L[0]? = some l0 := ⟨_, List.getElem?_eq_getElem (by rw [← HLN.out]; omega)⟩
        have HL0 : Hid (L[0]? = some l0) := hl0
        obtain ⟨b, off, B, C, rfl, hb, hSb, hi, hBS, hc⟩ := row_at HRW.out hl0
        obtain ⟨la, lc, T, rfl, hmm, hl, hTB⟩ := kRanking_open hi
        have HTS : Hid (∀ q, T q → w1.heap.size ≤ q) := fun q hq => hBS q (hTB q hq)
        have A0 : wr.cell? ⟨b, off, none⟩ = some (.slice la l0.length lc) := by have := (hc 0 _ rfl).1; rw [Nat.zero_mul] at this; exact this
        have HLR : Hid ((kRow kScored).is true wr T [.slice la l0.length lc] l0) := hl
        obtain ⟨mm, hmm'⟩ : ∃ mm, mm = l0.length := ⟨_, rfl⟩
        have HMM : Hid (mm = l0.length) := hmm'
        rw [← hmm'] at A0 HLR
        have hbg : b ≠ g := by omega
        clear hmm hmm' hl hi hc hl0 hBS hTB
        by_cases hm0 : mm = 0
        · subst hm0
          go_wp2
          go_ret
          exact FIN.out wr (KeptO.refl _ _) (HC.out.mono (by omega))
        · have hmp : (0 : Int) < (mm : Int) := by omega
          go_wp2_with fail
          refine (one_k wr g S _ 20 HC.out (by omega) (by omega) (by omega)).mono ?_
          rintro e w2 ⟨bb, rfl, hc2, hk2⟩
          have HC2 : Hid (CurAt w2 g S (m + 1 + 40 * (n - (0 : Nat)) + 1)) := hc2
          have HK2 : Hid (KeptO (fun q => q = g) wr w2) := hk2
          have A2 := cell_keptO hk2 A0 hbg
          have z2 : wr.heap.size ≤ w2.heap.size := hk2.size
          clear hc2 hk2
          cases bb
          · go_wp2
            go_ret
            exact FIN.out w2 HK2.out (HC2.out.mono (by omega))
          · obtain ⟨x, hx⟩ : ∃ x, l0[0]? = some x := ⟨_, List.getElem?_eq_getElem (by rw [← HMM.out]; omega)⟩
            have HX : Hid (l0[0]? = some x) := hx
            obtain ⟨b2, off2, B2, D2, rfl, hb2, hT2, hi2, _, hc2⟩ := row_at HLR.out hx
            have HAM : Hid (Calls Try.prog 74 #[.pointer (some ⟨g, 0, none⟩), .slice (some ⟨w2.heap.size, 0, none⟩) 3 3] (w2.drew.alloc (.cells #[.int .i64 0, .int .i64 1, .int .i64 1000001] 3)) (RAmong w2.drew g S (m + 1 + 40 * (n - (0 : Nat)) + 1 + 1) [0, 1, 1000001])) := among_at w2.drew g S _ [0, 1, 1000001] _ HC2.out.drew (by omega) (by show g < w2.heap.size; omega) (by simp) (by simp)
            have A2d : w2.drew.cell? ⟨b, off, none⟩ = some (.slice (some ⟨b2, off2, none⟩) mm lc) := A2
            have hbz : b < w2.heap.size := by omega
            have hb2g : b2 ≠ g := by have := HTS.out b2 hT2; omega
            obtain ⟨x0, x1⟩ := x
            obtain ⟨rfl, _, _⟩ := kScored_open hi2
            have P0 : wr.cell? ⟨b2, off2 + 1, none⟩ = some (.int .i64 x1) := by have := (hc2 1 _ rfl).1; rw [Nat.zero_mul] at this; exact this
            have PF : wr.frozen? ⟨b2, off2 + 1, none⟩ = false := by have := (hc2 1 _ rfl).2 rfl; rw [Nat.zero_mul] at this; exact this
            have HPF : Hid (wr.cell? ⟨b2, off2 + 1, none⟩ = some (.int .i64 x1) ∧ wr.frozen? ⟨b2, off2 + 1, none⟩ = false) := ⟨P0, PF⟩
            have hb2z : b2 < w2.heap.size := by omega
            have HKD : Hid (KeptO (fun q => q = g) w2 w2.drew) := (KeptO.refl _ _).drew
            have h00 : (0 : Int) ≤ 0 := by omega
            clear hx hi2 hc2 P0 PF
            go_wp2_with fail
            go_region_with (first
              | (go_at_call 74; go_fit HAM.out; rintro e w3 ⟨y, hy, rfl, hc3, hk3⟩; have HK3 : Hid (KeptO (fun q => q = g) wr w3) := HK2.out.trans (HKD.out.trans hk3); have A3 := cell_keptO HK3.out A0 hbg; have P3 := cell_keptO HK3.out HPF.out.1 hb2g; have F3 := frozen_keptO HK3.out HPF.out.1 HPF.out.2 hb2g))
            all_goals
              have hy2 : 0 ≤ y ∧ y ≤ 1000001 := by simp at hy; omega
              have HC3 : Hid (CurAt w3 g S (m + 1 + 40 * (n - (0 : Nat)) + 1 + 1)) := hc3
              clear hc3 hk3 hy
              go_wp2
              go_ret
              exact rk_put HKw.out HK3.out HRW.out HL0.out HX.out HMM.out A3 z1 (by omega) HFEW.out (by unfold IntOk; omega) (HC3.out.mono (by omega)) (fun q hq => by have := HSL.out q hq; omega)
    · obtain ⟨j, rfl⟩ : ∃ j, k = j + 1 := ⟨k - 1, by omega⟩
      have hjp : (0 : Int) < ((j + 1 : Nat) : Int) := by omega
      obtain ⟨wo, hwo⟩ : ∃ wo, wo = wr := ⟨_, rfl⟩
      subst hwo
      obtain ⟨W1, hW1⟩ : ∃ W1, W1 = wo.alloc (.cells #[.slice none 0 0] 58) := ⟨_, rfl⟩
      have HBW : Hid (Below wo.heap.size wo W1) := by show Below _ _ _; rw [hW1]; exact below_a1r _ _
      have ZW1 : Hid (W1.heap.size = wo.heap.size + 1) := by show _ = _; rw [hW1]; simp
      have E0 : Hid (W1.cell? ⟨wo.heap.size, 0, none⟩ = some (.slice none 0 0) ∧ W1.frozen? ⟨wo.heap.size, 0, none⟩ = false) := by rw [hW1]; refine ⟨?_, ?_⟩ <;> simp [go_sem]
      have HCW : Hid (CurAt W1 g S (m + 1 + 40 * (n - (j + 1 : Nat)))) := HC.out.below HBW.out
      go_wp2_with fail
      rw [← hW1]
      clear hW1
      obtain ⟨rb, hrb⟩ : ∃ rb, rb = wo.heap.size := ⟨_, rfl⟩
      have HRB : Hid (rb = wo.heap.size) := hrb
      have hgr : g < rb := by omega
      rw [← hrb] at E0 ⊢
      clear hrb
      refine (pick_k W1 g S _ 9 HCW.out (by omega) (by omega) (by omega)).mono ?_
      rintro e w2 ⟨t0, rfl, ⟨t00, t01⟩, hc2, hk2⟩
      obtain ⟨t, rfl⟩ : ∃ t : Nat, t0 = t := ⟨t0.toNat, by omega⟩
      have rbW : rb < W1.heap.size := by rw [ZW1.out, HRB.out]; omega
      have HC2 : Hid (CurAt w2 g S (m + 1 + 40 * (n - (j + 1 : Nat)) + 1)) := hc2
      have HK2 : Hid (KeptO (fun q => q = g) W1 w2) := hk2
      have z2 : W1.heap.size ≤ w2.heap.size := hk2.size
      have D0 : w2.cell? ⟨rb, 0, none⟩ = some (.slice none 0 0) := cell_keptO hk2 E0.out.1 (by omega)
      have G0 : w2.frozen? ⟨rb, 0, none⟩ = false := frozen_keptO hk2 E0.out.1 E0.out.2 (by omega)
      clear hc2 hk2
      go_wp2_with fail
      go_loopw [6] (fun tv wr => ∃ (i : Nat) (R : List DScored) (ra : Option Addr) (rn rc : Nat), i ≤ t ∧ R.length + i ≤ t ∧ tv = .int .i64 i ∧ wr.cell? ⟨rb, 0, none⟩ = some (.slice ra rn rc) ∧ wr.frozen? ⟨rb, 0, none⟩ = false ∧ Hid ((kRow kScored).is true wr (fun q => W1.heap.size ≤ q) [.slice ra rn rc] R) ∧ Hid (CurAt wr g S (m + 2 + 40 * (n - (j + 1 : Nat)) + 2 * (t - i))) ∧ Hid (KeptO (fun q => q = g ∨ q = rb) W1 wr)) (fun tv _ => (intOf tv).toNat)
      case atStart => exact ⟨t, [], none, 0, 0, Nat.le_refl _, by simp, rfl, D0, G0, row_nil _ _ _ _ _ _, HC2.out.mono (by omega), HK2.out.mono (fun q h => .inl h)⟩
      case round =>
        obtain ⟨i, R, ra, rn, rc, hi, hRi, rfl, C0, F0, HR, HCI, HKI⟩ := hrel
        have zq : W1.heap.size ≤ wr.heap.size := HKI.out.size
        clear D0 G0
        by_cases hi0 : i = 0
        · obtain rfl : i = 0 := hi0
          have hwor : rb ≤ wr.heap.size := by omega
          have HKO : Hid (KeptO (fun q => q = g) wo wr) := keptF (KeptO.of HBW.out) HKI.out (fun q hq e => by have := HRB.out; rcases e with e | e <;> omega)
          have zo : wo.heap.size ≤ wr.heap.size := HKO.out.size
          have hr8 : R.length ≤ 8 := by omega
          have HLT : Hid (L.length < 2 ^ 30) := by show _ < _; rw [← HLN.out]; omega
          go_wp2_with (at_builtin; go_loud (refine app_rk2 rfl _ _ rfl w1.heap.size (.slice oa ln oc) L rfl HO.out (HKO.out.trans (KeptO.of (below_a1r _ _))) (fun q h1 h2 e => by have e' : q = g := e; omega) _ (.slice ra rn rc) R rfl rfl (by simp [go_sem]) (Kd.below HR.out (below_a1r _ _)) (fun q hq => by have hq' : W1.heap.size ≤ q := hq; have := ZW1.out; omega) HLT.out zr ?_))
          intro v6 w6 ho6 hb6
          have HO6 : Hid (RBld w6 w1.heap.size v6 (L ++ [R])) := ho6
          have HC6 : Hid (CurAt w6 g S (m + 2 + 40 * (n - (j + 1 : Nat)) + 2 * (t - (0 : Nat)))) := (HCI.out.below (below_a1r _ _)).up hb6 (by simp; omega) (by omega) (fun q hq => by have := HSL.out q hq; omega)
          have HK6 : Hid (KeptO (fun q => q = g) w1 w6) := (HK.out.trans HKO.out).low (((below_a1r wr _).mono (by omega)).trans hb6)
          have HS6 : Hid (∀ r ∈ L ++ [R], r.length ≤ 8) := fun r hr => by
            rcases List.mem_append.1 hr with h | h
            · exact HSm.out r h
            · have : r = R := by simpa using h
              rw [this]; exact hr8
          clear ho6 hb6 C0 F0
          go_wp2
          go_roundw
          case rel => exact ⟨j, L ++ [R], by omega, by rw [List.length_append, ← HLN.out]; simp; omega, by congr 1, HO6, HS6, HC6.out.mono (by omega), HK6⟩
          case measure => simp [intOf]
        · obtain ⟨i', rfl⟩ : ∃ i', i = i' + 1 := ⟨i - 1, by omega⟩
          have hip : (0 : Int) < ((i' + 1 : Nat) : Int) := by omega
          obtain ⟨M, hM⟩ : ∃ M : Int, M = m + 2 + 40 * (n - (j + 1 : Nat)) + 2 * (t - (i' + 1 : Nat)) := ⟨_, rfl⟩
          have HM : Hid (M = m + 2 + 40 * (n - (j + 1 : Nat)) + 2 * (t - (i' + 1 : Nat))) := hM
          have mM : M ≤ 2 ^ 41 := by omega
          rw [← hM] at HCI
          clear hM
          have HKD : Hid (KeptO (fun q => q = g) wr wr.drew) := (KeptO.refl _ _).drew
          have HP1 : Hid (Calls Try.prog 80 #[.pointer (some ⟨g, 0, none⟩), .int .i64 12] wr.drew (RNext wr.drew g S (M + 1) 12)) := pick_k wr.drew g S M 12 HCI.out.drew (by omega) (by omega) (by omega)
          have C0d : wr.drew.cell? ⟨rb, 0, none⟩ = some (.slice ra rn rc) := C0
          have hgrb : ¬ rb = g := by omega
          go_wp2_with fail
          go_region_with (first
            | (go_at_call 80; go_fit HP1.out; rintro e w3 ⟨x, rfl, ⟨x0, x1⟩, hc3, hk3⟩; have HK3 : Hid (KeptO (fun q => q = g) wr w3) := HKD.out.trans hk3; have HC3 : Hid (CurAt w3 g S (M + 1)) := hc3; have E3 := cell_keptO HK3.out C0 hgrb; have HP2 : Hid (Calls Try.prog 80 #[.pointer (some ⟨g, 0, none⟩), .int .i64 30] w3 (RNext w3 g S (M + 1 + 1) 30)) := pick_k w3 g S (M + 1) 30 hc3 (by omega) (by omega) (by omega); clear hc3 hk3)
            | (go_at_call 80; go_fit HP2.out; rintro e w4 ⟨y, rfl, ⟨y0, y1⟩, hc4, hk4⟩; have hwy : IntKind.i64.wrap (1 + y) = 1 + y := wrap_small (by omega) (by omega); have HK4 : Hid (KeptO (fun q => q = g) wr w4) := HK3.out.trans hk4; have HC4 : Hid (CurAt w4 g S (M + 1 + 1)) := hc4; have E4 := cell_keptO HK4.out C0 hgrb; have HPU : Hid (Calls Try.prog 67 #[.slice ra rn rc, .agg #[.int .i64 x, .int .i64 (1 + y)]] w4 (RPut R (x, 1 + y) (fun q => W1.heap.size ≤ q) w4)) := l11Put_k R ra rn rc _ x (1 + y) w4 (Kd.kept HR.out HK4.out (fun q _ h1 h2 => by omega)) (by omega) (by unfold IntOk; omega) (by unfold IntOk; omega); clear hc4 hk4)
            | (go_at_call 67; go_fit HPU.out; rintro e w5 ⟨a5, n5, c5, rfl, hr5, hb5⟩; have E5 := cell_later hb5 E4; have F5 : w5.frozen? ⟨rb, 0, none⟩ = false := frozen_later hb5 E4 (frozen_keptO HK4.out C0 F0 hgrb)))
          all_goals
            have HR5 : Hid ((kRow kScored).is true w5 (fun q => W1.heap.size ≤ q) [.slice a5 n5 c5] (putL R (x, 1 + y))) := Kd.mono hr5 (fun q hq => by rcases hq with h | h; exact h; have := HK4.out.size; omega)
            have HK5 : Hid (KeptO (fun q => q = g) wr w5) := HK4.out.low (hb5.mono HK4.out.size)
            have HC5 : Hid (CurAt w5 g S (M + 1 + 1)) := HC4.out.below hb5
            have hpl := putL_length R (x, 1 + y)
            clear hr5 hb5 C0 F0 C0d
            go_wp2
            go_roundw
            case rel =>
              have hset : ∀ u : Value, KeptO (fun q => q = rb) w5 (w5.setCell ⟨rb, 0, none⟩ u) := fun u => ⟨rfl, rfl, rfl, by simp, fun q _ hq => heap_set_ne hq⟩
              refine ⟨i', _, a5, n5, c5, by omega, by omega, by congr 1, set_same E5, by rw [World.frozen?_setCell]; exact F5, Kd.kept HR5.out (hset _) (fun q _ h1 h2 => by omega), (HC5.out.kept (hset _) (fun e => by have e' : g = rb := e; omega) (fun q hq e => by have e' : q = rb := e; have := HSL.out q hq; have := HRB.out; omega)).mono (by have := HM.out; omega), keptF HKI.out (HK5.out.mono (fun q h => h)) (fun q _ e => .inl e) |>.trans ((hset _).mono (fun q h => .inr h))⟩
            case measure => simp [intOf]
end Go.Proofs.Ytikgcgfigcolmaa
namespace Go.Proofs.Ytikgcgfigcolmaa
open Go.RowKit
set_option linter.unusedVariables false

theorem cell_c3 (w : World) (u v x : Value) (T : TypeId) : (w.alloc (.cells #[u, v, x] T)).cell? ⟨w.heap.size, 0, none⟩ = some u ∧ (w.alloc (.cells #[u, v, x] T)).cell? ⟨w.heap.size, 1, none⟩ = some v ∧ (w.alloc (.cells #[u, v, x] T)).cell? ⟨w.heap.size, 2, none⟩ = some x := by simp [World.cell?_alloc_new]
/-- A cursor laid anew. -/
theorem cur_neu {w : World} {x : List Int} {a : Option Addr} {n c : Nat} {T : TypeId} (h : (kRow kU8).is false w (fun _ => True) [.slice a n c] x) (hn : n ≤ 9223372036854775807) : CurAt (w.alloc (.cells #[.slice a n c, .int .i64 0, .int .u64 0] T)) w.heap.size (fun k => k < w.heap.size) 0 := by
  obtain ⟨c0, c1, c2⟩ := cell_c3 w (.slice a n c) (.int .i64 0) (.int .u64 0) T
  exact ⟨x, a, n, c, 0, 0, c0, c1, c2, fun o _ => World.frozen?_alloc_new _ _ _ _, Kd.below (Kd.tight _ h (fun k hk _ => hk)) (below_a1' _ _), hn, by omega, by omega⟩
theorem KeptO.neu {w w' : World} {o : Obj} (h : KeptO (fun k => k = w.heap.size) (w.alloc o) w') : Below w.heap.size w w' :=
  (below_a1' w o).trans ⟨h.os, h.tape, h.output, h.size, fun k hk => h.block k (by simp; omega) (by omega)⟩
def RDrawTop (w : World) (e : Ending) (w' : World) : Prop := ∃ (a : Option Addr) (n c : Nat) (T : Nat → Prop) (l : List DRanking) (k : Int), e = .returned (.tuple #[.slice a n c, .int .i64 k]) ∧ (kRow kRanking).is true w' T [.slice a n c] l ∧ (∀ k, T k → w.heap.size ≤ k) ∧ Few l ∧ (-1 ≤ k ∧ k ≤ 61) ∧ Below w.heap.size w w'
set_option maxRecDepth 100000 in
set_option maxHeartbeats 4000000 in
theorem drawAllBest_k (w : World) (x : List Int) (a : Option Addr) (n c : Nat) (h : (kRow kU8).is false w (fun _ => True) [.slice a n c] x) (hn : n ≤ 9223372036854775807) :
    Calls Try.prog 60 #[.slice a n c] w (RDrawTop w) := by
  have H : Hid ((kRow kU8).is false w (fun _ => True) [.slice a n c] x) := h
  clear h
  go_enter Try.func60, Try.ntmps60
  go_wp2_with fail
  refine (rankings_k _ w.heap.size (fun k => k < w.heap.size) 0 (cur_neu H.out hn) (by omega) (by simp) (fun k hk => by simp; omega)).mono ?_
  rintro e w1 ⟨ra, rn, rc, T, l, rfl, hr, hT, hf, hc, hk⟩
  have z1 : w.heap.size < w1.heap.size := by have := hk.size; simp at this; omega
  have HR : Hid ((kRow kRanking).is true w1 T [.slice ra rn rc] l) := hr
  have HB : Hid (Below w.heap.size w w1) := hk.neu
  have HT : Hid (∀ k, T k → w.heap.size + 1 ≤ k) := fun k hk => by have := hT k hk; simp at this; omega
  have HC : Hid (CurAt w1 w.heap.size (fun k => k < w.heap.size) (0 + 200)) := hc
  have HF : Hid (Few l) := hf
  clear hr hk hT hc hf
  go_wp2_with fail
  refine (among_at w1 w.heap.size (fun k => k < w.heap.size) _ [0, 1, 2, 3, 5, 60, 61, -1] _ HC.out (by omega) (by omega) (by simp) (by simp)).mono ?_
  rintro e w2 ⟨y, hy, rfl, hc2, hk2⟩
  have hy2 : -1 ≤ y ∧ y ≤ 61 := by simp at hy; omega
  have HR2 : Hid ((kRow kRanking).is true w2 T [.slice ra rn rc] l) := Kd.kept HR.out hk2 (fun q _ h1 h2 => by have := HT.out q h1; omega)
  have HB2 : Hid (Below w.heap.size w w2) := HB.out.trans ⟨hk2.os, hk2.tape, hk2.output, hk2.size, fun k hk => hk2.block k (by omega) (by omega)⟩
  clear hc2 hk2 hy
  go_wp2
  refine bodyPost_ret (v := .tuple #[.slice ra rn rc, .int .i64 y]) (by simp [results, Try.results60, go_sem]) rfl ?_
  exact ⟨ra, rn, rc, T, l, y, rfl, HR2.out, fun k hk => by have := HT.out k hk; omega, HF.out, hy2, HB2.out⟩
set_option maxRecDepth 100000 in
set_option maxHeartbeats 4000000 in
theorem drawTopBest_k (w : World) (x : List Int) (a : Option Addr) (n c : Nat) (h : (kRow kU8).is false w (fun _ => True) [.slice a n c] x) (hn : n ≤ 9223372036854775807) :
    Calls Try.prog 23 #[.slice a n c] w (RDrawTop w) := by
  have H : Hid ((kRow kU8).is false w (fun _ => True) [.slice a n c] x) := h
  clear h
  go_enter Try.func23, Try.ntmps23
  go_wp2_with fail
  refine (drawAllBest_k w x a n c H.out hn).mono ?_
  rintro e w1 ⟨ra, rn, rc, T, l, k, rfl, hr, hT, hf, hk, hb⟩
  have HR : Hid (RDrawTop w (.returned (.tuple #[.slice ra rn rc, .int .i64 k])) w1) := ⟨ra, rn, rc, T, l, k, rfl, hr, hT, hf, hk, hb⟩
  clear hr hT hf hk hb
  go_wp2
  refine bodyPost_ret (v := .tuple #[.slice ra rn rc, .int .i64 k]) (by simp [results, Try.results23, go_sem]) rfl ?_
  exact HR.out
end Go.Proofs.Ytikgcgfigcolmaa
namespace Go.Proofs.Ytikgcgfigcolmaa
open Go.RowKit
set_option linter.unusedVariables false

def RDrawRank (w : World) (e : Ending) (w' : World) : Prop := ∃ (a : Option Addr) (n c : Nat) (T : Nat → Prop) (t : Int) (es : List DEntry) (a2 : Option Addr) (n2 c2 : Nat) (T2 : Nat → Prop) (ws : List ByteArray) (k : Int), e = .returned (.tuple #[.agg #[.int .i64 t, .slice a n c], .slice a2 n2 c2, .int .i64 k]) ∧ kWords.is true w' T [.int .i64 t, .slice a n c] (t, es) ∧ (kRow kStr).is true w' T2 [.slice a2 n2 c2] ws ∧ kWords.sz (t, es) ≤ 2 ^ 20 ∧ (ws.length ≤ 4 ∧ ∀ s ∈ ws, s.size ≤ 6) ∧ (-1 ≤ k ∧ k ≤ 61) ∧ Below w.heap.size w w'
theorem ws_sz {ws : List ByteArray} (h : ws.length ≤ 4 ∧ ∀ s ∈ ws, s.size ≤ 6) : (kRow kStr).sz ws ≤ 2 ^ 20 := by
  have key : ∀ l : List ByteArray, (∀ s ∈ l, s.size ≤ 6) → sums kStr.sz l ≤ 6 * l.length := by
    intro l
    induction l with
    | nil => intro _; simp [sums]
    | cons s r ih =>
      intro hs
      have h1 := hs s (by simp)
      have h2 := ih fun q hq => hs q (by simp [hq])
      have h3 : kStr.sz s = s.size := rfl
      simp only [sums, List.length_cons]
      omega
  have := key ws h.2
  have := h.1
  show ws.length + sums kStr.sz ws ≤ _
  omega
set_option maxRecDepth 100000 in
set_option maxHeartbeats 4000000 in
theorem drawRankTexts_k (w : World) (x : List Int) (a : Option Addr) (n c : Nat) (h : (kRow kU8).is false w (fun _ => True) [.slice a n c] x) (hn : n ≤ 9223372036854775807) :
    Calls Try.prog 31 #[.slice a n c] w (RDrawRank w) := by
  have H : Hid ((kRow kU8).is false w (fun _ => True) [.slice a n c] x) := h
  clear h
  obtain ⟨W0, hW0⟩ : ∃ W0, W0 = w.alloc (.cells #[.int .i64 0, .slice none 0 0] 27) := ⟨_, rfl⟩
  have hbw : Below w.heap.size w W0 := by rw [hW0]; exact below_a1' _ _
  have HBW0 : Hid (Below w.heap.size w W0) := hbw
  have ZW0 : Hid (W0.heap.size = w.heap.size + 1) := by show _ = _; rw [hW0]; simp
  have HR0 : Hid (W0.cell? ⟨w.heap.size, 0, none⟩ = some (.int .i64 0) ∧ W0.cell? ⟨w.heap.size, 1, none⟩ = some (.slice none 0 0) ∧ W0.frozen? ⟨w.heap.size, 0, none⟩ = false ∧ W0.frozen? ⟨w.heap.size, 1, none⟩ = false) := by rw [hW0]; refine ⟨?_, ?_, ?_, ?_⟩ <;> simp [go_sem]
  obtain ⟨W1, hW1⟩ : ∃ W1, W1 = W0.alloc (.cells #[.slice a n c, .int .i64 0, .int .u64 0] 73) := ⟨_, rfl⟩
  have HCU : Hid (CurAt W1 W0.heap.size (fun k => k < W0.heap.size) 0) := by rw [hW1]; exact cur_neu (Kd.below H.out hbw) hn
  have hb1 : Below W0.heap.size W0 W1 := by rw [hW1]; exact below_a1' _ _
  have HB1 : Hid (Below W0.heap.size W0 W1) := hb1
  have ZW1 : Hid (W1.heap.size = W0.heap.size + 1) := by show _ = _; rw [hW1]; simp
  clear hbw hb1
  go_enter Try.func31, Try.ntmps31
  go_wp2_with fail
  rw [← hW0, ← hW1]
  clear hW0 hW1
  obtain ⟨g, hg⟩ : ∃ g, g = W0.heap.size := ⟨_, rfl⟩
  have HG : Hid (g = w.heap.size + 1) := hg.trans ZW0.out
  rw [show w.heap.size + 1 = g from HG.out.symm]
  rw [← hg] at HCU
  clear hg
  have zg : w.heap.size < g := by rw [HG.out]; omega
  have z1 : W1.heap.size = g + 1 := by rw [ZW1.out, ZW0.out, HG.out]
  have hgW : g < W1.heap.size := by omega
  have HZ1 : Hid (W1.heap.size = g + 1) := z1
  clear z1
  refine (words_k W1 g _ 0 HCU.out (by omega) hgW (fun q hq => by have := HZ1.out; omega)).mono ?_
  rintro e w2 ⟨wa, wn, wc, T, t, es, rfl, hw, hT, hz, hc, hk⟩
  have HW2 : Hid (kWords.is true w2 T [.int .i64 t, .slice wa wn wc] (t, es)) := hw
  have HT2 : Hid (∀ q, T q → g + 1 ≤ q) := fun q hq => by have := hT q hq; have := HZ1.out; omega
  have HSZ : Hid (kWords.sz (t, es) ≤ 2 ^ 20) := hz
  have HC2 : Hid (CurAt w2 g (fun k => k < g) (0 + 1010)) := hc
  have HK2 : Hid (KeptO (fun q => q = g) W1 w2) := hk
  have z2 : W1.heap.size ≤ w2.heap.size := hk.size
  clear hw hT hz hc hk
  go_wp2_with fail
  refine (asked_k w2 g _ _ HC2.out (by omega) (by omega) (fun q hq => by omega)).mono ?_
  rintro e w3 ⟨sa, sn, sc, T2, ws, rfl, hs, hTs, hN, hB, hc, hk⟩
  have HS3 : Hid ((kRow kStr).is true w3 T2 [.slice sa sn sc] ws) := hs
  have HTS : Hid (∀ q, T2 q → w2.heap.size ≤ q) := hTs
  have HNB : Hid (ws.length ≤ 4 ∧ ∀ s ∈ ws, s.size ≤ 6) := ⟨hN, hB⟩
  have HC3 : Hid (CurAt w3 g (fun k => k < g) (0 + 1010 + 10)) := hc
  have HK3 : Hid (KeptO (fun q => q = g) W1 w3) := HK2.out.trans hk
  have HW3 : Hid (kWords.is true w3 T [.int .i64 t, .slice wa wn wc] (t, es)) := Kd.kept HW2.out hk (fun q _ h1 h2 => by have e : q = g := h2; have := HT2.out q h1; omega)
  have z3 : w2.heap.size ≤ w3.heap.size := hk.size
  clear hs hTs hN hB hc hk HW2
  go_wp2_with fail
  refine (among_at w3 g _ _ [0, 1, 2, 3, 60, 61] _ HC3.out (by omega) (by omega) (by simp) (by simp)).mono ?_
  rintro e w4 ⟨y, hy, rfl, hc4, hk4⟩
  have hy2 : -1 ≤ y ∧ y ≤ 61 := by simp at hy; omega
  have HK4 : Hid (KeptO (fun q => q = g) W1 w4) := HK3.out.trans hk4
  have HW4 : Hid (kWords.is true w4 T [.int .i64 t, .slice wa wn wc] (t, es)) := Kd.kept HW3.out hk4 (fun q _ h1 h2 => by have e : q = g := h2; have := HT2.out q h1; omega)
  have HS4 : Hid ((kRow kStr).is true w4 T2 [.slice sa sn sc] ws) := Kd.kept HS3.out hk4 (fun q _ h1 h2 => by have e : q = g := h2; have := HTS.out q h1; omega)
  have hk04 : KeptO (fun q => q = g) W0 w4 := (KeptO.of HB1.out).trans HK4.out
  have r0 := cell_keptO hk04 HR0.out.1 (by omega)
  have r1 := cell_keptO hk04 HR0.out.2.1 (by omega)
  have r2 := frozen_keptO hk04 HR0.out.1 HR0.out.2.2.1 (by omega)
  have r3 := frozen_keptO hk04 HR0.out.2.1 HR0.out.2.2.2 (by omega)
  have HBF : Hid (Below w.heap.size w w4) := HBW0.out.trans ⟨hk04.os, hk04.tape, hk04.output, hk04.size, fun q hq => hk04.block q (by have := ZW0.out; omega) (fun e => by have e' : q = g := e; omega)⟩
  have zf : w.heap.size < w4.heap.size := by have := HK4.out.size; omega
  clear hc4 hk4 hy hk04
  go_wp2
  have q0 : (w4.setCell ⟨w.heap.size, 0, none⟩ (.int .i64 t)).cell? ⟨w.heap.size, 0, none⟩ = some (.int .i64 t) := set_same r0
  have q1 : (w4.setCell ⟨w.heap.size, 0, none⟩ (.int .i64 t)).cell? ⟨w.heap.size, 1, none⟩ = some (.slice none 0 0) := set_other r1 (by decide)
  refine bodyPost_ret (v := .tuple #[.agg #[.int .i64 t, .slice wa wn wc], .slice sa sn sc, .int .i64 y]) (by simp [results, Try.results31, go_sem, q0, q1]) rfl ?_
  have hset : KeptO (fun q => q = w.heap.size) w4 ((w4.setCell ⟨w.heap.size, 0, none⟩ (.int .i64 t)).setCell ⟨w.heap.size, 1, none⟩ (.slice wa wn wc)) := ⟨rfl, rfl, rfl, by simp, fun q _ hq => by rw [heap_set_ne hq, heap_set_ne hq]⟩
  exact ⟨wa, wn, wc, T, t, es, sa, sn, sc, T2, ws, y, rfl, Kd.kept HW4.out hset (fun q _ h1 h2 => by have e : q = w.heap.size := h2; have := HT2.out q h1; omega), Kd.kept HS4.out hset (fun q _ h1 h2 => by have e : q = w.heap.size := h2; have := HTS.out q h1; omega), HSZ.out, HNB.out, hy2, HBF.out.trans ⟨hset.os, hset.tape, hset.output, hset.size, fun q hq => hset.block q (by omega) (fun e => by have e' : q = w.heap.size := e; omega)⟩⟩
end Go.Proofs.Ytikgcgfigcolmaa
namespace Go.Proofs.Ytikgcgfigcolmaa
open Go.RowKit
set_option linter.unusedVariables false

/-- The search goes no further than the longest list. -/
theorem topD_le {ls : List DRanking} {k m : Nat} (hm : ∀ r ∈ ls, r.length ≤ m) : ∀ n d, d ≤ m → topD ls k n d ≤ m
  | 0, d, h => by simpa [topD] using h
  | n + 1, d, h => by
    unfold topD
    split
    · exact h
    · next hne =>
      have hd : d < m := by
        rcases Nat.lt_or_ge d m with h' | h'
        · exact h'
        · exact absurd (atDp_none fun r hr => Nat.le_trans (hm r hr) h') (by simpa using hne)
      split
      · omega
      · exact topD_le hm n (d + 1) (by omega)
theorem best_in {ls : List DRanking} {k : Nat} {s : DScored} (h : s ∈ (allD ls).take k) : s.2 = sumL ls s.1 ∧ s.1 ∈ idsAll ls := by
  have h1 := List.mem_of_mem_take h
  have h2 := (putIds_mem (f := sumL ls) (idsAll ls) [] (fun x hx => by simp at hx) s).1 h1
  rcases h2 with h2 | h2
  · simp at h2
  · exact ⟨h2.2, h2.1⟩
theorem best_id {ls : List DRanking} (hg : fGoodRankings ls = true) {i : Int} (h : i ∈ idsAll ls) : 0 ≤ i ∧ i ≤ 1000 := by
  obtain ⟨r, hr, x, hx, rfl⟩ := idsAll_mem.1 h
  exact (good_sc hg r hr x hx).2
theorem all_srt (ls : List DRanking) : Srt (allD ls) := putIds_srt _ _ _ srt_nil
theorem best_falls {ls : List DRanking} {k i : Nat} {s y : DScored} (h : ((allD ls).take k)[i + 1]? = some s) (hy : ((allD ls).take k)[i]? = some y) : s.2 ≤ y.2 := by
  have hs : Srt ((allD ls).take k) := List.Pairwise.sublist (List.take_sublist _ _) (all_srt ls)
  have h1 := (List.getElem?_eq_some_iff.1 h).1
  have h2 := (List.getElem?_eq_some_iff.1 hy).1
  have := List.pairwise_iff_getElem.1 hs i (i + 1) h2 h1 (by omega)
  rw [(List.getElem?_eq_some_iff.1 h).2, (List.getElem?_eq_some_iff.1 hy).2, ahd_iff] at this
  omega
/-- Nobody else has more. -/
theorem best_rest {ls : List DRanking} {k : Nat} {i : Int} {y : DScored} (hk : ((allD ls).take (k + 1))[k]? = some y) (hi : i ∈ idsAll ls) (hn : noId ((allD ls).take (k + 1)) i = true) : sumL ls i ≤ y.2 := by
  have hm : (i, sumL ls i) ∈ allD ls := (putIds_mem (f := sumL ls) (idsAll ls) [] (fun x hx => by simp at hx) (i, sumL ls i)).2 (.inr ⟨hi, rfl⟩)
  obtain ⟨j, hj⟩ := List.getElem?_of_mem hm
  have hjl := (List.getElem?_eq_some_iff.1 hj).1
  have hjk : k < j := by
    rcases Nat.lt_or_ge k j with h | h
    · exact h
    · exfalso
      have : (i, sumL ls i) ∈ (allD ls).take (k + 1) := List.mem_of_getElem? (i := j) (by rw [List.getElem?_take, if_pos (by omega)]; exact hj)
      exact (noId_iff _ _).1 hn _ this rfl
  have hy : (allD ls)[k]? = some y := by rw [List.getElem?_take, if_pos (by omega)] at hk; exact hk
  have hkl := (List.getElem?_eq_some_iff.1 hy).1
  have := List.pairwise_iff_getElem.1 (all_srt ls) k j hkl hjl hjk
  rw [(List.getElem?_eq_some_iff.1 hj).2, (List.getElem?_eq_some_iff.1 hy).2, ahd_iff] at this
  have e : (i, sumL ls i).2 = sumL ls i := rfl
  omega
/-- The length of the longest. -/
def longest : List DRanking → Nat
  | [] => 0
  | r :: t => max r.length (longest t)
def longTo (ls : List DRanking) (k : Nat) : Nat := longest (ls.take k)
theorem longest_append (a b : List DRanking) : longest (a ++ b) = max (longest a) (longest b) := by
  induction a with
  | nil => simp [longest]
  | cons r t ih => simp only [List.cons_append, longest, ih]; omega
theorem longTo_next {ls : List DRanking} {k : Nat} {r : DRanking} (h : ls[k]? = some r) : longTo ls (k + 1) = max (longTo ls k) r.length := by
  unfold longTo
  rw [List.take_add_one, h, longest_append]
  simp [longest]
theorem longest_le {ls : List DRanking} : ∀ r ∈ ls, r.length ≤ longest ls := by
  induction ls with
  | nil => intro r hr; simp at hr
  | cons x t ih =>
    intro r hr
    simp only [longest]
    rcases List.mem_cons.1 hr with rfl | hr
    · omega
    · have := ih r hr; omega
theorem top_depth {ls : List DRanking} {k : Int} (h : (fTopBest ls k).2.2 = true) : 0 ≤ (fTopBest ls k).2.1 ∧ (fTopBest ls k).2.1 ≤ longest ls := by
  unfold fTopBest at h ⊢
  split
  · split
    · simp
    · have := topD_le (ls := ls) (k := k.toNat) longest_le 61 0 (Nat.zero_le _)
      simp only
      omega
  · rename_i h'
    rw [if_neg h'] at h
    cases h
end Go.Proofs.Ytikgcgfigcolmaa
namespace Go.Proofs.Ytikgcgfigcolmaa
open Go.RowKit
set_option linter.unusedVariables false

set_option maxRecDepth 100000 in
set_option maxHeartbeats 2000000 in
theorem sameScored_k (l : List DScored) (a1 a2 : Option Addr) (n c1 c2 : Nat) (S1 S2 : Nat → Prop) (w : World) (h1 : (kRow kScored).is false w S1 [.slice a1 n c1] l) (h2 : (kRow kScored).is false w S2 [.slice a2 n c2] l) :
    Calls Try.prog 27 #[.slice a1 n c1, .slice a2 n c2] w fun e w' => e = .returned (.bool true) ∧ Below w.heap.size w w' := by
  have hnl := row_len h1
  have hmx : n ≤ 9223372036854775807 := by obtain ⟨_, _, _, h, _⟩ := row_form h1; rw [hnl]; exact h
  have HNL : Hid (n = l.length) := hnl
  clear hnl
  have H1 : Hid ((kRow kScored).is false w S1 [.slice a1 n c1] l) := h1
  have H2 : Hid ((kRow kScored).is false w S2 [.slice a2 n c2] l) := h2
  clear h1 h2
  go_enter Try.func27, Try.ntmps27
  go_wp2_with fail
  go_loopw [13] (fun i wr => ∃ k : Nat, k ≤ n ∧ i = .int .i64 k ∧ Below w.heap.size w wr) (fun i _ => n - (intOf i).toNat)
  case atStart => exact ⟨0, Nat.zero_le _, rfl, Below.refl _ _⟩
  case round =>
    obtain ⟨k, hk, rfl, hnx⟩ := hrel
    by_cases hlt : k < n
    · obtain ⟨x, hx⟩ : ∃ x, l[k]? = some x := ⟨_, List.getElem?_eq_getElem (by rw [← HNL.out]; exact hlt)⟩
      obtain ⟨b, off, B, C, rfl, hb, _, hi, _, hc⟩ := row_at (Kd.below H1.out hnx) hx
      obtain ⟨b', off', B', C', rfl, hb', _, hi', _, hc'⟩ := row_at (Kd.below H2.out hnx) hx
      obtain ⟨x0, x1⟩ := x
      obtain ⟨rfl, g0, g1⟩ := kScored_open hi
      obtain ⟨rfl, j0, j1⟩ := kScored_open hi'
      have A0 : wr.cell? ⟨b, off + k * 2, none⟩ = some (.int .i64 x0) := (hc 0 _ rfl).1
      have A1 : wr.cell? ⟨b, off + k * 2 + 1, none⟩ = some (.int .i64 x1) := (hc 1 _ rfl).1
      have D0 : wr.cell? ⟨b', off' + k * 2, none⟩ = some (.int .i64 x0) := (hc' 0 _ rfl).1
      have D1 : wr.cell? ⟨b', off' + k * 2 + 1, none⟩ = some (.int .i64 x1) := (hc' 1 _ rfl).1
      have i0 : (0 : Int) ≤ (k : Int) := by omega
      have i1 : (k : Int) < (n : Int) := by omega
      have hne := belowOf_ne wr
      have V0 : ∀ q : BelowOf wr, q.v.cell? ⟨b, off + k * 2, none⟩ = some (.int .i64 x0) := BelowOf.cell A0
      have V1 : ∀ q : BelowOf wr, q.v.cell? ⟨b, off + k * 2 + 1, none⟩ = some (.int .i64 x1) := BelowOf.cell A1
      have V2 : ∀ q : BelowOf wr, q.v.cell? ⟨b', off' + k * 2, none⟩ = some (.int .i64 x0) := BelowOf.cell D0
      have V3 : ∀ q : BelowOf wr, q.v.cell? ⟨b', off' + k * 2 + 1, none⟩ = some (.int .i64 x1) := BelowOf.cell D1
      clear hi hi' hc hc'
      go_wp2_with fail
      refine region_below (by kernel_rfl) (by kernel_rfl) ?_
      repeat (go_big_quiet_step (fail))
      refine wpQuiet_nil (belowOf_all ?_)
      intro w1 hb1
      clear V0 V1 V2 V3 hne
      go_wp2
      go_roundw
      case rel => exact ⟨k + 1, by omega, by go_num, hnx.trans (hb1.mono hnx.size)⟩
      case measure => simp [intOf]; omega
    · go_wp2
      go_ret
      exact ⟨rfl, hnx⟩
end Go.Proofs.Ytikgcgfigcolmaa
namespace Go.Proofs.Ytikgcgfigcolmaa
open Go.RowKit
set_option linter.unusedVariables false

theorem szEntI {es : List DEntry} {i : Nat} {x : ByteArray} {l : List DPosting} (h : es[i]? = some (x, l)) : x.size ≤ (kRow kEntry).sz es := by
  have h1 := sums_ge kEntry.sz es i (x, l) h
  have h2 : kEntry.sz (x, l) = x.size + (l.length + sums kPosting.sz l) := rfl
  have h3 : (kRow kEntry).sz es = es.length + sums kEntry.sz es := rfl
  omega
theorem leq_is (a b : ByteArray) : (Op.bytesLess a.toList b.toList || a.toList == b.toList) = !lessB b a := by
  unfold lessB
  rw [by_total b.toList a.toList]
  simp

set_option maxRecDepth 100000 in
set_option maxHeartbeats 8000000 in
theorem implGoodWords_k (x0 : DWords) (C0 : List Value) (S0 : Nat → Prop) (w : World) (h0 : kWords.is false w S0 C0 x0) (z0 : kWords.sz x0 ≤ 2 ^ 20) :
    Calls Try.prog 15 #[.agg C0.toArray] w fun e w' => e = .returned (.bool (fGoodWords x0)) ∧ Below w.heap.size w w' := by
  obtain ⟨tx, es⟩ := x0
  obtain ⟨a, c, T, rfl, g0, hmx, hr, _⟩ := kWords_open h0
  have hz : (kRow kEntry).sz es ≤ 2 ^ 20 := by have : kWords.sz (tx, es) = 0 + (kRow kEntry).sz es := rfl; omega
  obtain ⟨q, hq⟩ : ∃ q, q = fGoodWords (tx, es) := ⟨_, rfl⟩
  have HQ : Hid (q = (decide (0 ≤ tx ∧ tx ≤ 40) && decide (es.length ≤ 200) && entOk tx ⟨#[]⟩ es)) := hq
  have HRW : Hid ((kRow kEntry).is false w T [.slice a es.length c] es) := hr
  have HZ : Hid ((kRow kEntry).sz es ≤ 2 ^ 20) := hz
  rw [← hq]
  obtain ⟨n, hn⟩ : ∃ n, n = es.length := ⟨_, rfl⟩
  have HN : Hid (n = es.length) := hn
  rw [← hn] at HRW ⊢
  have hmx' : n ≤ 9223372036854775807 := by rw [hn]; exact hmx
  clear h0 z0 hz hq hr hmx hn
  show Calls Try.prog 15 #[.agg #[.int .i64 tx, .slice a n c]] w _
  by_cases c1 : tx < 0
  · have HF : Hid (q = false) := by show _ = _; rw [HQ.out, decide_eq_false (by omega)]; rfl
    go_enter Try.func15, Try.ntmps15
    go_wp2
    go_ret
    exact ⟨by rw [HF.out]; rfl, by go_grown⟩
  by_cases c2 : 40 < tx
  · have HF : Hid (q = false) := by show _ = _; rw [HQ.out, decide_eq_false (by omega)]; rfl
    go_enter Try.func15, Try.ntmps15
    go_wp2
    go_ret
    exact ⟨by rw [HF.out]; rfl, by go_grown⟩
  by_cases c3 : (200 : Int) < (n : Int)
  · have HF : Hid (q = false) := by show _ = _; rw [HQ.out, decide_eq_false (p := es.length ≤ 200) (by rw [← HN.out]; omega), Bool.and_false]; rfl
    go_enter Try.func15, Try.ntmps15
    go_wp2
    go_ret
    exact ⟨by rw [HF.out]; rfl, by go_grown⟩
  have HQ2 : Hid (entOk tx ⟨#[]⟩ es = q) := by show _ = _; rw [HQ.out, decide_eq_true (by omega), decide_eq_true (p := es.length ≤ 200) (by rw [← HN.out]; omega)]; rfl
  clear HQ
  go_enter Try.func15, Try.ntmps15
  go_wp2_with fail
  obtain ⟨W0, hW0⟩ : ∃ W0, W0 = w.alloc (.cells #[.int .i64 tx, .slice a n c] 27) := ⟨_, rfl⟩
  rw [← hW0]
  have b0 : Below w.heap.size w W0 := by rw [hW0]; exact below_a1 _ _
  have X0 : W0.cell? ⟨w.heap.size, 0, none⟩ = some (.int .i64 tx) := by rw [hW0]; simp [go_sem]
  have zW0 : w.heap.size < W0.heap.size := by rw [hW0]; simp
  clear hW0
  go_loopw [3, 23] (fun lv iv wr => ∃ (k : Nat) (last : ByteArray), k ≤ n ∧ iv = .int .i64 k ∧ lv = .string last ∧ Hid (entOk tx last (es.drop k) = q) ∧ Below W0.heap.size W0 wr) (fun _ iv _ => n - (intOf iv).toNat)
  case atStart => exact ⟨0, ⟨#[]⟩, Nat.zero_le _, rfl, rfl, HQ2, Below.refl _ _⟩
  case round =>
    obtain ⟨k, last, hk, rfl, rfl, HI, hnx⟩ := hrel
    have zw := hnx.size
    have Y0 := cell_later hnx X0
    by_cases hlt : k < n
    · obtain ⟨⟨x, l⟩, hx⟩ : ∃ x, es[k]? = some x := ⟨_, List.getElem?_eq_getElem (by rw [← HN.out]; exact hlt)⟩
      have hrow := Kd.below HRW.out (b0.trans (hnx.mono (by omega)))
      obtain ⟨b, off, B, C, rfl, hb, _, hi, _, hc⟩ := row_at hrow hx
      obtain ⟨la, lc, TL, rfl, gx, gl, hl, _⟩ := kEntry_open hi
      have A0 : wr.cell? ⟨b, off + k * 2, none⟩ = some (.string x) := (hc 0 _ rfl).1
      have A1 : wr.cell? ⟨b, off + k * 2 + 1, none⟩ = some (.slice la l.length lc) := (hc 1 _ rfl).1
      have i0 : (0 : Int) ≤ (k : Int) := by omega
      have i1 : (k : Int) < (n : Int) := by omega
      have hdr : es.drop k = (x, l) :: es.drop (k + 1) := by
        rw [List.drop_eq_getElem_cons (by rw [← HN.out]; exact hlt)]
        congr 1
        exact (List.getElem?_eq_some_iff.1 hx).2
      have HI1 : Hid ((isWordB x && lessB last x && !l.isEmpty && postOk tx (-1) l && entOk tx x (es.drop (k + 1))) = q) := by have := HI.out; rw [hdr, entOk] at this; exact this
      have HXS : Hid (x.size ≤ 2 ^ 20) := Nat.le_trans (szEntI hx) HZ.out
      have HL : Hid ((kRow kPosting).is false wr TL [.slice la l.length lc] l) := hl
      clear hdr HI hi hl hc hrow hx
      go_wp2_with fail
      refine (isWord_k x _ HXS.out).mono ?_
      rintro e w1 ⟨rfl, hb1⟩
      have B1 : Below wr.heap.size wr w1 := (below_a1 _ _).trans (hb1.mono (by simp))
      have E0 : w1.cell? ⟨wr.heap.size, 0, none⟩ = some (.string x) := by rw [hb1.cell (by simp)]; simp [go_sem]
      have E1 : w1.cell? ⟨wr.heap.size, 1, none⟩ = some (.slice la l.length lc) := by rw [hb1.cell (by simp)]; simp [go_sem]
      have Z0 := cell_later B1 Y0
      have HL1 : Hid ((kRow kPosting).is false w1 TL [.slice la l.length lc] l) := Kd.below HL.out B1
      have HB1 : Hid (Below W0.heap.size W0 w1) := hnx.trans (B1.mono zw)
      have HBW : Hid (Below w.heap.size w w1) := b0.trans (HB1.out.mono (by omega))
      clear hb1 B1 HL A0 A1 Y0 hnx
      cases w1' : isWordB x with
      | false =>
        have HF : Hid (q = false) := by have := HI1.out; rw [w1'] at this; exact this.symm
        clear HI1 w1'
        go_wp2
        go_ret
        exact ⟨by rw [HF.out]; rfl, HBW.out⟩
      | true =>
        have hle := leq_is x last
        cases w2 : lessB last x with
        | false =>
          rw [w2] at hle
          have HF : Hid (q = false) := by have := HI1.out; rw [w1', w2] at this; exact this.symm
          clear HI1 w1' w2
          go_wp2
          go_ret
          exact ⟨by rw [HF.out]; rfl, HBW.out⟩
        | true =>
          rw [w2] at hle
          by_cases w3 : l.length = 0
          · have HF : Hid (q = false) := by have := HI1.out; rw [w1', w2, isEmpty_len, decide_eq_true w3] at this; exact this.symm
            have w3' : ((l.length : Int) == 0) = true := by rw [beq_iff_eq]; omega
            clear HI1 w1' w2 w3
            go_wp2
            go_ret
            exact ⟨by rw [HF.out]; rfl, HBW.out⟩
          · have w3' : ((l.length : Int) == 0) = false := by rw [beq_eq_false_iff_ne]; omega
            have HI2 : Hid ((postOk tx (-1) l && entOk tx x (es.drop (k + 1))) = q) := by have := HI1.out; rw [w1', w2, isEmpty_len, decide_eq_false w3] at this; exact this
            clear HI1 w1' w2 w3
            go_wp2_with fail
            refine (arePostings_k l la _ lc TL tx _ HL1.out).mono ?_
            rintro e w2 ⟨rfl, hb2⟩
            have E02 := cell_later hb2 E0
            have HB2 : Hid (Below W0.heap.size W0 w2) := HB1.out.trans (hb2.mono HB1.out.size)
            have HBW2 : Hid (Below w.heap.size w w2) := HBW.out.trans (hb2.mono HBW.out.size)
            clear hb2 E0 E1 Z0
            cases w4 : postOk tx (-1) l with
            | false =>
              have HF : Hid (q = false) := by have := HI2.out; rw [w4] at this; exact this.symm
              clear HI2 w4
              go_wp2
              go_ret
              exact ⟨by rw [HF.out]; rfl, HBW2.out⟩
            | true =>
              have HI3 : Hid (entOk tx x (es.drop (k + 1)) = q) := by have := HI2.out; rw [w4] at this; exact this
              clear HI2 w4
              go_wp2
              go_roundw
              case rel => exact ⟨k + 1, x, by omega, by go_num, rfl, HI3, HB2.out⟩
              case measure => simp [intOf]; omega
    · have HF : Hid (q = true) := by
        have := HI.out
        rw [show k = es.length by rw [← HN.out]; omega, List.drop_length, entOk] at this
        exact this.symm
      go_wp2
      go_ret
      exact ⟨by rw [HF.out]; rfl, b0.trans (hnx.mono (by omega))⟩
end Go.Proofs.Ytikgcgfigcolmaa
namespace Go.Proofs.Ytikgcgfigcolmaa
open Go.RowKit
set_option linter.unusedVariables false

set_option maxRecDepth 100000 in
set_option maxHeartbeats 1000000 in
theorem listOf1_k (x s : ByteArray) (a : Option Addr) (n c : Nat) (w : World) :
    Calls Try.prog 93 #[.agg #[.string x, .slice a n c], .string s] w fun e w' => e = .returned (.int .i64 (cmpB x s)) ∧ Below w.heap.size w w' := by
  go_enter Try.func93, Try.ntmps93
  go_wp2_with (first | (go_at_call 94; refine (Try.strings_Compare _ _ _).mono ?_; rintro e w' ⟨rfl, rfl⟩))
  go_ret
  exact ⟨rfl, by go_grown⟩

/-- How many entries' words lie ahead of s. -/
def ahead (s : ByteArray) : List DEntry → Nat
  | [] => 0
  | (x, _) :: r => if lessB x s = true then ahead s r + 1 else 0
def wordAtE (es : List DEntry) (i : Nat) : ByteArray := ((es[i]?).map Prod.fst).getD ⟨#[]⟩
/-- The list of the entry with the word s. -/
def findL (s : ByteArray) : List DEntry → List DPosting
  | [] => []
  | (x, l) :: r => if x = s then l else findL s r
theorem findL_at {s : ByteArray} : ∀ (es : List DEntry) (i : Nat) (l : List DPosting), Rises es → es[i]? = some (s, l) → findL s es = l
  | [], i, l, _, h => by simp at h
  | (x, m) :: r, 0, l, _, h => by
    simp only [List.getElem?_cons_zero, Option.some.injEq, Prod.mk.injEq] at h
    rw [findL, if_pos h.1]
    exact h.2
  | (x, m) :: r, i + 1, l, hr, h => by
    have hx : lessB x s = true := hr 0 (i + 1) x m s l (by omega) rfl h
    have hne : ¬ x = s := fun e => by rw [e, lessB_irr] at hx; cases hx
    rw [findL, if_neg hne]
    exact findL_at r i l (fun i j x l y m hij hi hj => hr (i + 1) (j + 1) x l y m (by omega) (by simpa using hi) (by simpa using hj)) (by simpa using h)
theorem findL_none {s : ByteArray} : ∀ (es : List DEntry), (∀ (i : Nat) (x : ByteArray) (l : List DPosting), es[i]? = some (x, l) → x ≠ s) → findL s es = []
  | [], _ => rfl
  | (x, m) :: r, h => by
    rw [findL, if_neg (h 0 x m rfl)]
    exact findL_none r (fun i y l hi => h (i + 1) y l (by simpa using hi))
/-- How far a search has come. -/
def Nar (s : ByteArray) (es : List DEntry) (lo hi : Nat) : Prop := (∀ (i : Nat) (x : ByteArray) (l : List DPosting), i < lo → es[i]? = some (x, l) → lessB x s = true) ∧ ∀ (i : Nat) (x : ByteArray) (l : List DPosting), hi ≤ i → es[i]? = some (x, l) → lessB x s = false
theorem Nar.up {s : ByteArray} {es : List DEntry} {lo hi m : Nat} {x : ByteArray} {l : List DPosting} (h : Nar s es lo hi) (hr : Rises es) (hm : es[m]? = some (x, l)) (hx : lessB x s = true) : Nar s es (m + 1) hi :=
  ⟨fun i y k hi hy => by
    by_cases e : i = m
    · subst e
      rw [hm] at hy
      simp only [Option.some.injEq, Prod.mk.injEq] at hy
      rw [← hy.1]
      exact hx
    · exact lessB_trans (hr i m y k x l (by omega) hy hm) hx, h.2⟩
theorem Nar.down {s : ByteArray} {es : List DEntry} {lo hi m : Nat} {x : ByteArray} {l : List DPosting} (h : Nar s es lo hi) (hr : Rises es) (hm : es[m]? = some (x, l)) (hx : lessB x s = false) : Nar s es lo m :=
  ⟨h.1, fun i y k hi hy => by
    by_cases e : i = m
    · subst e
      rw [hm] at hy
      simp only [Option.some.injEq, Prod.mk.injEq] at hy
      rw [← hy.1]
      exact hx
    · cases hl : lessB y s with
      | false => rfl
      | true => rw [lessB_trans (hr m i x l y k (by omega) hm hy) hl] at hx; cases hx⟩
theorem Nar.found {s : ByteArray} {es : List DEntry} {k : Nat} {x : ByteArray} {l : List DPosting} (h : Nar s es k k) (hr : Rises es) (hm : es[k]? = some (x, l)) : findL s es = if x = s then l else [] := by
  by_cases e : x = s
  · subst e
    rw [if_pos rfl]
    exact findL_at es k l hr hm
  · rw [if_neg e]
    refine findL_none es (fun i y m hy he => ?_)
    subst he
    by_cases hi : i < k
    · have := h.1 i _ m hi hy
      rw [lessB_irr] at this
      cases this
    · by_cases hk : i = k
      · subst hk
        rw [hm] at hy
        simp only [Option.some.injEq, Prod.mk.injEq] at hy
        exact e hy.1
      · have h1 := hr k i x l y m (by omega) hm hy
        have h2 := h.2 k x l (Nat.le_refl _) hm
        rw [h1] at h2
        cases h2
theorem Nar.none {s : ByteArray} {es : List DEntry} {k : Nat} (h : Nar s es k k) (hk : es.length ≤ k) : findL s es = [] := by
  refine findL_none es (fun i y m hy he => ?_)
  subst he
  have := h.1 i _ m (by have := (List.getElem?_eq_some_iff.1 hy).1; omega) hy
  rw [lessB_irr] at this
  cases this
end Go.Proofs.Ytikgcgfigcolmaa
namespace Go.Proofs.Ytikgcgfigcolmaa
open Go.RowKit
set_option linter.unusedVariables false

set_option maxRecDepth 100000 in
set_option maxHeartbeats 4000000 in
theorem search_k (es : List DEntry) (s : ByteArray) (a : Option Addr) (n c : Nat) (S : Nat → Prop) (w : World) (h : (kRow kEntry).is false w S [.slice a n c] es) (hr : Rises es) (hn30 : n ≤ 2 ^ 30) :
    Calls Try.prog 92 #[.slice a n c, .string s, .func (.func 93) #[] #[]] w fun e w' => ∃ (k : Nat) (b : Bool), e = .returned (.tuple #[.int .i64 k, .bool b]) ∧ ((b = true ∧ ∃ l, es[k]? = some (s, l)) ∨ (b = false ∧ findL s es = [])) ∧ Below w.heap.size w w' := by
  have HN : Hid (n = es.length) := row_len h
  have HR : Hid (Rises es) := hr
  have HRW : Hid ((kRow kEntry).is false w S [.slice a n c] es) := h
  clear h hr
  go_enter Try.func92, Try.ntmps92
  go_wp2_with fail
  go_loopw [9, 10] (fun lv hv wr => ∃ lo hi : Nat, lv = .int .i64 lo ∧ hv = .int .i64 hi ∧ lo ≤ hi ∧ hi ≤ n ∧ Hid (Nar s es lo hi) ∧ Below w.heap.size w wr) (fun lv hv _ => (intOf hv).toNat - (intOf lv).toNat)
  case atStart => exact ⟨0, n, rfl, rfl, Nat.zero_le _, Nat.le_refl _, ⟨fun i x l hi => by omega, fun i x l hi hx => by have := (List.getElem?_eq_some_iff.1 hx).1; rw [← HN.out] at this; omega⟩, Below.refl _ _⟩
  case round =>
    obtain ⟨lo, hi, rfl, rfl, hlh, hin, HI, hnx⟩ := hrel
    have zw := hnx.size
    by_cases hlt : lo < hi
    · obtain ⟨m, hm⟩ : ∃ m, m = (lo + hi) / 2 := ⟨_, rfl⟩
      have em : ((lo : Int) + (hi : Int)) / 2 = (m : Int) := by omega
      have hmn : m < n := by omega
      have hm1 : lo ≤ m := by omega
      have hm2 : m < hi := by omega
      obtain ⟨⟨x, l⟩, hx⟩ : ∃ x, es[m]? = some x := ⟨_, List.getElem?_eq_getElem (by rw [← HN.out]; exact hmn)⟩
      obtain ⟨b, off, B, C, rfl, hb, _, hi', _, hc⟩ := row_at (Kd.below HRW.out hnx) hx
      obtain ⟨la, lc, TL, rfl, gx, gl, hl, _⟩ := kEntry_open hi'
      have A0 : wr.cell? ⟨b, off + m * 2, none⟩ = some (.string x) := (hc 0 _ rfl).1
      have A1 : wr.cell? ⟨b, off + m * 2 + 1, none⟩ = some (.slice la l.length lc) := (hc 1 _ rfl).1
      have i0 : (0 : Int) ≤ (m : Int) := by omega
      have i1 : (m : Int) < (n : Int) := by omega
      have HX : Hid (es[m]? = some (x, l)) := hx
      have hcl := listOf1_k x s la l.length lc wr
      have hcz := cmpB_less x s
      clear hi' hl hc hx hm
      cases hw : lessB x s with
      | true =>
        have c1 : cmpB x s < 0 := hcz.2 hw
        have HI2 : Hid (Nar s es (m + 1) hi) := HI.out.up HR.out HX.out hw
        clear hw hcz HI
        generalize cmpB x s = z at *
        go_wp2_with fail
        refine hcl.mono ?_
        rintro e w1 ⟨rfl, hb1⟩
        go_wp2
        go_roundw
        case rel => exact ⟨m + 1, hi, by rfl, rfl, by omega, hin, HI2, hnx.trans (hb1.mono zw)⟩
        case measure => simp only [intOf]; omega
      | false =>
        have c1 : ¬ cmpB x s < 0 := fun h => by rw [hcz.1 h] at hw; cases hw
        have HI2 : Hid (Nar s es lo m) := HI.out.down HR.out HX.out hw
        clear hw hcz HI
        generalize cmpB x s = z at *
        go_wp2_with fail
        refine hcl.mono ?_
        rintro e w1 ⟨rfl, hb1⟩
        go_wp2
        go_roundw
        case rel => exact ⟨lo, m, rfl, rfl, by omega, by omega, HI2, hnx.trans (hb1.mono zw)⟩
        case measure => simp only [intOf]; omega
    · obtain rfl : hi = lo := by omega
      by_cases hl' : hi < n
      · obtain ⟨⟨x, l⟩, hx⟩ : ∃ x, es[hi]? = some x := ⟨_, List.getElem?_eq_getElem (by rw [← HN.out]; exact hl')⟩
        obtain ⟨b, off, B, C, rfl, hb, _, hi', _, hc⟩ := row_at (Kd.below HRW.out hnx) hx
        obtain ⟨la, lc, TL, rfl, gx, gl, hl, _⟩ := kEntry_open hi'
        have A0 : wr.cell? ⟨b, off + hi * 2, none⟩ = some (.string x) := (hc 0 _ rfl).1
        have A1 : wr.cell? ⟨b, off + hi * 2 + 1, none⟩ = some (.slice la l.length lc) := (hc 1 _ rfl).1
        have i0 : (0 : Int) ≤ (hi : Int) := by omega
        have i1 : (hi : Int) < (n : Int) := by omega
        have HX : Hid (es[hi]? = some (x, l)) := hx
        have HF : Hid (findL s es = if x = s then l else []) := HI.out.found HR.out hx
        have hcl := listOf1_k x s la l.length lc wr
        have hcz := cmpB_zero x s
        clear hi' hl hc hx
        by_cases hw : x = s
        · have c1 : (cmpB x s == 0) = true := by rw [beq_iff_eq]; exact hcz.2 hw
          have HX2 : Hid (es[hi]? = some (s, l)) := by have := HX.out; rw [hw] at this; exact this
          clear hw hcz HI HF
          generalize cmpB x s = z at *
          go_wp2_with fail
          refine hcl.mono ?_
          rintro e w1 ⟨rfl, hb1⟩
          go_wp2
          refine bodyPost_ret (v := .tuple #[.int .i64 (hi : Int), .bool true]) (by simp [results, Try.results92, go_sem]) rfl ?_
          exact ⟨hi, true, rfl, .inl ⟨rfl, l, HX2.out⟩, hnx.trans (hb1.mono zw)⟩
        · have c1 : (cmpB x s == 0) = false := by rw [beq_eq_false_iff_ne]; exact fun h => hw (hcz.1 h)
          have HF2 : Hid (findL s es = []) := by have := HF.out; rw [if_neg hw] at this; exact this
          clear hw hcz HI HF
          generalize cmpB x s = z at *
          go_wp2_with fail
          refine hcl.mono ?_
          rintro e w1 ⟨rfl, hb1⟩
          go_wp2
          refine bodyPost_ret (v := .tuple #[.int .i64 (hi : Int), .bool false]) (by simp [results, Try.results92, go_sem]) rfl ?_
          exact ⟨hi, false, rfl, .inr ⟨rfl, HF2.out⟩, hnx.trans (hb1.mono zw)⟩
      · have HF2 : Hid (findL s es = []) := HI.out.none (by rw [← HN.out]; omega)
        have i1 : ¬ (hi : Int) < (n : Int) := by omega
        go_wp2
        refine bodyPost_ret (v := .tuple #[.int .i64 (hi : Int), .bool false]) (by simp [results, Try.results92, go_sem]) rfl ?_
        exact ⟨hi, .inl ⟨rfl, HF2.out, hnx⟩⟩
end Go.Proofs.Ytikgcgfigcolmaa
namespace Go.Proofs.Ytikgcgfigcolmaa
open Go.RowKit
set_option linter.unusedVariables false

theorem own_empC (W : World) (e : TypeId) (size B : Nat) (hB : B ≤ W.heap.size) : (W.alloc (.cells #[] e)).ownsRow B e size (.slice (some ⟨W.heap.size, 0, none⟩) 0 0) 0 [] :=
  ⟨by simp, .inr ⟨W.heap.size, 0, #[], rfl, hB, World.alloc_heap_new W _, Nat.le_refl _, Nat.zero_le _, by simp, by simp⟩⟩
theorem own_empP (w : World) (B : Nat) (hB : B ≤ w.heap.size) : OwnL poC 43 2 (w.alloc (.cells #[] 43)) B (.slice (some ⟨w.heap.size, 0, none⟩) 0 0) [] := own_empC w _ 2 B hB
theorem posts_cells {w : World} {S : Nat → Prop} {ad : Addr} {n c : Nat} {l : List DPosting} (h : (kRow kPosting).is false w S [.slice (some ad) n c] l) : ∀ j u, (l.flatMap poC)[j]? = some u → w.cell? (ad.add j) = some u := by
  intro j u hu
  have hlen : (l.flatMap poC).length = l.length * 2 := by
    clear h hu
    induction l with
    | nil => rfl
    | cons y t ih => rw [List.flatMap_cons, List.length_append, ih, List.length_cons]; show 2 + _ = _; omega
  have hj : j < l.length * 2 := by rw [← hlen]; exact (List.getElem?_eq_some_iff.1 hu).1
  obtain ⟨x, hx⟩ : ∃ x, l[j / 2]? = some x := ⟨_, List.getElem?_eq_getElem (by omega)⟩
  obtain ⟨b, off, B, C, e, hb, _, hi, _, hc⟩ := row_at h hx
  obtain ⟨x0, x1⟩ := x
  obtain ⟨rfl, _, _⟩ := kPosting_open hi
  have := flat_get (cs := poC) (n := 2) (fun _ => rfl) l (j / 2) (j % 2) (x0, x1) hx (by omega)
  rw [show j / 2 * 2 + j % 2 = j by omega, hu] at this
  have h1 := (hc (j % 2) u this.symm).1
  obtain rfl : ad = ⟨b, off, none⟩ := by injection e
  rw [show ((⟨b, off, none⟩ : Addr).add j) = ⟨b, off + j, none⟩ by unfold Addr.add; split <;> simp_all]
  rw [show off + j / 2 * kPosting.wd + j % 2 = off + j by show off + j / 2 * 2 + j % 2 = off + j; omega] at h1
  exact h1
theorem posts_one (l : List DPosting) : ∀ u ∈ l.flatMap poC, u.oneCell' = true := by
  intro u hu
  obtain ⟨y, _, hy⟩ := List.mem_flatMap.1 hu
  simp [poC] at hy
  rcases hy with rfl | rfl <;> rfl
theorem posts_len (l : List DPosting) : (l.flatMap poC).length = l.length * 2 := by
  induction l with
  | nil => rfl
  | cons y t ih => rw [List.flatMap_cons, List.length_append, ih, List.length_cons]; show 2 + _ = _; omega
theorem posts_ok {w : World} {S : Nat → Prop} {o : Bool} {a : Option Addr} {n c : Nat} {l : List DPosting} (h : (kRow kPosting).is o w S [.slice a n c] l) : ∀ x ∈ l, IntOk x.1 ∧ IntOk x.2 := by
  intro x hx
  obtain ⟨i, hi⟩ := List.getElem?_of_mem hx
  obtain ⟨b, off, B, C, _, _, _, hk, _⟩ := row_at h hi
  obtain ⟨x0, x1⟩ := x
  obtain ⟨_, h1, h2⟩ := kPosting_open hk
  exact ⟨h1, h2⟩
/-- append(none, l...) of postings. -/
theorem app_posts {w : World} {ops : Array Oper} {rest : List Oper} {o : Oper} {a : Act} {Q : Exit → Act → World → Prop} (hgd : o.guard = none) (s x : Operand)
    (ho : o.op = .call { callee := .builtin .append, args := #[s, x], argTypes := #[39, 39] })
    (B : Nat) (v : Value) (hs : a.eval s = v) (hown : OwnL poC 43 2 w B v []) (ad : Addr) (n c : Nat) (S : Nat → Prop) (l : List DPosting) (hx : a.eval x = .slice (some ad) n c) (hr : (kRow kPosting).is false w S [.slice (some ad) n c] l)
    (hL : l.length ≤ 2 ^ 30) (hbase : B ≤ w.heap.size)
    (h : ∀ a' n' c' w', (kRow kPosting).is true w' (fun k => B ≤ k) [.slice a' n' c'] l → Below B w w' → wpList Try.prog ops Q rest (a.put o.dst (.slice a' n' c')) w') : wpList Try.prog ops Q (o :: rest) a w := by
  obtain ⟨i0, hi, hz0, hz1, hz2⟩ := info_parts infoPostA
  have hn := row_len hr
  refine wpList_append_own_at w hgd s x 39 ho B 43 i0 _ 2 16 Try.underlying39 hi hz0 hz1 hz2 rfl (by decide) v 0 [] hs hown ad n c (l.flatMap poC) hx (by rw [posts_len, hn]) (posts_cells hr) (posts_one l) (by unfold maxLen; omega) (by omega) hbase fun v' w' h2 h3 _ h5 => ?_
  have ho' : OwnL poC 43 2 w' B v' l := by
    unfold OwnL
    rw [← hn]
    simpa using h2
  obtain ⟨a', c', rfl, _⟩ := ho'.form
  refine h a' _ c' w' ?_ ?_
  · exact own_kRow (K := kPosting) (fun _ => rfl) ho' (by unfold maxLen; omega) (fun x hx W S => by
      obtain ⟨h1, h2⟩ := posts_ok hr x hx
      obtain ⟨x0, x1⟩ := x
      exact kPosting_shut h1 h2)
  · exact ⟨h3.os, h3.tape, h3.output, h3.size, fun k hk => h3.block k (by omega) (fun e => by have := (World.ownsRow.lt hown k e.symm).1; omega)⟩

/-- A list copied. -/
def RPosts (l : List DPosting) (w : World) (e : Ending) (w' : World) : Prop := ∃ (a : Option Addr) (n c : Nat), e = .returned (.slice a n c) ∧ (kRow kPosting).is true w' (fun k => w.heap.size ≤ k) [.slice a n c] l ∧ Below w.heap.size w w'
set_option maxRecDepth 100000 in
set_option maxHeartbeats 2000000 in
theorem cloneP_k (l : List DPosting) (a : Option Addr) (n c : Nat) (S : Nat → Prop) (w : World) (h : (kRow kPosting).is false w S [.slice a n c] l) (hL : l.length ≤ 2 ^ 30) :
    Calls Try.prog 55 #[.slice a n c] w (RPosts l w) := by
  have HR : Hid ((kRow kPosting).is false w S [.slice a n c] l) := h
  clear h
  cases a with
  | none =>
    have HL : Hid (l = []) := by
      obtain ⟨a', c', e, _, _, h0 | ⟨b, off, B, C, e', _⟩⟩ := HR.out
      · exact h0
      · simp at e
        rw [← e.1] at e'
        cases e'
    have hnil : ∀ w : World, (binOp .eql 39 (.slice none n c) (.slice none 0 0)).run Try.prog w = .ok (.bool true) w := fun w => by kernel_rfl
    go_enter Try.func55, Try.ntmps55
    go_wp2
    go_ret
    exact ⟨none, 0, 0, rfl, by rw [HL.out]; exact row_nil _ _ _ _ _ _, Below.refl _ _⟩
  | some ad =>
    have HOE : Hid (OwnL poC 43 2 (w.alloc (.cells #[] 43)) w.heap.size (.slice (some ⟨w.heap.size, 0, none⟩) 0 0) []) := own_empP w w.heap.size (Nat.le_refl _)
    have HR1 : Hid ((kRow kPosting).is false (w.alloc (.cells #[] 43)) S [.slice (some ad) n c] l) := Kd.below HR.out (below_a1' _ _)
    have hnil : ∀ w : World, (binOp .eql 39 (.slice (some ad) n c) (.slice none 0 0)).run Try.prog w = .ok (.bool false) w := fun w => by kernel_rfl
    go_enter Try.func55, Try.ntmps55
    go_wp2_with (first | (at_builtin; go_loud (refine app_posts rfl _ _ rfl w.heap.size _ rfl HOE.out ad n c S l rfl HR1.out hL (by simp) ?_)))
    intro a' n' c' w' hk hb
    have HK : Hid ((kRow kPosting).is true w' (fun k => w.heap.size ≤ k) [.slice a' n' c'] l) := hk
    have HB : Hid (Below w.heap.size w w') := (below_a1' _ _).trans hb
    clear hk hb
    go_wp2
    go_ret
    exact ⟨a', n', c', rfl, HK.out, HB.out⟩
end Go.Proofs.Ytikgcgfigcolmaa
namespace Go.Proofs.Ytikgcgfigcolmaa
open Go.RowKit
set_option linter.unusedVariables false

theorem szEntL {es : List DEntry} {i : Nat} {x : ByteArray} {l : List DPosting} (h : es[i]? = some (x, l)) : l.length ≤ (kRow kEntry).sz es := by
  have h1 := sums_ge kEntry.sz es i (x, l) h
  have h2 : kEntry.sz (x, l) = x.size + (l.length + sums kPosting.sz l) := rfl
  have h3 : (kRow kEntry).sz es = es.length + sums kEntry.sz es := rfl
  omega
theorem findL_len (s : ByteArray) : ∀ es : List DEntry, (findL s es).length ≤ sums kEntry.sz es
  | [] => by simp [findL]
  | (x, l) :: r => by
    have ih := findL_len s r
    have h2 : sums kEntry.sz ((x, l) :: r) = (x.size + (l.length + sums kPosting.sz l)) + sums kEntry.sz r := rfl
    rw [findL]
    split <;> omega

set_option maxRecDepth 100000 in
set_option maxHeartbeats 2000000 in
theorem listOf_k (tx : Int) (es : List DEntry) (s : ByteArray) (a : Option Addr) (n c : Nat) (S : Nat → Prop) (w : World) (h : (kRow kEntry).is false w S [.slice a n c] es) (hr : Rises es) (hn30 : n ≤ 2 ^ 30) :
    Calls Try.prog 56 #[.agg #[.int .i64 tx, .slice a n c], .string s] w fun e w' => ∃ (la : Option Addr) (ln lc : Nat) (T : Nat → Prop), e = .returned (.slice la ln lc) ∧ (kRow kPosting).is false w' T [.slice la ln lc] (findL s es) ∧ (∀ k, T k → S k) ∧ Below w.heap.size w w' := by
  have HR : Hid (Rises es) := hr
  have HRW : Hid ((kRow kEntry).is false w S [.slice a n c] es) := h
  have HN : Hid (n = es.length) := row_len h
  clear h hr
  go_enter Try.func56, Try.ntmps56
  go_wp2_with fail
  refine (search_k es s a n c S _ (Kd.below HRW.out (below_a1 _ _)) HR.out hn30).mono ?_
  rintro e w1 ⟨k, b, rfl, hq, hb1⟩
  have X1 : w1.cell? ⟨w.heap.size, 1, none⟩ = some (.slice a n c) := by rw [hb1.cell (by simp)]; simp [go_sem]
  have B1 : Below w.heap.size w w1 := (below_a1 _ _).trans (hb1.mono (by simp))
  have hrow := Kd.below HRW.out B1
  have HB1 : Hid (Below w.heap.size w w1) := B1
  clear hb1 B1
  rcases hq with ⟨rfl, l, hx⟩ | ⟨rfl, hf⟩
  · obtain ⟨b, off, B, C, rfl, hb, _, hi', hBS, hc⟩ := row_at hrow hx
    obtain ⟨la, lc, TL, rfl, gx, gl, hl, hTB⟩ := kEntry_open hi'
    have HTS : Hid (∀ k, TL k → S k) := fun k hk => hBS k (hTB k hk)
    have A0 : w1.cell? ⟨b, off + k * 2, none⟩ = some (.string s) := (hc 0 _ rfl).1
    have A1 : w1.cell? ⟨b, off + k * 2 + 1, none⟩ = some (.slice la l.length lc) := (hc 1 _ rfl).1
    have hk : k < n := by rw [HN.out]; exact (List.getElem?_eq_some_iff.1 hx).1
    have i0 : (0 : Int) ≤ (k : Int) := by omega
    have i1 : (k : Int) < (n : Int) := by omega
    have HL : Hid ((kRow kPosting).is false w1 TL [.slice la l.length lc] (findL s es)) := by show (kRow kPosting).is _ _ _ _ _; rw [findL_at es k l HR.out hx]; exact hl
    clear hi' hl hc hx hrow hBS hTB
    go_wp2
    go_ret
    exact ⟨la, l.length, lc, TL, rfl, HL.out, HTS.out, HB1.out⟩
  · have HF : Hid (findL s es = []) := hf
    clear hf hrow
    go_wp2
    go_ret
    exact ⟨none, 0, 0, fun _ => False, rfl, by rw [HF.out]; exact row_nil _ _ _ _ _ _, fun _ h => h.elim, HB1.out⟩

/-- PostingsOf. -/
def fPostingsOf : DWords → ByteArray → List DPosting × Bool := fun x s => if (fGoodWords x && isWordB s) = true then (findL s x.2, true) else ([], false)
/-- What PostingsOf answers. -/
def RPostingsOf (x0 : DWords) (x1 : ByteArray) (w : World) (e : Ending) (w' : World) : Prop := ∃ (a0 : Option Addr) (n0 c0 : Nat) (T0 : Nat → Prop), e = .returned (.tuple #[.slice a0 n0 c0, .bool (fPostingsOf x0 x1).2]) ∧ (kRow kPosting).is true w' T0 [.slice a0 n0 c0] (fPostingsOf x0 x1).1 ∧ (∀ k, T0 k → w.heap.size ≤ k) ∧ sums kPosting.cnt (fPostingsOf x0 x1).1 ≤ 2 ^ 26 ∧ Below w.heap.size w w'
theorem RPo_no {x : DWords} {s : ByteArray} {w w' : World} (h : fPostingsOf x s = ([], false)) (hb : Below w.heap.size w w') : RPostingsOf x s w (.returned (.tuple #[.slice none 0 0, .bool false])) w' := by
  unfold RPostingsOf
  rw [h]
  exact ⟨none, 0, 0, fun _ => False, rfl, row_nil _ _ _ _ _ _, fun k hk => hk.elim, by simp [sums], hb⟩
theorem RPo_yes {t : Int} {es : List DEntry} {s : ByteArray} {w w1 w' : World} {a : Option Addr} {n c : Nat} (h : fPostingsOf (t, es) s = (findL s es, true)) (hz : (kRow kEntry).sz es ≤ 2 ^ 20) (h1 : w.heap.size ≤ w1.heap.size) (hr : (kRow kPosting).is true w' (fun k => w1.heap.size ≤ k) [.slice a n c] (findL s es)) (hb : Below w.heap.size w w') : RPostingsOf (t, es) s w (.returned (.tuple #[.slice a n c, .bool true])) w' := by
  unfold RPostingsOf
  rw [h]
  refine ⟨a, n, c, _, rfl, hr, fun k hk => Nat.le_trans h1 hk, ?_, hb⟩
  rw [cnt_posts]
  have := findL_len s es
  have h3 : (kRow kEntry).sz es = es.length + sums kEntry.sz es := rfl
  show (findL s es).length * 2 ≤ _
  omega

set_option maxRecDepth 100000 in
set_option maxHeartbeats 4000000 in
theorem implPostingsOf_k (x0 : DWords) (C0 : List Value) (S0 : Nat → Prop) (x1 : ByteArray) (w : World) (h0 : kWords.is false w S0 C0 x0) (z0 : kWords.sz x0 ≤ 2 ^ 20) (h1 : x1.size ≤ 2 ^ 20) :
    Calls Try.prog 17 #[.agg C0.toArray, .string x1] w (RPostingsOf x0 x1 w) := by
  obtain ⟨tx, es⟩ := x0
  have HK : Hid (kWords.is false w S0 C0 (tx, es)) := h0
  obtain ⟨a, c, T, rfl, g0, hmx, hr, _⟩ := kWords_open h0
  have HZ0 : Hid (kWords.sz (tx, es) ≤ 2 ^ 20) := z0
  have HZ : Hid ((kRow kEntry).sz es ≤ 2 ^ 20) := by have : kWords.sz (tx, es) = 0 + (kRow kEntry).sz es := rfl; show _ ≤ _; omega
  have HRW : Hid ((kRow kEntry).is false w T [.slice a es.length c] es) := hr
  have HL20 : Hid (es.length ≤ 2 ^ 20) := by have := HZ.out; have h3 : (kRow kEntry).sz es = es.length + sums kEntry.sz es := rfl; show _ ≤ _; omega
  have HF : Hid (fPostingsOf (tx, es) x1 = if (fGoodWords (tx, es) && isWordB x1) = true then (findL x1 es, true) else ([], false)) := rfl
  clear h0 z0 hr
  show Calls Try.prog 17 #[.agg #[.int .i64 tx, .slice a es.length c], .string x1] w _
  go_enter Try.func17, Try.ntmps17
  go_wp2_with fail
  refine (implGoodWords_k (tx, es) [.int .i64 tx, .slice a es.length c] S0 _ (Kd.below HK.out (below_a1 _ _)) HZ0.out).mono ?_
  rintro e w1 ⟨rfl, hb1⟩
  have X0 : w1.cell? ⟨w.heap.size, 0, none⟩ = some (.int .i64 tx) := by rw [hb1.cell (by simp)]; simp [go_sem]
  have X1 : w1.cell? ⟨w.heap.size, 1, none⟩ = some (.slice a es.length c) := by rw [hb1.cell (by simp)]; simp [go_sem]
  have HB1 : Hid (Below w.heap.size w w1) := (below_a1 _ _).trans (hb1.mono (by simp))
  clear hb1
  cases hg : fGoodWords (tx, es) with
  | false =>
    have HNO : Hid (fPostingsOf (tx, es) x1 = ([], false)) := by have := HF.out; rw [hg] at this; exact this
    clear hg
    go_wp2
    refine bodyPost_ret (v := .tuple #[.slice none 0 0, .bool false]) (by simp [results, Try.results17, go_sem]) rfl ?_
    exact RPo_no HNO.out HB1.out
  | true =>
    have HRI : Hid (Rises es) := good_rises hg
    have HF1 : Hid (fPostingsOf (tx, es) x1 = if isWordB x1 = true then (findL x1 es, true) else ([], false)) := by have := HF.out; rw [hg] at this; exact this
    clear hg HF
    go_wp2_with fail
    refine (isWord_k x1 _ h1).mono ?_
    rintro e w2 ⟨rfl, hb2⟩
    have Y0 := cell_later hb2 X0
    have Y1 := cell_later hb2 X1
    have HB2 : Hid (Below w.heap.size w w2) := HB1.out.trans (hb2.mono HB1.out.size)
    clear hb2 X0 X1
    cases hw : isWordB x1 with
    | false =>
      have HNO : Hid (fPostingsOf (tx, es) x1 = ([], false)) := by have := HF1.out; rw [hw] at this; exact this
      clear hw
      go_wp2
      refine bodyPost_ret (v := .tuple #[.slice none 0 0, .bool false]) (by simp [results, Try.results17, go_sem]) rfl ?_
      exact RPo_no HNO.out HB2.out
    | true =>
      have HYES : Hid (fPostingsOf (tx, es) x1 = (findL x1 es, true)) := by have := HF1.out; rw [hw] at this; exact this
      clear hw HF1
      go_wp2_with fail
      refine (listOf_k tx es x1 a es.length c T _ (Kd.below HRW.out HB2.out) HRI.out (by have := HL20.out; omega)).mono ?_
      rintro e w3 ⟨la, ln, lc, T3, rfl, hl3, _, hb3⟩
      have HL3 : Hid ((kRow kPosting).is false w3 T3 [.slice la ln lc] (findL x1 es)) := hl3
      have HB3 : Hid (Below w.heap.size w w3) := HB2.out.trans (hb3.mono HB2.out.size)
      clear hl3 hb3
      go_wp2_with fail
      refine (cloneP_k (findL x1 es) la ln lc T3 _ HL3.out (by have := findL_len x1 es; have h3 : (kRow kEntry).sz es = es.length + sums kEntry.sz es := rfl; have := HZ.out; omega)).mono ?_
      rintro e w4 ⟨ca, cn, cc, rfl, hl4, hb4⟩
      have HL4 : Hid ((kRow kPosting).is true w4 (fun k => w3.heap.size ≤ k) [.slice ca cn cc] (findL x1 es)) := hl4
      have HB4 : Hid (Below w.heap.size w w4) := HB3.out.trans (hb4.mono HB3.out.size)
      clear hl4 hb4
      go_wp2
      refine bodyPost_ret (v := .tuple #[.slice ca cn cc, .bool true]) (by simp [results, Try.results17, go_sem]) rfl ?_
      exact RPo_yes HYES.out HZ.out HB3.out.size HL4.out HB4.out
end Go.Proofs.Ytikgcgfigcolmaa
namespace Go.Proofs.Ytikgcgfigcolmaa
open Go.RowKit
set_option linter.unusedVariables false

theorem findL_drop {s : ByteArray} {es : List DEntry} {k : Nat} {x : ByteArray} {l : List DPosting} (h : es[k]? = some (x, l)) : findL s (es.drop k) = if x = s then l else findL s (es.drop (k + 1)) := by
  have hk := (List.getElem?_eq_some_iff.1 h)
  rw [List.drop_eq_getElem_cons hk.1, hk.2, findL]

theorem ent_full (t : Int) : ∀ (es : List DEntry) (last : ByteArray), entOk t last es = true → ∀ (i : Nat) (x : ByteArray) (l : List DPosting), es[i]? = some (x, l) → l ≠ []
  | [], last, _, i, x, l, h => by simp at h
  | (y, m) :: r, last, hk, 0, x, l, h => by
    rw [entOk] at hk
    simp only [Bool.and_eq_true] at hk
    simp only [List.getElem?_cons_zero, Option.some.injEq, Prod.mk.injEq] at h
    rw [← h.2]
    intro e
    have := hk.1.1.2
    rw [e] at this
    simp at this
  | (y, m) :: r, last, hk, i + 1, x, l, h => by
    rw [entOk] at hk
    simp only [Bool.and_eq_true] at hk
    exact ent_full t r y hk.2 i x l (by simpa using h)
def Full (es : List DEntry) : Prop := ∀ (i : Nat) (x : ByteArray) (l : List DPosting), es[i]? = some (x, l) → l ≠ []
theorem good_full {t : Int} {es : List DEntry} (h : fGoodWords (t, es) = true) : Full es := by
  unfold fGoodWords at h
  simp only [Bool.and_eq_true] at h
  exact ent_full t es _ h.2
theorem row_some {α : Type} {K : Kd α} {o : Bool} {w : World} {S : Nat → Prop} {a : Option Addr} {n c : Nat} {l : List α} (h : (kRow K).is o w S [.slice a n c] l) (hl : l ≠ []) : ∃ ad, a = some ad := by
  cases l with
  | nil => exact absurd rfl hl
  | cons x t =>
    obtain ⟨b, off, _, _, e, _⟩ := row_at h (i := 0) rfl
    exact ⟨_, e⟩

set_option maxRecDepth 100000 in
set_option maxHeartbeats 4000000 in
theorem l10Postings_k (tx : Int) (es : List DEntry) (s : ByteArray) (a : Option Addr) (n c : Nat) (S : Nat → Prop) (w : World) (h : (kRow kEntry).is false w S [.slice a n c] es) (hz : (kRow kEntry).sz es ≤ 2 ^ 20) (hfu : Full es) :
    Calls Try.prog 89 #[.agg #[.int .i64 tx, .slice a n c], .string s] w (RPosts (findL s es) w) := by
  have HRW : Hid ((kRow kEntry).is false w S [.slice a n c] es) := h
  have hn : n = es.length := row_len h
  have HN : Hid (n = es.length) := hn
  have HZ : Hid ((kRow kEntry).sz es ≤ 2 ^ 20) := hz
  have hn20 : n ≤ 2 ^ 20 := by have h3 : (kRow kEntry).sz es = es.length + sums kEntry.sz es := rfl; omega
  have HFU : Hid (Full es) := hfu
  obtain ⟨G, hG⟩ : ∃ G, G = findL s es := ⟨_, rfl⟩
  have HG : Hid (G = findL s es) := hG
  rw [← hG]
  clear h hz hn hG hfu
  go_enter Try.func89, Try.ntmps89
  go_wp2_with fail
  obtain ⟨W0, hW0⟩ : ∃ W0, W0 = w.alloc (.cells #[.int .i64 tx, .slice a n c] 27) := ⟨_, rfl⟩
  rw [← hW0]
  have b0 : Below w.heap.size w W0 := by rw [hW0]; exact below_a1 _ _
  have zW0 : w.heap.size ≤ W0.heap.size := b0.size
  clear hW0
  go_loopw [10] (fun iv wr => ∃ (k : Nat), k ≤ n ∧ iv = .int .i64 k ∧ Hid (findL s (es.drop k) = G) ∧ Below W0.heap.size W0 wr) (fun iv _ => n - (intOf iv).toNat)
  case atStart => exact ⟨0, Nat.zero_le _, rfl, HG.out.symm, Below.refl _ _⟩
  case round =>
    obtain ⟨k, hk, rfl, HI, hnx⟩ := hrel
    have zw := hnx.size
    by_cases hlt : k < n
    · obtain ⟨⟨x, l⟩, hx⟩ : ∃ x, es[k]? = some x := ⟨_, List.getElem?_eq_getElem (by rw [← HN.out]; exact hlt)⟩
      have hrow := Kd.below HRW.out (b0.trans (hnx.mono (by omega)))
      obtain ⟨b, off, B, C, rfl, hb, _, hi, _, hc⟩ := row_at hrow hx
      obtain ⟨la, lc, TL, rfl, gx, gl, hl, _⟩ := kEntry_open hi
      have A0 : wr.cell? ⟨b, off + k * 2, none⟩ = some (.string x) := (hc 0 _ rfl).1
      have A1 : wr.cell? ⟨b, off + k * 2 + 1, none⟩ = some (.slice la l.length lc) := (hc 1 _ rfl).1
      have i0 : (0 : Int) ≤ (k : Int) := by omega
      have i1 : (k : Int) < (n : Int) := by omega
      have HI1 : Hid ((if x = s then l else findL s (es.drop (k + 1))) = G) := by have := HI.out; rw [findL_drop hx] at this; exact this
      obtain ⟨ad, rfl⟩ := row_some hl (HFU.out k x l hx)
      have HL : Hid ((kRow kPosting).is false wr TL [.slice (some ad) l.length lc] l) := hl
      have hl20 : l.length ≤ 2 ^ 20 := Nat.le_trans (szEntL hx) HZ.out
      have HNX : Hid (Below W0.heap.size W0 wr) := hnx
      clear HI hi hl hc hrow hx
      by_cases hw : x = s
      · have HGL : Hid (l = G) := by have := HI1.out; rw [if_pos hw] at this; exact this
        have t0 : (x.toList == s.toList) = true := by rw [hw]; simp
        clear HI1 hw
        have HOE : Hid (OwnL poC 43 2 ((wr.alloc (.cells #[.string x, .slice (some ad) l.length lc] 85)).alloc (.cells #[] 43)) w.heap.size (.slice (some ⟨wr.heap.size + 1, 0, none⟩) 0 0) []) := by
          have := own_empP (wr.alloc (.cells #[.string x, .slice (some ad) l.length lc] 85)) w.heap.size (by simp; omega)
          show OwnL _ _ _ _ _ _ _
          simpa using this
        have HR1 : Hid ((kRow kPosting).is false ((wr.alloc (.cells #[.string x, .slice (some ad) l.length lc] 85)).alloc (.cells #[] 43)) TL [.slice (some ad) l.length lc] l) := Kd.below (Kd.below HL.out (below_a1 _ _)) (below_a1 _ _)
        have HB1 : Hid (Below w.heap.size w ((wr.alloc (.cells #[.string x, .slice (some ad) l.length lc] 85)).alloc (.cells #[] 43))) := ((b0.trans (hnx.mono (by omega))).trans ((below_a1 _ _).mono (by omega))).trans ((below_a1 _ _).mono (by simp; omega))
        go_wp2_with (first | (at_builtin; refine app_posts rfl _ _ rfl w.heap.size _ rfl HOE.out ad l.length lc TL l rfl HR1.out (by omega) (by simp; omega) ?_))
        intro a' n' c' w' hk' hb'
        have HK : Hid ((kRow kPosting).is true w' (fun k => w.heap.size ≤ k) [.slice a' n' c'] G) := by rw [← HGL.out]; exact hk'
        have HB : Hid (Below w.heap.size w w') := HB1.out.trans hb'
        clear hk' hb'
        go_wp2
        go_ret
        exact ⟨a', n', c', rfl, HK.out, HB.out⟩
      · have HI2 : Hid (findL s (es.drop (k + 1)) = G) := by have := HI1.out; rw [if_neg hw] at this; exact this
        have t0 : (x.toList == s.toList) = false := by
          rw [beq_eq_false_iff_ne, ByteArray.toList_eq, ByteArray.toList_eq]
          intro e
          exact hw (ByteArray.ext (Array.toList_inj.1 e))
        clear HI1 hw
        go_wp2
        go_roundw
        case rel => exact ⟨k + 1, by omega, by rfl, HI2, by go_grown⟩
        case measure => simp only [intOf]; omega
    · have HGN : Hid (G = []) := by have := HI.out; rw [List.drop_eq_nil_of_le (by rw [← HN.out]; omega)] at this; exact this.symm
      have i1 : ¬ (k : Int) < (n : Int) := by omega
      go_wp2
      go_ret
      exact ⟨none, 0, 0, rfl, by rw [HGN.out]; exact row_nil _ _ _ _ _ _, b0.trans (hnx.mono (by omega))⟩

end Go.Proofs.Ytikgcgfigcolmaa
