/- Rankings that are drawn: some few lists of few. No condition but that they fit in memory. -/
import Derived.Test.YtikgcgfigcolmaaCuP
import Derived.Test.YtikgcgfigcolmaaRwB
import Derived.Test.YtikgcgfigcolmaaRpP
import Derived.Deep.RegionWith
import Derived.Deep.DeepFit
namespace Go.Proofs.Ytikgcgfigcolmaa
open Go.RowKit
set_option linter.unusedVariables false

/-- append(out, r) of rankings, where blocks ahead of all rows may have turned. -/
theorem app_rk2 {w : World} {ops : Array Oper} {rest : List Oper} {o : Oper} {a : Act} {Q : Exit → Act → World → Prop} (hgd : o.guard = none) (s x : Operand)
    (ho : o.op = .call { callee := .builtin .append, args := #[s, x], argTypes := #[47, 47] })
    (B : Nat) (v : Value) (L : List DRanking) (hs : a.eval s = v) {w0 : World} {A S : Nat → Prop} (hown : RBld w0 B v L) (hk : KeptO A w0 w) (hA : ∀ k, B ≤ k → k < w0.heap.size → ¬ A k) (b : Nat) (cv : Value) (r : DRanking) (hx : a.eval x = .slice (some ⟨b, 0, none⟩) 1 1) (hcv : cv.oneCell' = true) (hc : w.cell? ⟨b, 0, none⟩ = some cv)
    (hr : kRanking.is true w S [cv] r) (hS : ∀ k, S k → w0.heap.size ≤ k)
    (hL : L.length < 2 ^ 30) (hbase : B ≤ w0.heap.size)
    (h : ∀ v' w', RBld w' B v' (L ++ [r]) → Below B w w' → wpList Try.prog ops Q rest (a.put o.dst v') w') : wpList Try.prog ops Q (o :: rest) a w := by
  obtain ⟨i0, hi, hz0, hz1, hz2⟩ := info_parts infoRkA
  obtain ⟨cs, T, h1, h2, h3, h4, h5⟩ := hown
  have z0 := hk.size
  have h2' : OwnL vC 58 1 w B v cs := by
    obtain ⟨q1, q2 | ⟨g, cap, cur, e, q3, q4, q5⟩⟩ := h2
    · exact ⟨q1, .inl q2⟩
    · have hg := (Array.getElem?_eq_some_iff.1 q4).1
      exact ⟨q1, .inr ⟨g, cap, cur, e, q3, by rw [hk.block g hg (hA g q3 hg)]; exact q4, q5⟩⟩
  refine wpList_app1 vC hgd s x 47 ho B 58 i0 _ 1 24 Try.underlying47 hi hz0 hz1 hz2 rfl (by decide) (by decide) v cs hs h2' b cv hx rfl (fun u hu => by simp [vC] at hu; rw [hu]; exact hcv) (fun j u hj => by
    match j, hj with
    | 0, hj => obtain rfl : cv = u := by simpa [vC] using hj
               exact hc) (by omega) (by omega) fun v' w' ho' hb' hg' => h v' w' ?_ hb'
  refine RBld.grew (S := fun k => S k ∧ k < w.heap.size) h1 (fun i q hq => ?_) (fun i k hik hk' => ?_) h5 (Kd.tight _ hr (fun k hk h' => ⟨h', hk⟩)) (fun k hk' => ?_) (fun i k hik hk' hS' => ?_) ho' hg'.o
  · obtain ⟨c', h6, h7⟩ := h3 i q hq
    have hil : i < L.length := (List.getElem?_eq_some_iff.1 hq).1
    exact ⟨c', h6, Kd.kept h7 hk (fun k hkw hT => hA k (h4 i k hil hT).1 hkw)⟩
  · obtain ⟨h6, h7, h8⟩ := h4 i k hik hk'
    exact ⟨h6, by omega, h8⟩
  · have hS1 := hS k hk'.1
    exact ⟨by omega, hk'.2, fun e => by have := (World.ownsRow.lt h2 k e).2; omega⟩
  · have := (h4 i k hik hk').2.1
    have := hS k hS'.1
    omega
theorem RBld.kept {w w' : World} {A : Nat → Prop} {B : Nat} {v : Value} {L : List DRanking} (h : RBld w B v L) (hk : KeptO A w w') (hA : ∀ k, B ≤ k → ¬ A k) : RBld w' B v L := by
  obtain ⟨cs, T, h1, h2, h3, h4, h5⟩ := h
  refine ⟨cs, T, h1, h2.kept hk hA, fun i r hr => ?_, fun i k hi hk' => ?_, h5⟩
  · obtain ⟨cv, h6, h7⟩ := h3 i r hr
    have hil : i < L.length := (List.getElem?_eq_some_iff.1 hr).1
    exact ⟨cv, h6, Kd.kept h7 hk (fun k _ hT => hA k (h4 i k hil hT).1)⟩
  · obtain ⟨h6, h7, h8⟩ := h4 i k hi hk'
    exact ⟨h6, Nat.lt_of_lt_of_le h7 hk.size, h8⟩
theorem CurAt.up {w w' : World} {g B : Nat} {S : Nat → Prop} {m : Int} (h : CurAt w g S m) (hb : Below B w w') (hB : B ≤ w.heap.size) (hg : g < B) (hS : ∀ k, S k → k < B) : CurAt w' g S m :=
  h.kept (S' := fun k => B ≤ k) ⟨hb.os, hb.tape, hb.output, hb.size, fun k _ hn => hb.block k (by omega)⟩ (by omega) (fun k hk => by have := hS k hk; omega)
theorem CurAt.drew {w : World} {g : Nat} {S : Nat → Prop} {m : Int} (h : CurAt w g S m) : CurAt w.drew g S m := h.below (Below.refl _ _).drew
theorem wrap_small {y : Int} (h0 : 0 ≤ y) (h1 : y ≤ 2 ^ 40) : IntKind.i64.wrap y = y := by
  simp [IntKind.wrap, IntKind.bits, IntKind.signed]
  omega
theorem keptF {A B : Nat → Prop} {w0 w w' : World} (h : KeptO A w0 w) (k : KeptO B w w') (hs : ∀ q, q < w0.heap.size → B q → A q) : KeptO A w0 w' :=
  ⟨k.os.trans h.os, k.tape.trans h.tape, k.output.trans h.output, Nat.le_trans h.size k.size, fun q hq hn => (k.block q (Nat.lt_of_lt_of_le hq h.size) (fun e => hn (hs q hq e))).trans (h.block q hq hn)⟩
/-- Some few lists of few. -/
def Few (l : List DRanking) : Prop := l.length ≤ 4 ∧ ∀ r ∈ l, r.length ≤ 8
def RRk (w : World) (g : Nat) (S : Nat → Prop) (m : Int) (e : Ending) (w' : World) : Prop := ∃ (a : Option Addr) (n c : Nat) (T : Nat → Prop) (l : List DRanking), e = .returned (.slice a n c) ∧ (kRow kRanking).is true w' T [.slice a n c] l ∧ (∀ k, T k → w.heap.size ≤ k) ∧ Few l ∧ CurAt w' g S m ∧ KeptO (fun k => k = g) w w'
/-- The first score of the first list written anew. -/
theorem rk_put {w wr w3 : World} {g w1s : Nat} {S : Nat → Prop} {m : Int} {b off ln oc b2 off2 mm lc : Nat} {L : List DRanking} {l0 : DRanking} {x0 x1 y : Int} (hw : KeptO (fun q => q = g) w wr) (hk : KeptO (fun q => q = g) wr w3) (hr : (kRow kRanking).is true wr (fun q => w1s ≤ q) [.slice (some ⟨b, off, none⟩) ln oc] L) (hl0 : L[0]? = some l0) (hx : l0[0]? = some (x0, x1)) (hmm : mm = l0.length)
    (hA : w3.cell? ⟨b, off, none⟩ = some (.slice (some ⟨b2, off2, none⟩) mm lc)) (hz : w.heap.size ≤ w1s) (hg : g < w1s) (hf : Few L) (hy : IntOk y) (hc : CurAt w3 g S m) (hS : ∀ q, S q → q < w1s) :
    RRk w g S m (.returned (.slice (some ⟨b, off, none⟩) ln oc)) (w3.setCell ⟨b2, off2 + 1, none⟩ (.int .i64 y)) := by
  have hr3 : (kRow kRanking).is true w3 (fun q => w1s ≤ q) [.slice (some ⟨b, off, none⟩) ln oc] L := Kd.kept hr hk (fun q _ h1 h2 => by have e : q = g := h2; omega)
  obtain ⟨b', off', B, C, e, hb, hSb, hnb, hi, hBS, hcc, hput⟩ := row_put hr3 hl0
  obtain ⟨rfl, rfl⟩ : b = b' ∧ off = off' := by injection e with e; injection e with e1 e2; exact ⟨e1, e2⟩
  obtain ⟨la, lc', hC, _⟩ := row_form (K := kScored) hi
  subst hC
  have h0 := (hcc 0 _ rfl).1
  rw [show off + 0 * kRanking.wd + 0 = off by simp] at h0
  rw [hA] at h0
  obtain ⟨rfl, rfl⟩ : la = some ⟨b2, off2, none⟩ ∧ lc' = lc := by
    injection h0 with h0
    injection h0 with h1 _ h2
    exact ⟨h1.symm, h2.symm⟩
  obtain ⟨b3, off3, B3, C3, e3, hb3, hSb3, hnb3, hi3, hBS3, hcc3, hput3⟩ := row_put (K := kScored) hi hx
  obtain ⟨rfl, rfl⟩ : b2 = b3 ∧ off2 = off3 := by injection e3 with e; injection e with e1 e2; exact ⟨e1, e2⟩
  obtain ⟨rfl, g0, g1⟩ := kScored_open hi3
  have P0 : w3.cell? ⟨b2, off2 + 0 * 2 + 0, none⟩ = some (.int .i64 x0) := (hcc3 0 _ rfl).1
  have P1 : w3.cell? ⟨b2, off2 + 0 * 2 + 1, none⟩ = some (.int .i64 x1) := (hcc3 1 _ rfl).1
  rw [Nat.zero_mul] at P0 P1
  have hne : b2 ≠ b := fun e => hnb (e ▸ hSb3)
  have hin := hput3 (w3.setCell ⟨b2, off2 + 1, none⟩ (.int .i64 y)) (x0, y) [.int .i64 x0, .int .i64 y] ((OnlyO.refl _ _ _ _ _).thenSet (o := off2 + 1) (v := .int .i64 y) (by show off2 + 0 * 2 ≤ _; omega) (by show _ < off2 + 0 * 2 + 2; omega)) (kScored_shut g0 hy) (cells_cons (P := fun j u => World.cell? _ ⟨b2, off2 + 0 * kScored.wd + j, none⟩ = some u) (by show World.cell? _ ⟨b2, off2 + 0 * 2 + 0, none⟩ = _; rw [Nat.zero_mul]; exact set_other P0 (by omega)) (cells_cons (by show World.cell? _ ⟨b2, off2 + 0 * 2 + 1, none⟩ = _; rw [Nat.zero_mul]; exact set_same P1) cells_nil))
  have hon : OnlyO B b (off + 0 * kRanking.wd) (off + 0 * kRanking.wd + kRanking.wd) w3 (w3.setCell ⟨b2, off2 + 1, none⟩ (.int .i64 y)) :=
    ⟨rfl, rfl, rfl, by simp, fun k _ _ hn => heap_set_ne (fun e => hn (e ▸ hSb3)), fun o _ => World.cell?_setCell_other _ _ _ _ (fun e => by injection e with e1 _ _; exact hne e1), fun o => World.frozen?_setCell _ _ _ _⟩
  have hfin := hput (w3.setCell ⟨b2, off2 + 1, none⟩ (.int .i64 y)) (l0.set 0 (x0, y)) [.slice (some ⟨b2, off2, none⟩) l0.length lc'] hon hin (cells_cons (P := fun j u => World.cell? _ ⟨b, off + 0 * kRanking.wd + j, none⟩ = some u) (by
    rw [show off + 0 * kRanking.wd + 0 = off by simp]
    rw [World.cell?_setCell_other _ _ _ _ (fun e => by injection e with e1 _ _; exact hne e1), hA, hmm]) cells_nil)
  have hb2s : w1s ≤ b2 := hBS b2 hSb3
  have hks : KeptO (fun k => k = b2) w3 (w3.setCell ⟨b2, off2 + 1, none⟩ (.int .i64 y)) := ⟨rfl, rfl, rfl, by simp, fun k _ hn => heap_set_ne hn⟩
  refine ⟨_, _, oc, _, _, rfl, hfin, fun k hk => Nat.le_trans hz hk, ⟨by rw [List.length_set]; exact hf.1, fun r hr => ?_⟩, hc.kept hks (fun e => by have e' : g = b2 := e; omega) (fun q hq e => by have e' : q = b2 := e; have := hS q hq; omega), keptF (hw.trans hk) hks (fun q hq e => by have e' : q = b2 := e; omega)⟩
  rcases List.mem_or_eq_of_mem_set hr with h | h
  · exact hf.2 r h
  · rw [h, List.length_set]
    exact hf.2 l0 (List.mem_of_getElem? hl0)
set_option maxRecDepth 100000 in
set_option maxHeartbeats 8000000 in
theorem rankings_k (w : World) (g : Nat) (S : Nat → Prop) (m : Int) (h : CurAt w g S m) (hm : m ≤ 2 ^ 40) (hg : g < w.heap.size) (hS : ∀ k, S k → k < w.heap.size) :
    Calls Try.prog 95 #[.pointer (some ⟨g, 0, none⟩)] w (RRk w g S (m + 200)) := by
  have H : Hid (CurAt w g S m) := h
  have HSL : Hid (∀ k, S k → k < w.heap.size) := hS
  clear h hS
  go_enter Try.func95, Try.ntmps95
  go_wp2_with fail
  refine (pick_k w g S m 5 H.out (by omega) (by omega) (by omega)).mono ?_
  rintro e w1 ⟨n0, rfl, ⟨n00, n01⟩, hc, hk⟩
  obtain ⟨n, rfl⟩ : ∃ n : Nat, n0 = n := ⟨n0.toNat, by omega⟩
  have HC1 : Hid (CurAt w1 g S (m + 1)) := hc
  have HK1 : Hid (KeptO (fun k => k = g) w w1) := hk
  have z1 : w.heap.size ≤ w1.heap.size := hk.size
  clear hc hk
  go_wp2_with fail
  go_loopw [3, 4] (fun lv nv wr => ∃ (k : Nat) (L : List DRanking), k ≤ n ∧ L.length + k = n ∧ nv = .int .i64 k ∧ Hid (RBld wr w1.heap.size lv L) ∧ Hid (∀ r ∈ L, r.length ≤ 8) ∧ Hid (CurAt wr g S (m + 1 + 40 * (n - k))) ∧ Hid (KeptO (fun q => q = g) w1 wr)) (fun _ nv _ => (intOf nv).toNat)
  case atStart => exact ⟨n, [], Nat.le_refl _, by simp, rfl, RBld.nil _ _, (fun r hr => by simp at hr), HC1.out.mono (by omega), KeptO.refl _ _⟩
  case round =>
    obtain ⟨k, L, hk, hLk, rfl, HO, HSm, HC, HK⟩ := hrel
    obtain ⟨oa, oc, hov, _⟩ := HO.out.form
    subst hov
    obtain ⟨ln, hln⟩ : ∃ ln, ln = L.length := ⟨_, rfl⟩
    have HLN : Hid (ln = L.length) := hln
    rw [← hln] at HO hLk ⊢
    clear hln
    have zr : w1.heap.size ≤ wr.heap.size := HK.out.size
    by_cases h0 : k = 0
    · obtain rfl : k = 0 := h0
      have HKw : Hid (KeptO (fun q => q = g) w wr) := HK1.out.trans HK.out
      have HRW : Hid ((kRow kRanking).is true wr (fun q => w1.heap.size ≤ q) [.slice oa ln oc] L) := HO.out.row (by rw [← HLN.out]; omega)
      have HFEW : Hid (Few L) := ⟨by rw [← HLN.out]; omega, HSm.out⟩
      have fin : ∀ w', KeptO (fun q => q = g) wr w' → CurAt w' g S (m + 200) → RRk w g S (m + 200) (.returned (.slice oa ln oc)) w' := fun w' hk hc => ⟨oa, ln, oc, _, L, rfl, Kd.kept HRW.out hk (fun q _ h1 h2 => by omega), fun q hq => Nat.le_trans z1 hq, HFEW.out, hc, HKw.out.trans hk⟩
      have FIN : Hid (∀ w', KeptO (fun q => q = g) wr w' → CurAt w' g S (m + 200) → RRk w g S (m + 200) (.returned (.slice oa ln oc)) w') := fin
      clear fin
      by_cases hL0 : ln = 0
      · subst hL0
        go_wp2
        go_ret
        exact FIN.out wr (KeptO.refl _ _) (HC.out.mono (by omega))
      · have hLp : (0 : Int) < (ln : Int) := by omega
        obtain ⟨l0, hl0⟩ : ∃ l0, L[0]? = some l0 := ⟨_, List.getElem?_eq_getElem (by rw [← HLN.out]; omega)⟩
        have HL0 : Hid (L[0]? = some l0) := hl0
        obtain ⟨b, off, B, C, rfl, hb, hSb, hi, hBS, hc⟩ := row_at HRW.out hl0
        obtain ⟨la, lc, T, rfl, hmm, hl, hTB⟩ := kRanking_open hi
        have HTS : Hid (∀ q, T q → w1.heap.size ≤ q) := fun q hq => hBS q (hTB q hq)
        have A0 : wr.cell? ⟨b, off, none⟩ = some (.slice la l0.length lc) := by have := (hc 0 _ rfl).1; rw [Nat.zero_mul] at this; exact this
        have HLR : Hid ((kRow kScored).is true wr T [.slice la l0.length lc] l0) := hl
        obtain ⟨mm, hmm'⟩ : ∃ mm, mm = l0.length := ⟨_, rfl⟩
        have HMM : Hid (mm = l0.length) := hmm'
        rw [← hmm'] at A0 HLR
        have hbg : b ≠ g := by omega
        clear hmm hmm' hl hi hc hl0 hBS hTB
        by_cases hm0 : mm = 0
        · subst hm0
          go_wp2
          go_ret
          exact FIN.out wr (KeptO.refl _ _) (HC.out.mono (by omega))
        · have hmp : (0 : Int) < (mm : Int) := by omega
          go_wp2_with fail
          refine (one_k wr g S _ 20 HC.out (by omega) (by omega) (by omega)).mono ?_
          rintro e w2 ⟨bb, rfl, hc2, hk2⟩
          have HC2 : Hid (CurAt w2 g S (m + 1 + 40 * (n - (0 : Nat)) + 1)) := hc2
          have HK2 : Hid (KeptO (fun q => q = g) wr w2) := hk2
          have A2 := cell_keptO hk2 A0 hbg
          have z2 : wr.heap.size ≤ w2.heap.size := hk2.size
          clear hc2 hk2
          cases bb
          · go_wp2
            go_ret
            exact FIN.out w2 HK2.out (HC2.out.mono (by omega))
          · obtain ⟨x, hx⟩ : ∃ x, l0[0]? = some x := ⟨_, List.getElem?_eq_getElem (by rw [← HMM.out]; omega)⟩
            have HX : Hid (l0[0]? = some x) := hx
            obtain ⟨b2, off2, B2, D2, rfl, hb2, hT2, hi2, _, hc2⟩ := row_at HLR.out hx
            have HAM : Hid (Calls Try.prog 74 #[.pointer (some ⟨g, 0, none⟩), .slice (some ⟨w2.heap.size, 0, none⟩) 3 3] (w2.drew.alloc (.cells #[.int .i64 0, .int .i64 1, .int .i64 1000001] 3)) (RAmong w2.drew g S (m + 1 + 40 * (n - (0 : Nat)) + 1 + 1) [0, 1, 1000001])) := among_at w2.drew g S _ [0, 1, 1000001] _ HC2.out.drew (by omega) (by show g < w2.heap.size; omega) (by simp) (by simp)
            have A2d : w2.drew.cell? ⟨b, off, none⟩ = some (.slice (some ⟨b2, off2, none⟩) mm lc) := A2
            have hbz : b < w2.heap.size := by omega
            have hb2g : b2 ≠ g := by have := HTS.out b2 hT2; omega
            obtain ⟨x0, x1⟩ := x
            obtain ⟨rfl, _, _⟩ := kScored_open hi2
            have P0 : wr.cell? ⟨b2, off2 + 1, none⟩ = some (.int .i64 x1) := by have := (hc2 1 _ rfl).1; rw [Nat.zero_mul] at this; exact this
            have PF : wr.frozen? ⟨b2, off2 + 1, none⟩ = false := by have := (hc2 1 _ rfl).2 rfl; rw [Nat.zero_mul] at this; exact this
            have HPF : Hid (wr.cell? ⟨b2, off2 + 1, none⟩ = some (.int .i64 x1) ∧ wr.frozen? ⟨b2, off2 + 1, none⟩ = false) := ⟨P0, PF⟩
            have hb2z : b2 < w2.heap.size := by omega
            have HKD : Hid (KeptO (fun q => q = g) w2 w2.drew) := (KeptO.refl _ _).drew
            have h00 : (0 : Int) ≤ 0 := by omega
            clear hx hi2 hc2 P0 PF
            go_wp2_with fail
            go_region_with (first
              | (go_at_call 74; go_fit HAM.out; rintro e w3 ⟨y, hy, rfl, hc3, hk3⟩; have HK3 : Hid (KeptO (fun q => q = g) wr w3) := HK2.out.trans (HKD.out.trans hk3); have A3 := cell_keptO HK3.out A0 hbg; have P3 := cell_keptO HK3.out HPF.out.1 hb2g; have F3 := frozen_keptO HK3.out HPF.out.1 HPF.out.2 hb2g))
            all_goals
              have hy2 : 0 ≤ y ∧ y ≤ 1000001 := by simp at hy; omega
              have HC3 : Hid (CurAt w3 g S (m + 1 + 40 * (n - (0 : Nat)) + 1 + 1)) := hc3
              clear hc3 hk3 hy
              go_wp2
              go_ret
              exact rk_put HKw.out HK3.out HRW.out HL0.out HX.out HMM.out A3 z1 (by omega) HFEW.out (by unfold IntOk; omega) (HC3.out.mono (by omega)) (fun q hq => by have := HSL.out q hq; omega)
    · obtain ⟨j, rfl⟩ : ∃ j, k = j + 1 := ⟨k - 1, by omega⟩
      have hjp : (0 : Int) < ((j + 1 : Nat) : Int) := by omega
      obtain ⟨wo, hwo⟩ : ∃ wo, wo = wr := ⟨_, rfl⟩
      subst hwo
      obtain ⟨W1, hW1⟩ : ∃ W1, W1 = wo.alloc (.cells #[.slice none 0 0] 58) := ⟨_, rfl⟩
      have HBW : Hid (Below wo.heap.size wo W1) := by show Below _ _ _; rw [hW1]; exact below_a1r _ _
      have ZW1 : Hid (W1.heap.size = wo.heap.size + 1) := by show _ = _; rw [hW1]; simp
      have E0 : Hid (W1.cell? ⟨wo.heap.size, 0, none⟩ = some (.slice none 0 0) ∧ W1.frozen? ⟨wo.heap.size, 0, none⟩ = false) := by rw [hW1]; refine ⟨?_, ?_⟩ <;> simp [go_sem]
      have HCW : Hid (CurAt W1 g S (m + 1 + 40 * (n - (j + 1 : Nat)))) := HC.out.below HBW.out
      go_wp2_with fail
      rw [← hW1]
      clear hW1
      obtain ⟨rb, hrb⟩ : ∃ rb, rb = wo.heap.size := ⟨_, rfl⟩
      have HRB : Hid (rb = wo.heap.size) := hrb
      have hgr : g < rb := by omega
      rw [← hrb] at E0 ⊢
      clear hrb
      refine (pick_k W1 g S _ 9 HCW.out (by omega) (by omega) (by omega)).mono ?_
      rintro e w2 ⟨t0, rfl, ⟨t00, t01⟩, hc2, hk2⟩
      obtain ⟨t, rfl⟩ : ∃ t : Nat, t0 = t := ⟨t0.toNat, by omega⟩
      have rbW : rb < W1.heap.size := by rw [ZW1.out, HRB.out]; omega
      have HC2 : Hid (CurAt w2 g S (m + 1 + 40 * (n - (j + 1 : Nat)) + 1)) := hc2
      have HK2 : Hid (KeptO (fun q => q = g) W1 w2) := hk2
      have z2 : W1.heap.size ≤ w2.heap.size := hk2.size
      have D0 : w2.cell? ⟨rb, 0, none⟩ = some (.slice none 0 0) := cell_keptO hk2 E0.out.1 (by omega)
      have G0 : w2.frozen? ⟨rb, 0, none⟩ = false := frozen_keptO hk2 E0.out.1 E0.out.2 (by omega)
      clear hc2 hk2
      go_wp2_with fail
      go_loopw [6] (fun tv wr => ∃ (i : Nat) (R : List DScored) (ra : Option Addr) (rn rc : Nat), i ≤ t ∧ R.length + i ≤ t ∧ tv = .int .i64 i ∧ wr.cell? ⟨rb, 0, none⟩ = some (.slice ra rn rc) ∧ wr.frozen? ⟨rb, 0, none⟩ = false ∧ Hid ((kRow kScored).is true wr (fun q => W1.heap.size ≤ q) [.slice ra rn rc] R) ∧ Hid (CurAt wr g S (m + 2 + 40 * (n - (j + 1 : Nat)) + 2 * (t - i))) ∧ Hid (KeptO (fun q => q = g ∨ q = rb) W1 wr)) (fun tv _ => (intOf tv).toNat)
      case atStart => exact ⟨t, [], none, 0, 0, Nat.le_refl _, by simp, rfl, D0, G0, row_nil _ _ _ _ _ _, HC2.out.mono (by omega), HK2.out.mono (fun q h => .inl h)⟩
      case round =>
        obtain ⟨i, R, ra, rn, rc, hi, hRi, rfl, C0, F0, HR, HCI, HKI⟩ := hrel
        have zq : W1.heap.size ≤ wr.heap.size := HKI.out.size
        clear D0 G0
        by_cases hi0 : i = 0
        · obtain rfl : i = 0 := hi0
          have hwor : rb ≤ wr.heap.size := by omega
          have HKO : Hid (KeptO (fun q => q = g) wo wr) := keptF (KeptO.of HBW.out) HKI.out (fun q hq e => by have := HRB.out; rcases e with e | e <;> omega)
          have zo : wo.heap.size ≤ wr.heap.size := HKO.out.size
          have hr8 : R.length ≤ 8 := by omega
          have HLT : Hid (L.length < 2 ^ 30) := by show _ < _; rw [← HLN.out]; omega
          go_wp2_with (at_builtin; go_loud (refine app_rk2 rfl _ _ rfl w1.heap.size (.slice oa ln oc) L rfl HO.out (HKO.out.trans (KeptO.of (below_a1r _ _))) (fun q h1 h2 e => by have e' : q = g := e; omega) _ (.slice ra rn rc) R rfl rfl (by simp [go_sem]) (Kd.below HR.out (below_a1r _ _)) (fun q hq => by have hq' : W1.heap.size ≤ q := hq; have := ZW1.out; omega) HLT.out zr ?_))
          intro v6 w6 ho6 hb6
          have HO6 : Hid (RBld w6 w1.heap.size v6 (L ++ [R])) := ho6
          have HC6 : Hid (CurAt w6 g S (m + 2 + 40 * (n - (j + 1 : Nat)) + 2 * (t - (0 : Nat)))) := (HCI.out.below (below_a1r _ _)).up hb6 (by simp; omega) (by omega) (fun q hq => by have := HSL.out q hq; omega)
          have HK6 : Hid (KeptO (fun q => q = g) w1 w6) := (HK.out.trans HKO.out).low (((below_a1r wr _).mono (by omega)).trans hb6)
          have HS6 : Hid (∀ r ∈ L ++ [R], r.length ≤ 8) := fun r hr => by
            rcases List.mem_append.1 hr with h | h
            · exact HSm.out r h
            · have : r = R := by simpa using h
              rw [this]; exact hr8
          clear ho6 hb6 C0 F0
          go_wp2
          go_roundw
          case rel => exact ⟨j, L ++ [R], by omega, by rw [List.length_append, ← HLN.out]; simp; omega, by congr 1, HO6, HS6, HC6.out.mono (by omega), HK6⟩
          case measure => simp [intOf]
        · obtain ⟨i', rfl⟩ : ∃ i', i = i' + 1 := ⟨i - 1, by omega⟩
          have hip : (0 : Int) < ((i' + 1 : Nat) : Int) := by omega
          obtain ⟨M, hM⟩ : ∃ M : Int, M = m + 2 + 40 * (n - (j + 1 : Nat)) + 2 * (t - (i' + 1 : Nat)) := ⟨_, rfl⟩
          have HM : Hid (M = m + 2 + 40 * (n - (j + 1 : Nat)) + 2 * (t - (i' + 1 : Nat))) := hM
          have mM : M ≤ 2 ^ 41 := by omega
          rw [← hM] at HCI
          clear hM
          have HKD : Hid (KeptO (fun q => q = g) wr wr.drew) := (KeptO.refl _ _).drew
          have HP1 : Hid (Calls Try.prog 80 #[.pointer (some ⟨g, 0, none⟩), .int .i64 12] wr.drew (RNext wr.drew g S (M + 1) 12)) := pick_k wr.drew g S M 12 HCI.out.drew (by omega) (by omega) (by omega)
          have C0d : wr.drew.cell? ⟨rb, 0, none⟩ = some (.slice ra rn rc) := C0
          have hgrb : ¬ rb = g := by omega
          go_wp2_with fail
          go_region_with (first
            | (go_at_call 80; go_fit HP1.out; rintro e w3 ⟨x, rfl, ⟨x0, x1⟩, hc3, hk3⟩; have HK3 : Hid (KeptO (fun q => q = g) wr w3) := HKD.out.trans hk3; have HC3 : Hid (CurAt w3 g S (M + 1)) := hc3; have E3 := cell_keptO HK3.out C0 hgrb; have HP2 : Hid (Calls Try.prog 80 #[.pointer (some ⟨g, 0, none⟩), .int .i64 30] w3 (RNext w3 g S (M + 1 + 1) 30)) := pick_k w3 g S (M + 1) 30 hc3 (by omega) (by omega) (by omega); clear hc3 hk3)
            | (go_at_call 80; go_fit HP2.out; rintro e w4 ⟨y, rfl, ⟨y0, y1⟩, hc4, hk4⟩; have hwy : IntKind.i64.wrap (1 + y) = 1 + y := wrap_small (by omega) (by omega); have HK4 : Hid (KeptO (fun q => q = g) wr w4) := HK3.out.trans hk4; have HC4 : Hid (CurAt w4 g S (M + 1 + 1)) := hc4; have E4 := cell_keptO HK4.out C0 hgrb; have HPU : Hid (Calls Try.prog 67 #[.slice ra rn rc, .agg #[.int .i64 x, .int .i64 (1 + y)]] w4 (RPut R (x, 1 + y) (fun q => W1.heap.size ≤ q) w4)) := l11Put_k R ra rn rc _ x (1 + y) w4 (Kd.kept HR.out HK4.out (fun q _ h1 h2 => by omega)) (by omega) (by unfold IntOk; omega) (by unfold IntOk; omega); clear hc4 hk4)
            | (go_at_call 67; go_fit HPU.out; rintro e w5 ⟨a5, n5, c5, rfl, hr5, hb5⟩; have E5 := cell_later hb5 E4; have F5 : w5.frozen? ⟨rb, 0, none⟩ = false := frozen_later hb5 E4 (frozen_keptO HK4.out C0 F0 hgrb)))
          all_goals
            have HR5 : Hid ((kRow kScored).is true w5 (fun q => W1.heap.size ≤ q) [.slice a5 n5 c5] (putL R (x, 1 + y))) := Kd.mono hr5 (fun q hq => by rcases hq with h | h; exact h; have := HK4.out.size; omega)
            have HK5 : Hid (KeptO (fun q => q = g) wr w5) := HK4.out.low (hb5.mono HK4.out.size)
            have HC5 : Hid (CurAt w5 g S (M + 1 + 1)) := HC4.out.below hb5
            have hpl := putL_length R (x, 1 + y)
            clear hr5 hb5 C0 F0 C0d
            go_wp2
            go_roundw
            case rel =>
              have hset : ∀ u : Value, KeptO (fun q => q = rb) w5 (w5.setCell ⟨rb, 0, none⟩ u) := fun u => ⟨rfl, rfl, rfl, by simp, fun q _ hq => heap_set_ne hq⟩
              refine ⟨i', _, a5, n5, c5, by omega, by omega, by congr 1, set_same E5, by rw [World.frozen?_setCell]; exact F5, Kd.kept HR5.out (hset _) (fun q _ h1 h2 => by omega), (HC5.out.kept (hset _) (fun e => by have e' : g = rb := e; omega) (fun q hq e => by have e' : q = rb := e; have := HSL.out q hq; have := HRB.out; omega)).mono (by have := HM.out; omega), keptF HKI.out (HK5.out.mono (fun q h => h)) (fun q _ e => .inl e) |>.trans ((hset _).mono (fun q h => .inr h))⟩
            case measure => simp [intOf]
end Go.Proofs.Ytikgcgfigcolmaa
