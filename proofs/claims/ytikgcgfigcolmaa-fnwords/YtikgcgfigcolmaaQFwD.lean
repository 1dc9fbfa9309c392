/- Rankings that are drawn: some few lists of few. No condition but that they fit in memory. What the law of the best few draws. No condition but that it fits in memory. What the law of words draws. No condition but that it fits in memory. -/
import Derived.Test.YtikgcgfigcolmaaQCuX
import Derived.Test.YtikgcgfigcolmaaQRpP
import Derived.Deep.RegionWith
import Derived.Deep.DeepFit
namespace Go.Proofs.Ytikgcgfigcolmaa
open Go.RowKit
set_option linter.unusedVariables false

/-- append(out, r) of rankings, where blocks ahead of all rows may have turned. -/
theorem app_rk2 {w : World} {ops : Array Oper} {rest : List Oper} {o : Oper} {a : Act} {Q : Exit → Act → World → Prop} (hgd : o.guard = none) (s x : Operand)
    (ho : o.op = .call { callee := .builtin .append, args := #[s, x], argTypes := #[47, 47] })
    (B : Nat) (v : Value) (L : List DRanking) (hs : a.eval s = v) {w0 : World} {A S : Nat → Prop} (hown : RBld w0 B v L) (hk : KeptO A w0 w) (hA : ∀ k, B ≤ k → k < w0.heap.size → ¬ A k) (b : Nat) (cv : Value) (r : DRanking) (hx : a.eval x = .slice (some ⟨b, 0, none⟩) 1 1) (hcv : cv.oneCell' = true) (hc : w.cell? ⟨b, 0, none⟩ = some cv)
    (hr : kRanking.is true w S [cv] r) (hS : ∀ k, S k → w0.heap.size ≤ k)
    (hL : L.length < 2 ^ 30) (hbase : B ≤ w0.heap.size)
    (h : ∀ v' w', RBld w' B v' (L ++ [r]) → Below B w w' → wpList Try.prog ops Q rest (a.put o.dst v') w') : wpList Try.prog ops Q (o :: rest) a w := by
  obtain ⟨i0, hi, hz0, hz1, hz2⟩ := info_parts infoRkA
  obtain ⟨cs, T, h1, h2, h3, h4, h5⟩ := hown
  have z0 := hk.size
  have h2' : OwnL vC 58 1 w B v cs := by
    obtain ⟨q1, q2 | ⟨g, cap, cur, e, q3, q4, q5⟩⟩ := h2
    · exact ⟨q1, .inl q2⟩
    · have hg := (Array.getElem?_eq_some_iff.1 q4).1
      exact ⟨q1, .inr ⟨g, cap, cur, e, q3, by rw [hk.block g hg (hA g q3 hg)]; exact q4, q5⟩⟩
  refine wpList_app1 vC hgd s x 47 ho B 58 i0 _ 1 24 Try.underlying47 hi hz0 hz1 hz2 rfl (by decide) (by decide) v cs hs h2' b cv hx rfl (fun u hu => by simp [vC] at hu; rw [hu]; exact hcv) (fun j u hj => by
    match j, hj with
    | 0, hj => obtain rfl : cv = u := by simpa [vC] using hj
               exact hc) (by omega) (by omega) fun v' w' ho' hb' hg' => h v' w' ?_ hb'
  refine RBld.grew (S := fun k => S k ∧ k < w.heap.size) h1 (fun i q hq => ?_) (fun i k hik hk' => ?_) h5 (Kd.tight _ hr (fun k hk h' => ⟨h', hk⟩)) (fun k hk' => ?_) (fun i k hik hk' hS' => ?_) ho' hg'.o
  · obtain ⟨c', h6, h7⟩ := h3 i q hq
    have hil : i < L.length := (List.getElem?_eq_some_iff.1 hq).1
    exact ⟨c', h6, Kd.kept h7 hk (fun k hkw hT => hA k (h4 i k hil hT).1 hkw)⟩
  · obtain ⟨h6, h7, h8⟩ := h4 i k hik hk'
    exact ⟨h6, by omega, h8⟩
  · have hS1 := hS k hk'.1
    exact ⟨by omega, hk'.2, fun e => by have := (World.ownsRow.lt h2 k e).2; omega⟩
  · have := (h4 i k hik hk').2.1
    have := hS k hS'.1
    omega
theorem RBld.kept {w w' : World} {A : Nat → Prop} {B : Nat} {v : Value} {L : List DRanking} (h : RBld w B v L) (hk : KeptO A w w') (hA : ∀ k, B ≤ k → ¬ A k) : RBld w' B v L := by
  obtain ⟨cs, T, h1, h2, h3, h4, h5⟩ := h
  refine ⟨cs, T, h1, h2.kept hk hA, fun i r hr => ?_, fun i k hi hk' => ?_, h5⟩
  · obtain ⟨cv, h6, h7⟩ := h3 i r hr
    have hil : i < L.length := (List.getElem?_eq_some_iff.1 hr).1
    exact ⟨cv, h6, Kd.kept h7 hk (fun k _ hT => hA k (h4 i k hil hT).1)⟩
  · obtain ⟨h6, h7, h8⟩ := h4 i k hi hk'
    exact ⟨h6, Nat.lt_of_lt_of_le h7 hk.size, h8⟩
/-- Some few lists of few. -/
def Few (l : List DRanking) : Prop := l.length ≤ 4 ∧ ∀ r ∈ l, r.length ≤ 8
def RDrk (w : World) (g : Nat) (S : Nat → Prop) (m : Int) (e : Ending) (w' : World) : Prop := ∃ (a : Option Addr) (n c : Nat) (T : Nat → Prop) (l : List DRanking), e = .returned (.slice a n c) ∧ (kRow kRanking).is true w' T [.slice a n c] l ∧ (∀ k, T k → w.heap.size ≤ k) ∧ Few l ∧ CurAt w' g S m ∧ KeptO (fun k => k = g) w w'
/-- The first score of the first list written anew. -/
theorem rk_put {w wr w3 : World} {g w1s : Nat} {S : Nat → Prop} {m : Int} {b off ln oc b2 off2 mm lc : Nat} {L : List DRanking} {l0 : DRanking} {x0 x1 y : Int} (hw : KeptO (fun q => q = g) w wr) (hk : KeptO (fun q => q = g) wr w3) (hr : (kRow kRanking).is true wr (fun q => w1s ≤ q) [.slice (some ⟨b, off, none⟩) ln oc] L) (hl0 : L[0]? = some l0) (hx : l0[0]? = some (x0, x1)) (hmm : mm = l0.length)
    (hA : w3.cell? ⟨b, off, none⟩ = some (.slice (some ⟨b2, off2, none⟩) mm lc)) (hz : w.heap.size ≤ w1s) (hg : g < w1s) (hf : Few L) (hy : IntOk y) (hc : CurAt w3 g S m) (hS : ∀ q, S q → q < w1s) :
    RDrk w g S m (.returned (.slice (some ⟨b, off, none⟩) ln oc)) (w3.setCell ⟨b2, off2 + 1, none⟩ (.int .i64 y)) := by
  have hr3 : (kRow kRanking).is true w3 (fun q => w1s ≤ q) [.slice (some ⟨b, off, none⟩) ln oc] L := Kd.kept hr hk (fun q _ h1 h2 => by have e : q = g := h2; omega)
  obtain ⟨b', off', B, C, e, hb, hSb, hnb, hi, hBS, hcc, hput⟩ := row_put hr3 hl0
  obtain ⟨rfl, rfl⟩ : b = b' ∧ off = off' := by injection e with e; injection e with e1 e2; exact ⟨e1, e2⟩
  obtain ⟨la, lc', hC, _⟩ := row_form (K := kScored) hi
  subst hC
  have h0 := (hcc 0 _ rfl).1
  rw [show off + 0 * kRanking.wd + 0 = off by simp] at h0
  rw [hA] at h0
  obtain ⟨rfl, rfl⟩ : la = some ⟨b2, off2, none⟩ ∧ lc' = lc := by
    injection h0 with h0
    injection h0 with h1 _ h2
    exact ⟨h1.symm, h2.symm⟩
  obtain ⟨b3, off3, B3, C3, e3, hb3, hSb3, hnb3, hi3, hBS3, hcc3, hput3⟩ := row_put (K := kScored) hi hx
  obtain ⟨rfl, rfl⟩ : b2 = b3 ∧ off2 = off3 := by injection e3 with e; injection e with e1 e2; exact ⟨e1, e2⟩
  obtain ⟨rfl, g0, g1⟩ := kScored_open hi3
  have P0 : w3.cell? ⟨b2, off2 + 0 * 2 + 0, none⟩ = some (.int .i64 x0) := (hcc3 0 _ rfl).1
  have P1 : w3.cell? ⟨b2, off2 + 0 * 2 + 1, none⟩ = some (.int .i64 x1) := (hcc3 1 _ rfl).1
  rw [Nat.zero_mul] at P0 P1
  have hne : b2 ≠ b := fun e => hnb (e ▸ hSb3)
  have hin := hput3 (w3.setCell ⟨b2, off2 + 1, none⟩ (.int .i64 y)) (x0, y) [.int .i64 x0, .int .i64 y] ((OnlyO.refl _ _ _ _ _).thenSet (o := off2 + 1) (v := .int .i64 y) (by show off2 + 0 * 2 ≤ _; omega) (by show _ < off2 + 0 * 2 + 2; omega)) (kScored_shut g0 hy) (cells_cons (P := fun j u => World.cell? _ ⟨b2, off2 + 0 * kScored.wd + j, none⟩ = some u) (by show World.cell? _ ⟨b2, off2 + 0 * 2 + 0, none⟩ = _; rw [Nat.zero_mul]; exact set_other P0 (by omega)) (cells_cons (by show World.cell? _ ⟨b2, off2 + 0 * 2 + 1, none⟩ = _; rw [Nat.zero_mul]; exact set_same P1) cells_nil))
  have hon : OnlyO B b (off + 0 * kRanking.wd) (off + 0 * kRanking.wd + kRanking.wd) w3 (w3.setCell ⟨b2, off2 + 1, none⟩ (.int .i64 y)) :=
    ⟨rfl, rfl, rfl, by simp, fun k _ _ hn => heap_set_ne (fun e => hn (e ▸ hSb3)), fun o _ => World.cell?_setCell_other _ _ _ _ (fun e => by injection e with e1 _ _; exact hne e1), fun o => World.frozen?_setCell _ _ _ _⟩
  have hfin := hput (w3.setCell ⟨b2, off2 + 1, none⟩ (.int .i64 y)) (l0.set 0 (x0, y)) [.slice (some ⟨b2, off2, none⟩) l0.length lc'] hon hin (cells_cons (P := fun j u => World.cell? _ ⟨b, off + 0 * kRanking.wd + j, none⟩ = some u) (by
    rw [show off + 0 * kRanking.wd + 0 = off by simp]
    rw [World.cell?_setCell_other _ _ _ _ (fun e => by injection e with e1 _ _; exact hne e1), hA, hmm]) cells_nil)
  have hb2s : w1s ≤ b2 := hBS b2 hSb3
  have hks : KeptO (fun k => k = b2) w3 (w3.setCell ⟨b2, off2 + 1, none⟩ (.int .i64 y)) := ⟨rfl, rfl, rfl, by simp, fun k _ hn => heap_set_ne hn⟩
  refine ⟨_, _, oc, _, _, rfl, hfin, fun k hk => Nat.le_trans hz hk, ⟨by rw [List.length_set]; exact hf.1, fun r hr => ?_⟩, hc.kept hks (fun e => by have e' : g = b2 := e; omega) (fun q hq e => by have e' : q = b2 := e; have := hS q hq; omega), keptF (hw.trans hk) hks (fun q hq e => by have e' : q = b2 := e; omega)⟩
  rcases List.mem_or_eq_of_mem_set hr with h | h
  · exact hf.2 r h
  · rw [h, List.length_set]
    exact hf.2 l0 (List.mem_of_getElem? hl0)
set_option maxRecDepth 100000 in
set_option maxHeartbeats 8000000 in
theorem rankings_k (w : World) (g : Nat) (S : Nat → Prop) (m : Int) (h : CurAt w g S m) (hm : m ≤ 2 ^ 40) (hg : g < w.heap.size) (hS : ∀ k, S k → k < w.heap.size) :
    Calls Try.prog 95 #[.pointer (some ⟨g, 0, none⟩)] w (RDrk w g S (m + 200)) := by
  have H : Hid (CurAt w g S m) := h
  have HSL : Hid (∀ k, S k → k < w.heap.size) := hS
  clear h hS
  go_enter Try.func95, Try.ntmps95
  go_wp2_with fail
  refine (pick_k w g S m 5 H.out (by omega) (by omega) (by omega)).mono ?_
  rintro e w1 ⟨n0, rfl, ⟨n00, n01⟩, hc, hk⟩
  obtain ⟨n, rfl⟩ : ∃ n : Nat, n0 = n := ⟨n0.toNat, by omega⟩
  have HC1 : Hid (CurAt w1 g S (m + 1)) := hc
  have HK1 : Hid (KeptO (fun k => k = g) w w1) := hk
  have z1 : w.heap.size ≤ w1.heap.size := hk.size
  clear hc hk
  go_wp2_with fail
  go_loopw [3, 4] (fun lv nv wr => ∃ (k : Nat) (L : List DRanking), k ≤ n ∧ L.length + k = n ∧ nv = .int .i64 k ∧ Hid (RBld wr w1.heap.size lv L) ∧ Hid (∀ r ∈ L, r.length ≤ 8) ∧ Hid (CurAt wr g S (m + 1 + 40 * (n - k))) ∧ Hid (KeptO (fun q => q = g) w1 wr)) (fun _ nv _ => (intOf nv).toNat)
  case atStart => exact ⟨n, [], Nat.le_refl _, by simp, rfl, RBld.nil _ _, (fun r hr => by simp at hr), HC1.out.mono (by omega), KeptO.refl _ _⟩
  case round =>
    obtain ⟨k, L, hk, hLk, rfl, HO, HSm, HC, HK⟩ := hrel
    obtain ⟨oa, oc, hov, _⟩ := HO.out.form
    subst hov
    obtain ⟨ln, hln⟩ : ∃ ln, ln = L.length := ⟨_, rfl⟩
    have HLN : Hid (ln = L.length) := hln
    rw [← hln] at HO hLk ⊢
    clear hln
    have zr : w1.heap.size ≤ wr.heap.size := HK.out.size
    by_cases h0 : k = 0
    · obtain rfl : k = 0 := h0
      have HKw : Hid (KeptO (fun q => q = g) w wr) := HK1.out.trans HK.out
      have HRW : Hid ((kRow kRanking).is true wr (fun q => w1.heap.size ≤ q) [.slice oa ln oc] L) := HO.out.row (by rw [← HLN.out]; omega)
      have HFEW : Hid (Few L) := ⟨by rw [← HLN.out]; omega, HSm.out⟩
      have fin : ∀ w', KeptO (fun q => q = g) wr w' → CurAt w' g S (m + 200) → RDrk w g S (m + 200) (.returned (.slice oa ln oc)) w' := fun w' hk hc => ⟨oa, ln, oc, _, L, rfl, Kd.kept HRW.out hk (fun q _ h1 h2 => by omega), fun q hq => Nat.le_trans z1 hq, HFEW.out, hc, HKw.out.trans hk⟩
      have FIN : Hid (∀ w', KeptO (fun q => q = g) wr w' → CurAt w' g S (m + 200) → RDrk w g S (m + 200) (.returned (.slice oa ln oc)) w') := fin
      clear fin
      by_cases hL0 : ln = 0
      · subst hL0
        go_wp2
        go_ret
        exact FIN.out wr (KeptO.refl _ _) (HC.out.mono (by omega))
      · have hLp : (0 : Int) < (ln : Int) := by omega
        obtain ⟨l0, hl0⟩ : ∃ l0, L[0]? = some l0 := ⟨_, List.getElem?_eq_getElem (by rw [← HLN.out]; omega)⟩
        have HL0 : Hid (L[0]? = some l0) := hl0
        obtain ⟨b, off, B, C, rfl, hb, hSb, hi, hBS, hc⟩ := row_at HRW.out hl0
        obtain ⟨la, lc, T, rfl, hmm, hl, hTB⟩ := kRanking_open hi
        have HTS : Hid (∀ q, T q → w1.heap.size ≤ q) := fun q hq => hBS q (hTB q hq)
        have A0 : wr.cell? ⟨b, off, none⟩ = some (.slice la l0.length lc) := by have := (hc 0 _ rfl).1; rw [Nat.zero_mul] at this; exact this
        have HLR : Hid ((kRow kScored).is true wr T [.slice la l0.length lc] l0) := hl
        obtain ⟨mm, hmm'⟩ : ∃ mm, mm = l0.length := ⟨_, rfl⟩
        have HMM : Hid (mm = l0.length) := hmm'
        rw [← hmm'] at A0 HLR
        have hbg : b ≠ g := by omega
        clear hmm hmm' hl hi hc hl0 hBS hTB
        by_cases hm0 : mm = 0
        · subst hm0
          go_wp2
          go_ret
          exact FIN.out wr (KeptO.refl _ _) (HC.out.mono (by omega))
        · have hmp : (0 : Int) < (mm : Int) := by omega
          go_wp2_with fail
          refine (one_k wr g S _ 20 HC.out (by omega) (by omega) (by omega)).mono ?_
          rintro e w2 ⟨bb, rfl, hc2, hk2⟩
          have HC2 : Hid (CurAt w2 g S (m + 1 + 40 * (n - (0 : Nat)) + 1)) := hc2
          have HK2 : Hid (KeptO (fun q => q = g) wr w2) := hk2
          have A2 := cell_keptO hk2 A0 hbg
          have z2 : wr.heap.size ≤ w2.heap.size := hk2.size
          clear hc2 hk2
          cases bb
          · go_wp2
            go_ret
            exact FIN.out w2 HK2.out (HC2.out.mono (by omega))
          · obtain ⟨x, hx⟩ : ∃ x, l0[0]? = some x := ⟨_, List.getElem?_eq_getElem (by rw [← HMM.out]; omega)⟩
            have HX : Hid (l0[0]? = some x) := hx
            obtain ⟨b2, off2, B2, D2, rfl, hb2, hT2, hi2, _, hc2⟩ := row_at HLR.out hx
            have HAM : Hid (Calls Try.prog 74 #[.pointer (some ⟨g, 0, none⟩), .slice (some ⟨w2.heap.size, 0, none⟩) 3 3] (w2.drew.alloc (.cells #[.int .i64 0, .int .i64 1, .int .i64 1000001] 3)) (RAmong w2.drew g S (m + 1 + 40 * (n - (0 : Nat)) + 1 + 1) [0, 1, 1000001])) := among_at w2.drew g S _ [0, 1, 1000001] _ HC2.out.drew (by omega) (by show g < w2.heap.size; omega) (by simp) (by simp)
            have A2d : w2.drew.cell? ⟨b, off, none⟩ = some (.slice (some ⟨b2, off2, none⟩) mm lc) := A2
            have hbz : b < w2.heap.size := by omega
            have hb2g : b2 ≠ g := by have := HTS.out b2 hT2; omega
            obtain ⟨x0, x1⟩ := x
            obtain ⟨rfl, _, _⟩ := kScored_open hi2
            have P0 : wr.cell? ⟨b2, off2 + 1, none⟩ = some (.int .i64 x1) := by have := (hc2 1 _ rfl).1; rw [Nat.zero_mul] at this; exact this
            have PF : wr.frozen? ⟨b2, off2 + 1, none⟩ = false := by have := (hc2 1 _ rfl).2 rfl; rw [Nat.zero_mul] at this; exact this
            have HPF : Hid (wr.cell? ⟨b2, off2 + 1, none⟩ = some (.int .i64 x1) ∧ wr.frozen? ⟨b2, off2 + 1, none⟩ = false) := ⟨P0, PF⟩
            have hb2z : b2 < w2.heap.size := by omega
            have HKD : Hid (KeptO (fun q => q = g) w2 w2.drew) := (KeptO.refl _ _).drew
            have h00 : (0 : Int) ≤ 0 := by omega
            clear hx hi2 hc2 P0 PF
            go_wp2_with fail
            go_region_with (first
              | (go_at_call 74; go_fit HAM.out; rintro e w3 ⟨y, hy, rfl, hc3, hk3⟩; have HK3 : Hid (KeptO (fun q => q = g) wr w3) := HK2.out.trans (HKD.out.trans hk3); have A3 := cell_keptO HK3.out A0 hbg; have P3 := cell_keptO HK3.out HPF.out.1 hb2g; have F3 := frozen_keptO HK3.out HPF.out.1 HPF.out.2 hb2g))
            all_goals
              have hy2 : 0 ≤ y ∧ y ≤ 1000001 := by simp at hy; omega
              have HC3 : Hid (CurAt w3 g S (m + 1 + 40 * (n - (0 : Nat)) + 1 + 1)) := hc3
              clear hc3 hk3 hy
              go_wp2
              go_ret
              exact rk_put HKw.out HK3.out HRW.out HL0.out HX.out HMM.out A3 z1 (by omega) HFEW.out (by unfold IntOk; omega) (HC3.out.mono (by omega)) (fun q hq => by have := HSL.out q hq; omega)
    · obtain ⟨j, rfl⟩ : ∃ j, k = j + 1 := ⟨k - 1, by omega⟩
      have hjp : (0 : Int) < ((j + 1 : Nat) : Int) := by omega
      obtain ⟨wo, hwo⟩ : ∃ wo, wo = wr := ⟨_, rfl⟩
      subst hwo
      obtain ⟨W1, hW1⟩ : ∃ W1, W1 = wo.alloc (.cells #[.slice none 0 0] 58) := ⟨_, rfl⟩
      have HBW : Hid (Below wo.heap.size wo W1) := by show Below _ _ _; rw [hW1]; exact below_a1r _ _
      have ZW1 : Hid (W1.heap.size = wo.heap.size + 1) := by show _ = _; rw [hW1]; simp
      have E0 : Hid (W1.cell? ⟨wo.heap.size, 0, none⟩ = some (.slice none 0 0) ∧ W1.frozen? ⟨wo.heap.size, 0, none⟩ = false) := by rw [hW1]; refine ⟨?_, ?_⟩ <;> simp [go_sem]
      have HCW : Hid (CurAt W1 g S (m + 1 + 40 * (n - (j + 1 : Nat)))) := HC.out.below HBW.out
      go_wp2_with fail
      rw [← hW1]
      clear hW1
      obtain ⟨rb, hrb⟩ : ∃ rb, rb = wo.heap.size := ⟨_, rfl⟩
      have HRB : Hid (rb = wo.heap.size) := hrb
      have hgr : g < rb := by omega
      rw [← hrb] at E0 ⊢
      clear hrb
      refine (pick_k W1 g S _ 9 HCW.out (by omega) (by omega) (by omega)).mono ?_
      rintro e w2 ⟨t0, rfl, ⟨t00, t01⟩, hc2, hk2⟩
      obtain ⟨t, rfl⟩ : ∃ t : Nat, t0 = t := ⟨t0.toNat, by omega⟩
      have rbW : rb < W1.heap.size := by rw [ZW1.out, HRB.out]; omega
      have HC2 : Hid (CurAt w2 g S (m + 1 + 40 * (n - (j + 1 : Nat)) + 1)) := hc2
      have HK2 : Hid (KeptO (fun q => q = g) W1 w2) := hk2
      have z2 : W1.heap.size ≤ w2.heap.size := hk2.size
      have D0 : w2.cell? ⟨rb, 0, none⟩ = some (.slice none 0 0) := cell_keptO hk2 E0.out.1 (by omega)
      have G0 : w2.frozen? ⟨rb, 0, none⟩ = false := frozen_keptO hk2 E0.out.1 E0.out.2 (by omega)
      clear hc2 hk2
      go_wp2_with fail
      go_loopw [6] (fun tv wr => ∃ (i : Nat) (R : List DScored) (ra : Option Addr) (rn rc : Nat), i ≤ t ∧ R.length + i ≤ t ∧ tv = .int .i64 i ∧ wr.cell? ⟨rb, 0, none⟩ = some (.slice ra rn rc) ∧ wr.frozen? ⟨rb, 0, none⟩ = false ∧ Hid ((kRow kScored).is true wr (fun q => W1.heap.size ≤ q) [.slice ra rn rc] R) ∧ Hid (CurAt wr g S (m + 2 + 40 * (n - (j + 1 : Nat)) + 2 * (t - i))) ∧ Hid (KeptO (fun q => q = g ∨ q = rb) W1 wr)) (fun tv _ => (intOf tv).toNat)
      case atStart => exact ⟨t, [], none, 0, 0, Nat.le_refl _, by simp, rfl, D0, G0, row_nil _ _ _ _ _ _, HC2.out.mono (by omega), HK2.out.mono (fun q h => .inl h)⟩
      case round =>
        obtain ⟨i, R, ra, rn, rc, hi, hRi, rfl, C0, F0, HR, HCI, HKI⟩ := hrel
        have zq : W1.heap.size ≤ wr.heap.size := HKI.out.size
        clear D0 G0
        by_cases hi0 : i = 0
        · obtain rfl : i = 0 := hi0
          have hwor : rb ≤ wr.heap.size := by omega
          have HKO : Hid (KeptO (fun q => q = g) wo wr) := keptF (KeptO.of HBW.out) HKI.out (fun q hq e => by have := HRB.out; rcases e with e | e <;> omega)
          have zo : wo.heap.size ≤ wr.heap.size := HKO.out.size
          have hr8 : R.length ≤ 8 := by omega
          have HLT : Hid (L.length < 2 ^ 30) := by show _ < _; rw [← HLN.out]; omega
          go_wp2_with (at_builtin; go_loud (refine app_rk2 rfl _ _ rfl w1.heap.size (.slice oa ln oc) L rfl HO.out (HKO.out.trans (KeptO.of (below_a1r _ _))) (fun q h1 h2 e => by have e' : q = g := e; omega) _ (.slice ra rn rc) R rfl rfl (by simp [go_sem]) (Kd.below HR.out (below_a1r _ _)) (fun q hq => by have hq' : W1.heap.size ≤ q := hq; have := ZW1.out; omega) HLT.out zr ?_))
          intro v6 w6 ho6 hb6
          have HO6 : Hid (RBld w6 w1.heap.size v6 (L ++ [R])) := ho6
          have HC6 : Hid (CurAt w6 g S (m + 2 + 40 * (n - (j + 1 : Nat)) + 2 * (t - (0 : Nat)))) := (HCI.out.below (below_a1r _ _)).up hb6 (by simp; omega) (by omega) (fun q hq => by have := HSL.out q hq; omega)
          have HK6 : Hid (KeptO (fun q => q = g) w1 w6) := (HK.out.trans HKO.out).low (((below_a1r wr _).mono (by omega)).trans hb6)
          have HS6 : Hid (∀ r ∈ L ++ [R], r.length ≤ 8) := fun r hr => by
            rcases List.mem_append.1 hr with h | h
            · exact HSm.out r h
            · have : r = R := by simpa using h
              rw [this]; exact hr8
          clear ho6 hb6 C0 F0
          go_wp2
          go_roundw
          case rel => exact ⟨j, L ++ [R], by omega, by rw [List.length_append, ← HLN.out]; simp; omega, by congr 1, HO6, HS6, HC6.out.mono (by omega), HK6⟩
          case measure => simp [intOf]
        · obtain ⟨i', rfl⟩ : ∃ i', i = i' + 1 := ⟨i - 1, by omega⟩
          have hip : (0 : Int) < ((i' + 1 : Nat) : Int) := by omega
          obtain ⟨M, hM⟩ : ∃ M : Int, M = m + 2 + 40 * (n - (j + 1 : Nat)) + 2 * (t - (i' + 1 : Nat)) := ⟨_, rfl⟩
          have HM : Hid (M = m + 2 + 40 * (n - (j + 1 : Nat)) + 2 * (t - (i' + 1 : Nat))) := hM
          have mM : M ≤ 2 ^ 41 := by omega
          rw [← hM] at HCI
          clear hM
          have HKD : Hid (KeptO (fun q => q = g) wr wr.drew) := (KeptO.refl _ _).drew
          have HP1 : Hid (Calls Try.prog 80 #[.pointer (some ⟨g, 0, none⟩), .int .i64 12] wr.drew (RNext wr.drew g S (M + 1) 12)) := pick_k wr.drew g S M 12 HCI.out.drew (by omega) (by omega) (by omega)
          have C0d : wr.drew.cell? ⟨rb, 0, none⟩ = some (.slice ra rn rc) := C0
          have hgrb : ¬ rb = g := by omega
          go_wp2_with fail
          go_region_with (first
            | (go_at_call 80; go_fit HP1.out; rintro e w3 ⟨x, rfl, ⟨x0, x1⟩, hc3, hk3⟩; have HK3 : Hid (KeptO (fun q => q = g) wr w3) := HKD.out.trans hk3; have HC3 : Hid (CurAt w3 g S (M + 1)) := hc3; have E3 := cell_keptO HK3.out C0 hgrb; have HP2 : Hid (Calls Try.prog 80 #[.pointer (some ⟨g, 0, none⟩), .int .i64 30] w3 (RNext w3 g S (M + 1 + 1) 30)) := pick_k w3 g S (M + 1) 30 hc3 (by omega) (by omega) (by omega); clear hc3 hk3)
            | (go_at_call 80; go_fit HP2.out; rintro e w4 ⟨y, rfl, ⟨y0, y1⟩, hc4, hk4⟩; have hwy : IntKind.i64.wrap (1 + y) = 1 + y := wrap_small (by omega) (by omega); have HK4 : Hid (KeptO (fun q => q = g) wr w4) := HK3.out.trans hk4; have HC4 : Hid (CurAt w4 g S (M + 1 + 1)) := hc4; have E4 := cell_keptO HK4.out C0 hgrb; have HPU : Hid (Calls Try.prog 67 #[.slice ra rn rc, .agg #[.int .i64 x, .int .i64 (1 + y)]] w4 (RPut R (x, 1 + y) (fun q => W1.heap.size ≤ q) w4)) := l11Put_k R ra rn rc _ x (1 + y) w4 (Kd.kept HR.out HK4.out (fun q _ h1 h2 => by omega)) (by omega) (by unfold IntOk; omega) (by unfold IntOk; omega); clear hc4 hk4)
            | (go_at_call 67; go_fit HPU.out; rintro e w5 ⟨a5, n5, c5, rfl, hr5, hb5⟩; have E5 := cell_later hb5 E4; have F5 : w5.frozen? ⟨rb, 0, none⟩ = false := frozen_later hb5 E4 (frozen_keptO HK4.out C0 F0 hgrb)))
          all_goals
            have HR5 : Hid ((kRow kScored).is true w5 (fun q => W1.heap.size ≤ q) [.slice a5 n5 c5] (putL R (x, 1 + y))) := Kd.mono hr5 (fun q hq => by rcases hq with h | h; exact h; have := HK4.out.size; omega)
            have HK5 : Hid (KeptO (fun q => q = g) wr w5) := HK4.out.low (hb5.mono HK4.out.size)
            have HC5 : Hid (CurAt w5 g S (M + 1 + 1)) := HC4.out.below hb5
            have hpl := putL_length R (x, 1 + y)
            clear hr5 hb5 C0 F0 C0d
            go_wp2
            go_roundw
            case rel =>
              have hset : ∀ u : Value, KeptO (fun q => q = rb) w5 (w5.setCell ⟨rb, 0, none⟩ u) := fun u => ⟨rfl, rfl, rfl, by simp, fun q _ hq => heap_set_ne hq⟩
              refine ⟨i', _, a5, n5, c5, by omega, by omega, by congr 1, set_same E5, by rw [World.frozen?_setCell]; exact F5, Kd.kept HR5.out (hset _) (fun q _ h1 h2 => by omega), (HC5.out.kept (hset _) (fun e => by have e' : g = rb := e; omega) (fun q hq e => by have e' : q = rb := e; have := HSL.out q hq; have := HRB.out; omega)).mono (by have := HM.out; omega), keptF HKI.out (HK5.out.mono (fun q h => h)) (fun q _ e => .inl e) |>.trans ((hset _).mono (fun q h => .inr h))⟩
            case measure => simp [intOf]
end Go.Proofs.Ytikgcgfigcolmaa
namespace Go.Proofs.Ytikgcgfigcolmaa
open Go.RowKit
set_option linter.unusedVariables false

theorem cell_c3 (w : World) (u v x : Value) (T : TypeId) : (w.alloc (.cells #[u, v, x] T)).cell? ⟨w.heap.size, 0, none⟩ = some u ∧ (w.alloc (.cells #[u, v, x] T)).cell? ⟨w.heap.size, 1, none⟩ = some v ∧ (w.alloc (.cells #[u, v, x] T)).cell? ⟨w.heap.size, 2, none⟩ = some x := by simp [World.cell?_alloc_new]
/-- A cursor laid anew. -/
theorem cur_neu {w : World} {x : List Int} {a : Option Addr} {n c : Nat} {T : TypeId} (h : (kRow kU8).is false w (fun _ => True) [.slice a n c] x) (hn : n ≤ 9223372036854775807) : CurAt (w.alloc (.cells #[.slice a n c, .int .i64 0, .int .u64 0] T)) w.heap.size (fun k => k < w.heap.size) 0 := by
  obtain ⟨c0, c1, c2⟩ := cell_c3 w (.slice a n c) (.int .i64 0) (.int .u64 0) T
  exact ⟨x, a, n, c, 0, 0, c0, c1, c2, fun o _ => World.frozen?_alloc_new _ _ _ _, Kd.below (Kd.tight _ h (fun k hk _ => hk)) (below_a1' _ _), hn, by omega, by omega⟩
theorem KeptO.neu {w w' : World} {o : Obj} (h : KeptO (fun k => k = w.heap.size) (w.alloc o) w') : Below w.heap.size w w' :=
  (below_a1' w o).trans ⟨h.os, h.tape, h.output, h.size, fun k hk => h.block k (by simp; omega) (by omega)⟩
def RDrawTop (w : World) (e : Ending) (w' : World) : Prop := ∃ (a : Option Addr) (n c : Nat) (T : Nat → Prop) (l : List DRanking) (k : Int), e = .returned (.tuple #[.slice a n c, .int .i64 k]) ∧ (kRow kRanking).is true w' T [.slice a n c] l ∧ (∀ k, T k → w.heap.size ≤ k) ∧ Few l ∧ (-1 ≤ k ∧ k ≤ 61) ∧ Below w.heap.size w w'
set_option maxRecDepth 100000 in
set_option maxHeartbeats 4000000 in
theorem drawAllBest_k (w : World) (x : List Int) (a : Option Addr) (n c : Nat) (h : (kRow kU8).is false w (fun _ => True) [.slice a n c] x) (hn : n ≤ 9223372036854775807) :
    Calls Try.prog 60 #[.slice a n c] w (RDrawTop w) := by
  have H : Hid ((kRow kU8).is false w (fun _ => True) [.slice a n c] x) := h
  clear h
  go_enter Try.func60, Try.ntmps60
  go_wp2_with fail
  refine (rankings_k _ w.heap.size (fun k => k < w.heap.size) 0 (cur_neu H.out hn) (by omega) (by simp) (fun k hk => by simp; omega)).mono ?_
  rintro e w1 ⟨ra, rn, rc, T, l, rfl, hr, hT, hf, hc, hk⟩
  have z1 : w.heap.size < w1.heap.size := by have := hk.size; simp at this; omega
  have HR : Hid ((kRow kRanking).is true w1 T [.slice ra rn rc] l) := hr
  have HB : Hid (Below w.heap.size w w1) := hk.neu
  have HT : Hid (∀ k, T k → w.heap.size + 1 ≤ k) := fun k hk => by have := hT k hk; simp at this; omega
  have HC : Hid (CurAt w1 w.heap.size (fun k => k < w.heap.size) (0 + 200)) := hc
  have HF : Hid (Few l) := hf
  clear hr hk hT hc hf
  go_wp2_with fail
  refine (among_at w1 w.heap.size (fun k => k < w.heap.size) _ [0, 1, 2, 3, 5, 60, 61, -1] _ HC.out (by omega) (by omega) (by simp) (by simp)).mono ?_
  rintro e w2 ⟨y, hy, rfl, hc2, hk2⟩
  have hy2 : -1 ≤ y ∧ y ≤ 61 := by simp at hy; omega
  have HR2 : Hid ((kRow kRanking).is true w2 T [.slice ra rn rc] l) := Kd.kept HR.out hk2 (fun q _ h1 h2 => by have := HT.out q h1; omega)
  have HB2 : Hid (Below w.heap.size w w2) := HB.out.trans ⟨hk2.os, hk2.tape, hk2.output, hk2.size, fun k hk => hk2.block k (by omega) (by omega)⟩
  clear hc2 hk2 hy
  go_wp2
  refine bodyPost_ret (v := .tuple #[.slice ra rn rc, .int .i64 y]) (by simp [results, Try.results60, go_sem]) rfl ?_
  exact ⟨ra, rn, rc, T, l, y, rfl, HR2.out, fun k hk => by have := HT.out k hk; omega, HF.out, hy2, HB2.out⟩
set_option maxRecDepth 100000 in
set_option maxHeartbeats 4000000 in
theorem drawTopBest_k (w : World) (x : List Int) (a : Option Addr) (n c : Nat) (h : (kRow kU8).is false w (fun _ => True) [.slice a n c] x) (hn : n ≤ 9223372036854775807) :
    Calls Try.prog 23 #[.slice a n c] w (RDrawTop w) := by
  have H : Hid ((kRow kU8).is false w (fun _ => True) [.slice a n c] x) := h
  clear h
  go_enter Try.func23, Try.ntmps23
  go_wp2_with fail
  refine (drawAllBest_k w x a n c H.out hn).mono ?_
  rintro e w1 ⟨ra, rn, rc, T, l, k, rfl, hr, hT, hf, hk, hb⟩
  have HR : Hid (RDrawTop w (.returned (.tuple #[.slice ra rn rc, .int .i64 k])) w1) := ⟨ra, rn, rc, T, l, k, rfl, hr, hT, hf, hk, hb⟩
  clear hr hT hf hk hb
  go_wp2
  refine bodyPost_ret (v := .tuple #[.slice ra rn rc, .int .i64 k]) (by simp [results, Try.results23, go_sem]) rfl ?_
  exact HR.out
end Go.Proofs.Ytikgcgfigcolmaa
namespace Go.Proofs.Ytikgcgfigcolmaa
open Go.RowKit
set_option linter.unusedVariables false

theorem strs_sz {ws : List ByteArray} {N B : Nat} (h : ws.length ≤ N ∧ ∀ s ∈ ws, s.size ≤ B) : (kRow kStr).sz ws ≤ N + B * N := by
  have key : ∀ l : List ByteArray, (∀ s ∈ l, s.size ≤ B) → sums kStr.sz l ≤ B * l.length := by
    intro l
    induction l with
    | nil => intro _; simp [sums]
    | cons s r ih =>
      intro hs
      have h1 := hs s (by simp)
      have h2 := ih fun q hq => hs q (by simp [hq])
      have h3 : kStr.sz s = s.size := rfl
      simp only [sums, List.length_cons, Nat.mul_add, Nat.mul_one]
      omega
  have h1 := key ws h.2
  have h2 : B * ws.length ≤ B * N := Nat.mul_le_mul_left _ h.1
  have := h.1
  show ws.length + sums kStr.sz ws ≤ _
  omega
def RDrawTexts (w : World) (e : Ending) (w' : World) : Prop := ∃ (a : Option Addr) (n c : Nat) (T : Nat → Prop) (l : List ByteArray), e = .returned (.slice a n c) ∧ (kRow kStr).is true w' T [.slice a n c] l ∧ (l.length ≤ 41 ∧ ∀ s ∈ l, s.size ≤ 300) ∧ Below w.heap.size w w'
set_option maxRecDepth 100000 in
set_option maxHeartbeats 4000000 in
theorem drawIndexOf_k (w : World) (x : List Int) (a : Option Addr) (n c : Nat) (h : (kRow kU8).is false w (fun _ => True) [.slice a n c] x) (hn : n ≤ 9223372036854775807) :
    Calls Try.prog 6 #[.slice a n c] w (RDrawTexts w) := by
  have H : Hid ((kRow kU8).is false w (fun _ => True) [.slice a n c] x) := h
  clear h
  go_enter Try.func6, Try.ntmps6
  go_wp2_with fail
  refine (texts_k _ w.heap.size (fun k => k < w.heap.size) 0 (cur_neu H.out hn) (by omega) (by simp) (fun k hk => by simp; omega)).mono ?_
  rintro e w1 ⟨ra, rn, rc, T, l, rfl, hr, hT, hN, hB, hc, hk⟩
  have HR : Hid (RDrawTexts w (.returned (.slice ra rn rc)) w1) := ⟨ra, rn, rc, T, l, rfl, hr, ⟨hN, hB⟩, hk.neu⟩
  clear hr hT hN hB hc hk
  go_wp2
  go_ret
  exact HR.out
def RDrawWith (w : World) (e : Ending) (w' : World) : Prop := ∃ (a : Option Addr) (n c : Nat) (T : Nat → Prop) (t : Int) (es : List DEntry) (a2 : Option Addr) (n2 c2 : Nat) (T2 : Nat → Prop) (ws : List ByteArray), e = .returned (.tuple #[.agg #[.int .i64 t, .slice a n c], .slice a2 n2 c2]) ∧ kWords.is true w' T [.int .i64 t, .slice a n c] (t, es) ∧ (kRow kStr).is true w' T2 [.slice a2 n2 c2] ws ∧ kWords.sz (t, es) ≤ 2 ^ 20 ∧ (ws.length ≤ 4 ∧ ∀ s ∈ ws, s.size ≤ 6) ∧ ((∀ q, T q → w.heap.size ≤ q) ∧ (∀ q, T2 q → w.heap.size ≤ q)) ∧ Below w.heap.size w w'
set_option maxRecDepth 100000 in
set_option maxHeartbeats 4000000 in
theorem drawWithAll_k (w : World) (x : List Int) (a : Option Addr) (n c : Nat) (h : (kRow kU8).is false w (fun _ => True) [.slice a n c] x) (hn : n ≤ 9223372036854775807) :
    Calls Try.prog 10 #[.slice a n c] w (RDrawWith w) := by
  have H : Hid ((kRow kU8).is false w (fun _ => True) [.slice a n c] x) := h
  clear h
  obtain ⟨W0, hW0⟩ : ∃ W0, W0 = w.alloc (.cells #[.int .i64 0, .slice none 0 0] 27) := ⟨_, rfl⟩
  have hbw : Below w.heap.size w W0 := by rw [hW0]; exact below_a1' _ _
  have HBW0 : Hid (Below w.heap.size w W0) := hbw
  have ZW0 : Hid (W0.heap.size = w.heap.size + 1) := by show _ = _; rw [hW0]; simp
  have HR0 : Hid (W0.cell? ⟨w.heap.size, 0, none⟩ = some (.int .i64 0) ∧ W0.cell? ⟨w.heap.size, 1, none⟩ = some (.slice none 0 0) ∧ W0.frozen? ⟨w.heap.size, 0, none⟩ = false ∧ W0.frozen? ⟨w.heap.size, 1, none⟩ = false) := by rw [hW0]; refine ⟨?_, ?_, ?_, ?_⟩ <;> simp [go_sem]
  obtain ⟨W1, hW1⟩ : ∃ W1, W1 = W0.alloc (.cells #[.slice a n c, .int .i64 0, .int .u64 0] 73) := ⟨_, rfl⟩
  have HCU : Hid (CurAt W1 W0.heap.size (fun k => k < W0.heap.size) 0) := by rw [hW1]; exact cur_neu (Kd.below H.out hbw) hn
  have hb1 : Below W0.heap.size W0 W1 := by rw [hW1]; exact below_a1' _ _
  have HB1 : Hid (Below W0.heap.size W0 W1) := hb1
  have ZW1 : Hid (W1.heap.size = W0.heap.size + 1) := by show _ = _; rw [hW1]; simp
  clear hbw hb1
  go_enter Try.func10, Try.ntmps10
  go_wp2_with fail
  rw [← hW0, ← hW1]
  clear hW0 hW1
  obtain ⟨g, hg⟩ : ∃ g, g = W0.heap.size := ⟨_, rfl⟩
  have HG : Hid (g = w.heap.size + 1) := hg.trans ZW0.out
  rw [show w.heap.size + 1 = g from HG.out.symm]
  rw [← hg] at HCU
  clear hg
  have zg : w.heap.size < g := by rw [HG.out]; omega
  have z1 : W1.heap.size = g + 1 := by rw [ZW1.out, ZW0.out, HG.out]
  have hgW : g < W1.heap.size := by omega
  have HZ1 : Hid (W1.heap.size = g + 1) := z1
  clear z1
  refine (words_k W1 g _ 0 HCU.out (by omega) hgW (fun q hq => by have := HZ1.out; omega)).mono ?_
  rintro e w2 ⟨wa, wn, wc, T, t, es, rfl, hw, hT, hz, hc, hk⟩
  have HW2 : Hid (kWords.is true w2 T [.int .i64 t, .slice wa wn wc] (t, es)) := hw
  have HT2 : Hid (∀ q, T q → g + 1 ≤ q) := fun q hq => by have := hT q hq; have := HZ1.out; omega
  have HSZ : Hid (kWords.sz (t, es) ≤ 2 ^ 20) := hz
  have HC2 : Hid (CurAt w2 g (fun k => k < g) (0 + 1010)) := hc
  have HK2 : Hid (KeptO (fun q => q = g) W1 w2) := hk
  have z2 : W1.heap.size ≤ w2.heap.size := hk.size
  clear hw hT hz hc hk
  go_wp2_with fail
  refine (asked_k w2 g _ _ HC2.out (by omega) (by omega) (fun q hq => by omega)).mono ?_
  rintro e w3 ⟨sa, sn, sc, T2, ws, rfl, hs, hTs, hN, hB, hc, hk⟩
  have HS3 : Hid ((kRow kStr).is true w3 T2 [.slice sa sn sc] ws) := hs
  have HTS : Hid (∀ q, T2 q → w2.heap.size ≤ q) := hTs
  have HNB : Hid (ws.length ≤ 4 ∧ ∀ s ∈ ws, s.size ≤ 6) := ⟨hN, hB⟩
  have HC3 : Hid (CurAt w3 g (fun k => k < g) (0 + 1010 + 10)) := hc
  have HK3 : Hid (KeptO (fun q => q = g) W1 w3) := HK2.out.trans hk
  have HW3 : Hid (kWords.is true w3 T [.int .i64 t, .slice wa wn wc] (t, es)) := Kd.kept HW2.out hk (fun q _ h1 h2 => by have e : q = g := h2; have := HT2.out q h1; omega)
  have z3 : w2.heap.size ≤ w3.heap.size := hk.size
  clear hs hTs hN hB hc hk HW2
  have hk03 : KeptO (fun q => q = g) W0 w3 := (KeptO.of HB1.out).trans HK3.out
  have r0 := cell_keptO hk03 HR0.out.1 (by omega)
  have r1 := cell_keptO hk03 HR0.out.2.1 (by omega)
  have r2 := frozen_keptO hk03 HR0.out.1 HR0.out.2.2.1 (by omega)
  have r3 := frozen_keptO hk03 HR0.out.2.1 HR0.out.2.2.2 (by omega)
  have HBF : Hid (Below w.heap.size w w3) := HBW0.out.trans ⟨hk03.os, hk03.tape, hk03.output, hk03.size, fun q hq => hk03.block q (by have := ZW0.out; omega) (fun e => by have e' : q = g := e; omega)⟩
  have zf : w.heap.size < w3.heap.size := by have := HK3.out.size; omega
  clear hk03
  go_wp2
  have q0 : (w3.setCell ⟨w.heap.size, 0, none⟩ (.int .i64 t)).cell? ⟨w.heap.size, 0, none⟩ = some (.int .i64 t) := set_same r0
  have q1 : (w3.setCell ⟨w.heap.size, 0, none⟩ (.int .i64 t)).cell? ⟨w.heap.size, 1, none⟩ = some (.slice none 0 0) := set_other r1 (by decide)
  refine bodyPost_ret (v := .tuple #[.agg #[.int .i64 t, .slice wa wn wc], .slice sa sn sc]) (by simp [results, Try.results10, go_sem, q0, q1]) rfl ?_
  have hset : KeptO (fun q => q = w.heap.size) w3 ((w3.setCell ⟨w.heap.size, 0, none⟩ (.int .i64 t)).setCell ⟨w.heap.size, 1, none⟩ (.slice wa wn wc)) := ⟨rfl, rfl, rfl, by simp, fun q _ hq => by rw [heap_set_ne hq, heap_set_ne hq]⟩
  exact ⟨wa, wn, wc, T, t, es, sa, sn, sc, T2, ws, rfl, Kd.kept HW3.out hset (fun q _ h1 h2 => by have e : q = w.heap.size := h2; have := HT2.out q h1; omega), Kd.kept HS3.out hset (fun q _ h1 h2 => by have e : q = w.heap.size := h2; have := HTS.out q h1; omega), HSZ.out, HNB.out, ⟨fun q hq => by have := HT2.out q hq; omega, fun q hq => by have := HTS.out q hq; omega⟩, HBF.out.trans ⟨hset.os, hset.tape, hset.output, hset.size, fun q hq => hset.block q (by omega) (fun e => by have e' : q = w.heap.size := e; omega)⟩⟩
set_option maxRecDepth 100000 in
set_option maxHeartbeats 4000000 in
theorem drawWithout_k (w : World) (x : List Int) (a : Option Addr) (n c : Nat) (h : (kRow kU8).is false w (fun _ => True) [.slice a n c] x) (hn : n ≤ 9223372036854775807) :
    Calls Try.prog 19 #[.slice a n c] w (RDrawWith w) := by
  have H : Hid ((kRow kU8).is false w (fun _ => True) [.slice a n c] x) := h
  clear h
  obtain ⟨W0, hW0⟩ : ∃ W0, W0 = w.alloc (.cells #[.int .i64 0, .slice none 0 0] 27) := ⟨_, rfl⟩
  have hbw : Below w.heap.size w W0 := by rw [hW0]; exact below_a1' _ _
  have HBW0 : Hid (Below w.heap.size w W0) := hbw
  have ZW0 : Hid (W0.heap.size = w.heap.size + 1) := by show _ = _; rw [hW0]; simp
  have HR0 : Hid (W0.cell? ⟨w.heap.size, 0, none⟩ = some (.int .i64 0) ∧ W0.cell? ⟨w.heap.size, 1, none⟩ = some (.slice none 0 0) ∧ W0.frozen? ⟨w.heap.size, 0, none⟩ = false ∧ W0.frozen? ⟨w.heap.size, 1, none⟩ = false) := by rw [hW0]; refine ⟨?_, ?_, ?_, ?_⟩ <;> simp [go_sem]
  clear hbw
  go_enter Try.func19, Try.ntmps19
  go_wp2_with fail
  rw [← hW0]
  clear hW0
  refine (drawWithAll_k W0 x a n c (Kd.below H.out HBW0.out) hn).mono ?_
  rintro e w3 ⟨wa, wn, wc, T, t, es, sa, sn, sc, T2, ws, rfl, hw, hs, hz, hN, ⟨hT, hT2⟩, hb⟩
  have r0 := cell_later hb HR0.out.1
  have r1 := cell_later hb HR0.out.2.1
  have r2 := frozen_later hb HR0.out.1 HR0.out.2.2.1
  have r3 := frozen_later hb HR0.out.2.1 HR0.out.2.2.2
  have HW3 : Hid (kWords.is true w3 T [.int .i64 t, .slice wa wn wc] (t, es)) := hw
  have HS3 : Hid ((kRow kStr).is true w3 T2 [.slice sa sn sc] ws) := hs
  have HT2 : Hid (∀ q, T q → w.heap.size + 1 ≤ q) := fun q hq => by have := hT q hq; have := ZW0.out; omega
  have HTS : Hid (∀ q, T2 q → w.heap.size + 1 ≤ q) := fun q hq => by have := hT2 q hq; have := ZW0.out; omega
  have HSZ : Hid (kWords.sz (t, es) ≤ 2 ^ 20) := hz
  have HNB : Hid (ws.length ≤ 4 ∧ ∀ s ∈ ws, s.size ≤ 6) := hN
  have HBF : Hid (Below w.heap.size w w3) := HBW0.out.trans (hb.mono HBW0.out.size)
  have zf : w.heap.size < w3.heap.size := by have := hb.size; have := ZW0.out; omega
  clear hw hs hz hN hT hT2 hb
  go_wp2
  have q0 : (w3.setCell ⟨w.heap.size, 0, none⟩ (.int .i64 t)).cell? ⟨w.heap.size, 0, none⟩ = some (.int .i64 t) := set_same r0
  have q1 : (w3.setCell ⟨w.heap.size, 0, none⟩ (.int .i64 t)).cell? ⟨w.heap.size, 1, none⟩ = some (.slice none 0 0) := set_other r1 (by decide)
  refine bodyPost_ret (v := .tuple #[.agg #[.int .i64 t, .slice wa wn wc], .slice sa sn sc]) (by simp [results, Try.results19, go_sem, q0, q1]) rfl ?_
  have hset : KeptO (fun q => q = w.heap.size) w3 ((w3.setCell ⟨w.heap.size, 0, none⟩ (.int .i64 t)).setCell ⟨w.heap.size, 1, none⟩ (.slice wa wn wc)) := ⟨rfl, rfl, rfl, by simp, fun q _ hq => by rw [heap_set_ne hq, heap_set_ne hq]⟩
  exact ⟨wa, wn, wc, T, t, es, sa, sn, sc, T2, ws, rfl, Kd.kept HW3.out hset (fun q _ h1 h2 => by have e : q = w.heap.size := h2; have := HT2.out q h1; omega), Kd.kept HS3.out hset (fun q _ h1 h2 => by have e : q = w.heap.size := h2; have := HTS.out q h1; omega), HSZ.out, HNB.out, ⟨fun q hq => by have := HT2.out q hq; omega, fun q hq => by have := HTS.out q hq; omega⟩, HBF.out.trans ⟨hset.os, hset.tape, hset.output, hset.size, fun q hq => hset.block q (by omega) (fun e => by have e' : q = w.heap.size := e; omega)⟩⟩
end Go.Proofs.Ytikgcgfigcolmaa
