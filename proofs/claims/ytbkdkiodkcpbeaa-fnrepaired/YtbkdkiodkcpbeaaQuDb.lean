/- A drawn voting. No condition but that it fits in memory. -/
import Derived.Test.YtbkdkiodkcpbeaaQuDa
namespace Go.Proofs.Ytbkdkiodkcpbeaa
open Go.RowKit
set_option linter.unusedVariables false

/-- A voting in a block of its own, while it is drawn. -/
structure VoAt (w wr : World) (gv gx : Nat) (a : Option Addr) (n c : Nat) (r t : Int) (L : List DCopy) (g : Nat) (S : Nat → Prop) (m : Int) : Prop where
  row : (kRow kCopy).is true wr (fun q => w.heap.size < q ∧ q ≠ gv ∧ q ≠ gx) [.slice a n c] L
  box : Tri wr gv (.slice a n c) (.int .i64 r) (.int .i64 t)
  res : Tri wr w.heap.size (.slice none 0 0) (.int .i64 0) (.int .i64 0)
  gvb : w.heap.size < gv
  io : IntOk r ∧ IntOk t
  len : 1 ≤ n ∧ n ≤ 7
  cur : CurAt wr g S m
  kep : KeptO (fun q => q = g) w wr
theorem VoAt.vot {w wr : World} {gv gx : Nat} {a : Option Addr} {n c : Nat} {r t : Int} {L : List DCopy} {g : Nat} {S : Nat → Prop} {m : Int} (h : VoAt w wr gv gx a n c r t L g S m) : kVoting.is true wr (fun q => w.heap.size < q ∧ q ≠ gv ∧ q ≠ gx) [.slice a n c, .int .i64 r, .int .i64 t] (L, r, t) := by
  have hn := row_len h.row
  subst hn
  exact kVoting_shut h.io.1 h.io.2 h.row (fun k h => h)
/-- What only turns the cursor and lays new blocks leaves it. -/
theorem VoAt.to {w wr w' : World} {gv gx : Nat} {a : Option Addr} {n c : Nat} {r t : Int} {L : List DCopy} {g : Nat} {S : Nat → Prop} {m m' : Int} (h : VoAt w wr gv gx a n c r t L g S m) (hg : g < w.heap.size) (hk : KeptO (fun q => q = g) wr w') (hc : CurAt w' g S m') : VoAt w w' gv gx a n c r t L g S m' := by
  have h1 := h.gvb
  have h2 := h.box.lt
  exact ⟨Kd.kept h.row hk (fun q _ hq e => by omega), h.box.keep (hk.block _ h2 (by omega)), h.res.keep (hk.block _ (by omega) (by omega)), h1, h.io, h.len, hc, h.kep.trans hk⟩
/-- Another block of its own, written. -/
theorem VoAt.puts {w wr : World} {gv gx : Nat} {a : Option Addr} {n c : Nat} {r t : Int} {L : List DCopy} {g : Nat} {S : Nat → Prop} {m m' : Int} {u0 u1 u2 : Value} (h : VoAt w wr gv gx a n c r t L g S m) (hgx : w.heap.size < gx) (hgg : g < w.heap.size) (hgv : gv < gx) (hS : ∀ q, S q → q < w.heap.size) (hm : m ≤ m') : VoAt w (put3 wr gx u0 u1 u2) gv gx a n c r t L g S m' := by
  have hkp := put3_kept wr gx u0 u1 u2
  have hgv0 := h.gvb
  exact ⟨Kd.kept h.row hkp (fun q _ h e => h.2.2 e), h.box.keep (put3_block _ _ _ _ _ (by omega)), h.res.keep (put3_block _ _ _ _ _ (by omega)), h.gvb, h.io, h.len, (h.cur.mono hm).kept hkp (by omega) (fun q hq e => by have := hS q hq; omega), h.kep.low (below_put3 (Below.refl _ _) (by omega) _ _ _)⟩
theorem VoAt.less {w wr : World} {gv gx : Nat} {a : Option Addr} {n c : Nat} {r t : Int} {L : List DCopy} {g : Nat} {S : Nat → Prop} {m m' : Int} (h : VoAt w wr gv gx a n c r t L g S m) (hm : m ≤ m') : VoAt w wr gv w.heap.size a n c r t L g S m' :=
  ⟨Kd.mono h.row (fun q h => ⟨h.1, h.2.1, by omega⟩), h.box, h.res, h.gvb, h.io, h.len, h.cur.mono hm, h.kep⟩
theorem VoAt.more {w wr : World} {gv gx : Nat} {a : Option Addr} {n c : Nat} {r t : Int} {L : List DCopy} {g : Nat} {S : Nat → Prop} {m : Int} (h : VoAt w wr gv gx a n c r t L g S m) : VoAt w wr gv wr.heap.size a n c r t L g S m :=
  ⟨Kd.tight (kRow kCopy) h.row (fun q hq h => ⟨h.1, h.2.1, by omega⟩), h.box, h.res, h.gvb, h.io, h.len, h.cur, h.kep⟩
/-- What is left, when it is handed out. -/
theorem VoAt.fin {w wr : World} {gv gx : Nat} {a : Option Addr} {n c : Nat} {r t : Int} {L : List DCopy} {g : Nat} {S : Nat → Prop} {m : Int} (h : VoAt w wr gv gx a n c r t L g S m) (u0 u1 u2 : Value) (hg : g < w.heap.size) (hS : ∀ q, S q → q < w.heap.size) : (kRow kCopy).is true (put3 wr w.heap.size u0 u1 u2) (fun q => w.heap.size < q ∧ q ≠ gv ∧ q ≠ gx) [.slice a n c] L ∧ CurAt (put3 wr w.heap.size u0 u1 u2) g S m ∧ KeptO (fun q => q = g) w (put3 wr w.heap.size u0 u1 u2) := by
  have hkp := put3_kept wr w.heap.size u0 u1 u2
  exact ⟨Kd.kept h.row hkp (fun q _ h e => by omega), h.cur.kept hkp (by omega) (fun q hq e => by have := hS q hq; omega), keptF h.kep hkp (fun q hq e => by omega)⟩
/-- A copy's Version written anew. -/
theorem rowV_put {w : World} {S : Nat → Prop} {a : Option Addr} {n c : Nat} {l : List DCopy} (h : (kRow kCopy).is true w S [.slice a n c] l) {k : Nat} (hk : k < n) (y : Int) (hy : IntOk y) :
    ∃ b o, a = some ⟨b, o, none⟩ ∧ b < w.heap.size ∧ S b ∧ (∃ v, w.cell? ⟨b, o + k * 3 + 1, none⟩ = some v) ∧ w.frozen? ⟨b, o + k * 3 + 1, none⟩ = false ∧
      (kRow kCopy).is true (w.setCell ⟨b, o + k * 3 + 1, none⟩ (.int .i64 y)) S [.slice a n c] (l.set k ((cp l k).1, y, (cp l k).2.2)) ∧ KeptO S w (w.setCell ⟨b, o + k * 3 + 1, none⟩ (.int .i64 y)) := by
  have hl := row_len h
  obtain ⟨b, o, B, C, e, hb, hS, hBb, hi, hBS, hc, hput⟩ := row_put h (cp_at (show k < l.length by omega))
  generalize cp l k = x at *
  obtain ⟨x1, x2, x3⟩ := x
  obtain ⟨rfl, g1, g2, g3⟩ := kCopy_open hi
  have c0 := (hc 0 _ rfl).1
  have c1 := hc 1 _ rfl
  have c2 := (hc 2 _ rfl).1
  have hwd : kCopy.wd = 3 := rfl
  rw [hwd] at c0 c1 c2 hput
  have hon : OnlyO B b (o + k * 3) (o + k * 3 + 3) w (w.setCell ⟨b, o + k * 3 + 1, none⟩ (.int .i64 y)) := OnlyO.set w _ (by omega) (by omega)
  refine ⟨b, o, e, hb, hS, ⟨_, c1.1⟩, c1.2, ?_, ?_⟩
  · refine hput _ (x1, y, x3) (cpC (x1, y, x3)) hon (cp_shut ⟨g1, hy, g3⟩) ?_
    intro j v hj
    match j, hj with
    | 0, hj => obtain rfl : Value.int .i64 x1 = v := by simpa [cpC] using hj
               exact set_other c0 (by omega)
    | 1, hj => obtain rfl : Value.int .i64 y = v := by simpa [cpC] using hj
               exact set_same c1.1
    | 2, hj => obtain rfl : Value.string x3 = v := by simpa [cpC] using hj
               exact set_other c2 (by omega)
  · exact (hon.to (S' := fun q => q = b ∨ B q) (.inl rfl) (fun q h => .inr h)).mono fun q h => h.elim (fun e => e ▸ hS) (fun h => hBS q h)
/-- A voting of one copy at least. -/
def RVtg (w : World) (g : Nat) (S : Nat → Prop) (m : Int) (e : Ending) (w' : World) : Prop := ∃ (a : Option Addr) (n c : Nat) (r t : Int) (L : List DCopy) (T : Nat → Prop), e = .returned (.agg #[.slice a n c, .int .i64 r, .int .i64 t]) ∧ (kRow kCopy).is true w' T [.slice a n c] L ∧ (∀ k, T k → w.heap.size ≤ k) ∧ (IntOk r ∧ IntOk t) ∧ (1 ≤ n ∧ n ≤ 7) ∧ CurAt w' g S m ∧ KeptO (fun q => q = g) w w'
theorem own_ones (w : World) : OwnL inC 3 1 (w.alloc (.cells #[.int .i64 1, .int .i64 1, .int .i64 1] 3)) w.heap.size (.slice (some ⟨w.heap.size, 0, none⟩) 3 3) [1, 1, 1] :=
  ⟨rfl, .inr ⟨w.heap.size, 3, #[.int .i64 1, .int .i64 1, .int .i64 1], rfl, Nat.le_refl _, by show (w.heap.push _)[w.heap.size]? = _; simp, Nat.le_refl _, by unfold maxLen; omega, rfl, rfl⟩⟩
theorem new_three : (fNewVoting [1, 1, 1] 2 2).2 = true := by decide
theorem new_len {x0 : List Int} {x1 x2 : Int} (h : (fNewVoting x0 x1 x2).2 = true) : 1 ≤ (fNewVoting x0 x1 x2).1.1.length ∧ (fNewVoting x0 x1 x2).1.1.length ≤ 7 := by
  unfold fNewVoting at h ⊢
  split at h
  · next hg => rw [if_pos hg]; exact ⟨((vg_iff _).1 hg).lo, ((vg_iff _).1 hg).hi⟩
  · cases h
theorem write_len {v : DVoting} {s : List Int} {t : ByteArray} (h : (fWriteText v s t).2 = true) : (fWriteText v s t).1.1.length = v.1.length := by
  unfold fWriteText at h ⊢
  split at h
  · next hg => rw [if_pos hg]; exact held_len _ _ _ _
  · cases h
theorem repair_len {v : DVoting} {s : List Int} (h : (fRepairCopies v s).2.2 = true) : (fRepairCopies v s).1.1.length = v.1.length := by
  unfold fRepairCopies at h ⊢
  split at h
  · next hg => rw [if_pos hg]; exact held_len _ _ _ _
  · cases h
set_option maxRecDepth 100000 in
set_option maxHeartbeats 8000000 in
theorem voting_k (w : World) (g : Nat) (S : Nat → Prop) (m : Int) (h : CurAt w g S m) (hm : m ≤ 2 ^ 39) (hg : g < w.heap.size) (hS : ∀ k, S k → k < w.heap.size) :
    Calls Try.prog 42 #[.pointer (some ⟨g, 0, none⟩)] w (RVtg w g S (m + 200)) := by
  have HSL : Hid (∀ k, S k → k < w.heap.size) := hS
  have H : Hid (CurAt w g S m) := h
  clear h hS
  go_enter Try.func42, Try.ntmps42
  obtain ⟨W0, hW0⟩ : ∃ W, W = w.alloc (.cells #[.slice none 0 0, .int .i64 0, .int .i64 0] 25) := ⟨_, rfl⟩
  have HRS : Hid (Tri W0 w.heap.size (.slice none 0 0) (.int .i64 0) (.int .i64 0)) := by show Tri _ _ _ _ _; rw [hW0]; exact alloc_tri w _ _ _ _
  have HB0 : Hid (Below w.heap.size w W0) := by show Below _ _ _; rw [hW0]; exact below_a1q _ _
  have hz0 : W0.heap.size = w.heap.size + 1 := by rw [hW0]; simp
  have HC0 : Hid (CurAt W0 g S m) := H.out.below HB0.out
  go_wp2_with fail
  rw [← hW0]
  clear hW0
  refine (weights_k W0 g S m HC0.out (by omega) (by omega) (fun k hk => by have := HSL.out k hk; omega)).mono ?_
  rintro e w1 ⟨aw, nw, cw, Tw, lw, rfl, hr, hT, hn, hl, hc, hk⟩
  have HW1 : Hid ((kRow kInt).is true w1 Tw [.slice aw nw cw] lw ∧ (∀ k, Tw k → W0.heap.size ≤ k) ∧ (∀ x ∈ lw, 0 ≤ x ∧ x ≤ 11)) := ⟨hr, hT, hl⟩
  have HC1 : Hid (CurAt w1 g S (m + 20)) := hc
  have HK1 : Hid (KeptO (fun k => k = g) w w1) := (KeptO.of HB0.out).trans hk
  have HR1 : Hid (Tri w1 w.heap.size (.slice none 0 0) (.int .i64 0) (.int .i64 0)) := HRS.out.keep (hk.block _ (by omega) (by omega))
  have z1 : w.heap.size < w1.heap.size := by have := hk.size; omega
  obtain ⟨hn1, hn5⟩ := hn
  clear hr hT hl hc hk HC0 HRS
  go_wp2_with fail
  refine (votes_k w1 g S _ lw aw nw cw Tw HC1.out (by omega) ((kRow kInt).read HW1.out.1) hn5 HW1.out.2.2).mono ?_
  rintro e w2 ⟨r0, t0, rfl, ⟨q0, q1⟩, ⟨q2, q3⟩, hc, hk⟩
  have HW2 : Hid ((kRow kInt).is true w2 Tw [.slice aw nw cw] lw) := Kd.kept HW1.out.1 hk (fun q _ h e => by have := HW1.out.2.1 q h; omega)
  have HC2 : Hid (CurAt w2 g S (m + 25)) := hc.mono (by omega)
  have HK2 : Hid (KeptO (fun k => k = g) w w2) := HK1.out.trans hk
  have HR2 : Hid (Tri w2 w.heap.size (.slice none 0 0) (.int .i64 0) (.int .i64 0)) := HR1.out.keep (hk.block _ z1 (by omega))
  have z2 : w.heap.size < w2.heap.size := by have := hk.size; omega
  have hz20 : (kRow kInt).sz lw ≤ 2 ^ 20 := by
    have h1 : (kRow kInt).sz lw = lw.length + sums kInt.sz lw := rfl
    have h2 : sums kInt.sz lw = 0 := sums_zero lw
    have h3 := row_len HW1.out.1
    omega
  clear hc hk
  go_wp2_with fail
  refine (specNewVoting_k lw aw nw cw Tw r0 t0 w2 ((kRow kInt).read HW2.out) hz20 (by unfold IntOk; omega) (by unfold IntOk; omega)).mono ?_
  rintro e w3 ⟨C0, T0, rfl, hv, hT0, _, hb⟩
  have hok : (fNewVoting lw r0 t0).2 = true → 1 ≤ (fNewVoting lw r0 t0).1.1.length ∧ (fNewVoting lw r0 t0).1.1.length ≤ 7 := new_len
  generalize fNewVoting lw r0 t0 = V at *
  obtain ⟨V, q⟩ := V
  obtain ⟨a, n, c, T1, rfl, hnl, hrow, hT1, hi1, hi2⟩ := vot_open hv
  obtain ⟨L, r, t⟩ := V
  simp only at hok hnl hrow hi1 hi2
  have HC3 : Hid (CurAt w3 g S (m + 25)) := HC2.out.below hb
  have HK3 : Hid (KeptO (fun k => k = g) w w3) := HK2.out.low (hb.mono (by omega))
  have HR3 : Hid (Tri w3 w.heap.size (.slice none 0 0) (.int .i64 0) (.int .i64 0)) := HR2.out.below hb
  have z3 : w2.heap.size ≤ w3.heap.size := hb.size
  obtain ⟨W4, hW4⟩ : ∃ W, W = w3.alloc (.cells #[.slice a n c, .int .i64 r, .int .i64 t] 25) := ⟨_, rfl⟩
  obtain ⟨gv, hgv⟩ : ∃ gv, gv = w3.heap.size := ⟨_, rfl⟩
  have hb34 : Below w3.heap.size w3 W4 := by rw [hW4]; exact below_a1q _ _
  have HBX : Hid (Tri W4 gv (.slice a n c) (.int .i64 r) (.int .i64 t)) := by show Tri _ _ _ _ _; rw [hW4, hgv]; exact alloc_tri w3 _ _ _ _
  have HRW : Hid ((kRow kCopy).is true W4 (fun q => w.heap.size < q ∧ q ≠ gv) [.slice a n c] L) := Kd.below (Kd.tight (kRow kCopy) hrow (fun q hq h => by have := hT0 q (hT1 q h); omega)) hb34
  have HC4 : Hid (CurAt W4 g S (m + 25)) := HC3.out.below hb34
  have HK4 : Hid (KeptO (fun k => k = g) w W4) := HK3.out.low (hb34.mono (by omega))
  have HR4 : Hid (Tri W4 w.heap.size (.slice none 0 0) (.int .i64 0) (.int .i64 0)) := HR3.out.below hb34
  have hgw : w.heap.size < gv := by omega
  have z4 : w.heap.size < W4.heap.size := by have := hb34.size; omega
  have HIO : Hid (IntOk r ∧ IntOk t) := ⟨hi1, hi2⟩
  have HOKL : Hid (q = true → 1 ≤ n ∧ n ≤ 7) := fun h => by rw [hnl]; exact hok h
  have hbx := HBX.out.lt
  clear hv hT0 hT1 hrow hb hnl hi1 hi2 hok HR3 HC3 HK3
  go_upto_if 27 with fail
  rw [← hW4, ← hgv]
  clear hW4 hb34 hgv
  go_cut [] (fun wx => ∃ (a : Option Addr) (n c : Nat) (r t : Int) (L : List DCopy), Hid (VoAt w wx gv w.heap.size a n c r t L g S (m + 25)))
  case first =>
    cases q with
    | true =>
      have HV : Hid (VoAt w W4 gv w.heap.size a n c r t L g S (m + 25)) := ⟨Kd.mono HRW.out (fun q h => ⟨h.1, h.2, by omega⟩), HBX.out, HR4.out, hgw, HIO.out, HOKL.out rfl, HC4.out, HK4.out⟩
      go_wp2_with fail
      go_meet
      case rel => exact ⟨a, n, c, r, t, L, HV⟩
    | false =>
      clear HOKL HIO HRW
      obtain ⟨B0, B1, B2, BF0, BF1, BF2⟩ := HBX.out
      go_wp2_with fail
      obtain ⟨W5, hW5⟩ : ∃ W, W = W4.alloc (.cells #[.int .i64 1, .int .i64 1, .int .i64 1] 3) := ⟨_, rfl⟩
      have hb45 : Below W4.heap.size W4 W5 := by rw [hW5]; exact below_a1q _ _
      have hR5 : (kRow kInt).is true W5 (fun q => W4.heap.size ≤ q) [.slice (some ⟨W4.heap.size, 0, none⟩) 3 3] [1, 1, 1] := by
        rw [hW5]
        exact own_intK (own_ones W4) (by decide) (fun x hx => by simp at hx; unfold IntOk; omega)
      have HR5 : Hid ((kRow kInt).is true W5 (fun q => W4.heap.size ≤ q) [.slice (some ⟨W4.heap.size, 0, none⟩) 3 3] [1, 1, 1]) := hR5
      rw [← hW5]
      clear hR5
      refine (specNewVoting_k [1, 1, 1] _ 3 3 _ 2 2 W5 ((kRow kInt).read HR5.out) (by decide) (by unfold IntOk; omega) (by unfold IntOk; omega)).mono ?_
      rintro e w6 ⟨C0, T0, rfl, hv, hT0, _, hb6⟩
      have hok := new_len new_three
      generalize fNewVoting [1, 1, 1] 2 2 = V at *
      obtain ⟨V, q⟩ := V
      obtain ⟨a', n', c', T1, rfl, hnl, hrow, hT1, hi1, hi2⟩ := vot_open hv
      obtain ⟨L', r', t'⟩ := V
      simp only at hok hnl hrow hi1 hi2
      have hb46 : Below W4.heap.size W4 w6 := hb45.trans (hb6.mono hb45.size)
      have HBX6 : Hid (Tri w6 gv (.slice a n c) (.int .i64 r) (.int .i64 t)) := HBX.out.below hb46
      have HR6 : Hid (Tri w6 w.heap.size (.slice none 0 0) (.int .i64 0) (.int .i64 0)) := HR4.out.below hb46
      have z6 : W4.heap.size ≤ W5.heap.size := hb45.size
      have hkp := put3_kept w6 gv (.slice a' n' c') (.int .i64 r') (.int .i64 t')
      have HV : Hid (VoAt w (put3 w6 gv (.slice a' n' c') (.int .i64 r') (.int .i64 t')) gv w.heap.size a' n' c' r' t' L' g S (m + 25)) :=
        ⟨Kd.kept (Kd.tight (kRow kCopy) hrow (fun q hq h => by have := hT0 q (hT1 q h); exact ⟨by omega, by omega, by omega⟩)) hkp (fun q _ h e => h.2.1 e), HBX6.out.put _ _ _, HR6.out.keep (put3_block _ _ _ _ _ (by omega)), hgw, ⟨hi1, hi2⟩, by rw [hnl]; exact hok, (HC4.out.below hb46).kept hkp (by omega) (fun q h e => by have := HSL.out q h; omega), keptF (HK4.out.low (hb46.mono (by omega))) hkp (fun q h e => by omega)⟩
      unfold put3 at HV
      clear hv hT0 hT1 hrow hb6 hnl hi1 hi2 hok hkp hb45 hb46 B0 B1 B2 BF0 BF1 BF2
      obtain ⟨B0, B1, B2, BF0, BF1, BF2⟩ := HBX6.out
      go_wp2_with fail
      go_meet
      case rel => exact ⟨a', n', c', r', t', L', HV⟩
  case rest =>
    obtain ⟨a, n, c, r, t, L, HV⟩ := hcut
    clear HRW HBX HR4 HC4 HK4 HIO HOKL HW1 HW2 HC1 HC2 HK1 HK2 HR1 HR2
    have hgw' := hgw
    clear hbx z4 z3 z2 z1 hz0 HB0
    go_wp2_with fail
    refine (pick_k wc g S _ 6 HV.out.cur (by omega) (by omega) (by omega)).mono ?_
    rintro e w5 ⟨k0, rfl, ⟨k1, k2⟩, hc, hkk⟩
    have HV5 : Hid (VoAt w w5 gv w.heap.size a n c r t L g S (m + 26)) := HV.out.to hg hkk (hc.mono (by omega))
    obtain ⟨k, rfl⟩ : ∃ k : Nat, k0 = k := ⟨k0.toNat, by omega⟩
    clear hc hkk HV k1
    go_wp2_with fail
    go_loopw [8] (fun iv wr => ∃ (k : Nat) (a : Option Addr) (n c : Nat) (r t : Int) (L : List DCopy), k ≤ 5 ∧ iv = .int .i64 k ∧ Hid (VoAt w wr gv w.heap.size a n c r t L g S (m + 26 + 20 * (5 - (k : Int))))) (fun iv _ => (intOf iv).toNat)
    case atStart => exact ⟨k, a, n, c, r, t, L, by omega, rfl, ⟨HV5.out.row, HV5.out.box, HV5.out.res, HV5.out.gvb, HV5.out.io, HV5.out.len, HV5.out.cur.mono (by omega), HV5.out.kep⟩⟩
    case round =>
      clear HV5 k2
      obtain ⟨k, a, n, c, r, t, L, hk, rfl, HV⟩ := hrel
      obtain ⟨D0, D1, D2, DF0, DF1, DF2⟩ := HV.out.box
      have hgr := HV.out.box.lt
      by_cases hlt : 0 < k
      · have i0 : (0 : Int) < (k : Int) := by omega
        obtain ⟨W1, hW1⟩ : ∃ W, W = wr.alloc (.cells #[.slice a n c, .int .i64 r, .int .i64 t] 25) := ⟨_, rfl⟩
        obtain ⟨gx, hgx⟩ : ∃ gx, gx = wr.heap.size := ⟨_, rfl⟩
        have hb1 : Below wr.heap.size wr W1 := by rw [hW1]; exact below_a1q _ _
        have HX1 : Hid (Tri W1 gx (.slice a n c) (.int .i64 r) (.int .i64 t)) := by show Tri _ _ _ _ _; rw [hW1, hgx]; exact alloc_tri wr _ _ _ _
        have HV1 : Hid (VoAt w W1 gv gx a n c r t L g S (m + 26 + 20 * (5 - (k : Int)))) := by rw [hgx]; exact HV.out.more.to hg (KeptO.of hb1) (HV.out.cur.below hb1)
        have hgxv : gv < gx := by omega
        have hgw1 : g < gx := by omega
        go_wp2_with fail
        rw [← hW1, ← hgx]
        clear hW1 hb1 hgx HV D0 D1 D2 DF0 DF1 DF2
        have hgx1 := HX1.out.lt
        refine (one_k W1 g S _ 3 HV1.out.cur (by omega) (by omega) (by omega)).mono ?_
        rintro e w2 ⟨b, rfl, hc, hkk⟩
        have HV2 : Hid (VoAt w w2 gv gx a n c r t L g S (m + 26 + 20 * (5 - (k : Int)) + 1)) := HV1.out.to hg hkk hc
        have HX2 : Hid (Tri w2 gx (.slice a n c) (.int .i64 r) (.int .i64 t)) := HX1.out.keep (hkk.block _ hgx1 (by omega))
        have hgx2 := HX2.out.lt
        clear hc hkk HX1 HV1 hgx1 hgr
        obtain ⟨M, hM⟩ : ∃ M, M = m + 26 + 20 * (5 - (k : Int)) + 1 := ⟨_, rfl⟩
        have hMb : M ≤ 2 ^ 40 := by omega
        have hM2 : M + 12 ≤ m + 26 + 20 * (5 - (k : Int)) + 20 := by omega
        rw [← hM] at HV2
        clear hM
        go_upto_if 41 with fail
        go_cut [10] (fun p wx => ∃ (bb : Bool) (aX : Option Addr) (nX cX : Nat) (rX tX : Int) (LX : List DCopy), p = .bool bb ∧ Hid (VoAt w wx gv gx a n c r t L g S (M + 12) ∧ Tri wx gx (.slice aX nX cX) (.int .i64 rX) (.int .i64 tX) ∧ (bb = true → (kRow kCopy).is true wx (fun q => w.heap.size < q ∧ q ≠ gv ∧ q ≠ gx) [.slice aX nX cX] LX ∧ (1 ≤ nX ∧ nX ≤ 7) ∧ IntOk rX ∧ IntOk tX)))
        case first =>
          have HCD : Hid (CurAt w2.drew g S M) := HV2.out.cur.drew
          have HSF : Hid (∀ q, S q → q < w.heap.size) := HSL.out
          have hgxw : w.heap.size < gx := by omega
          obtain ⟨D0, D1, D2, _, _, _⟩ := HV2.out.box
          have hgv2 := HV2.out.box.lt
          have hgg2 : g < w2.heap.size := by omega
          cases b with
          | true =>
            go_upto_region 11 with fail
            go_region_with (first | (go_at_call 43; go_fit (some_k w2.drew g S M n HCD.out (by omega) (by show g < w2.heap.size; omega) (fun q h => by have := HSL.out q h; show q < w2.heap.size; omega) HV2.out.len.2); rintro e w4 ⟨sa, sn, sc, sT, sl, rfl, hr, hT, hn, hc, hkk⟩; have hkk' : KeptO (fun q => q = g) w2 w4 := (KeptO.of ((Below.refl w2.heap.size w2).drew)).trans hkk; have HV4 : Hid (VoAt w w4 gv gx a n c r t L g S (M + 10)) := HV2.out.to hg hkk' hc; have HX4 : Hid (Tri w4 gx (.slice a n c) (.int .i64 r) (.int .i64 t)) := HX2.out.keep (hkk'.block _ hgx2 (by omega)); have HS4 : Hid ((kRow kInt).is true w4 sT [.slice sa sn sc] sl) := hr; have hTs : Hid (∀ q, sT q → w2.heap.size ≤ q) := hT; obtain ⟨X0, X1, X2, _, _, _⟩ := HV4.out.box; have hgv4 := HV4.out.box.lt; have hgx4 := HX4.out.lt; obtain ⟨Y0, Y1, Y2, YF0, YF1, YF2⟩ := HX4.out; have z4 : w2.heap.size ≤ w4.heap.size := hkk'.size; clear hr hT hc hkk hkk') | (go_at_call 27; go_fit (repairSp_k L a n c _ r t sl sa sn sc sT w4 ((kRow kCopy).read HV4.out.row) (row_cap HV4.out.row) ((kRow kInt).read HS4.out) HV4.out.io.1 HV4.out.io.2); rintro e w5 ⟨C0, T0, rfl, hv, hT0, _, _, hb⟩; have hlen : (fRepairCopies (L, r, t) sl).2.2 = true → (fRepairCopies (L, r, t) sl).1.1.length = L.length := repair_len; generalize fRepairCopies (L, r, t) sl = V at *; obtain ⟨V, kq, bq⟩ := V; simp only at hv hlen; obtain ⟨a', n', c', T1, rfl, hnl, hrow, hT1, hi1, hi2⟩ := vot_open hv; obtain ⟨L', r', t'⟩ := V; simp only at hlen hnl hrow hi1 hi2; have HX5 : Hid (Tri w5 gx (.slice a n c) (.int .i64 r) (.int .i64 t)) := HX4.out.below hb; obtain ⟨Z0, Z1, Z2, ZF0, ZF1, ZF2⟩ := HX5.out; have hkp := put3_kept w5 gx (.slice a' n' c') (.int .i64 r') (.int .i64 t'); have HVB := HV4.out.to hg (KeptO.of hb) (HV4.out.cur.below hb); have z5 : w4.heap.size ≤ w5.heap.size := hb.size; have HFIN : Hid (VoAt w (put3 w5 gx (.slice a' n' c') (.int .i64 r') (.int .i64 t')) gv gx a n c r t L g S (M + 12) ∧ Tri (put3 w5 gx (.slice a' n' c') (.int .i64 r') (.int .i64 t')) gx (.slice a' n' c') (.int .i64 r') (.int .i64 t') ∧ (bq = true → (kRow kCopy).is true (put3 w5 gx (.slice a' n' c') (.int .i64 r') (.int .i64 t')) (fun q => w.heap.size < q ∧ q ≠ gv ∧ q ≠ gx) [.slice a' n' c'] L' ∧ (1 ≤ n' ∧ n' ≤ 7) ∧ IntOk r' ∧ IntOk t')) := ⟨HVB.puts hgxw hg hgxv HSF.out (by omega), HX5.out.put _ _ _, fun h => ⟨Kd.kept (Kd.tight (kRow kCopy) hrow (fun q hq h => by have h1 : w4.heap.size ≤ q := hT0 q (hT1 q h); exact ⟨by omega, by omega, by omega⟩)) hkp (fun q _ h e => h.2.2 e), by rw [hnl, hlen h]; have := HV2.out.len; rw [row_len HV2.out.row] at this; exact this, hi1, hi2⟩⟩; unfold put3 at HFIN; clear hv hT0 hT1 hrow hb hnl hi1 hi2 hkp HVB hlen))
            all_goals
              go_wp2_with fail
              go_meet
              case rel => exact ⟨bq, a', n', c', r', t', L', rfl, HFIN⟩
          | false =>
            go_upto_region 12 with fail
            have HCE : Hid (CurAt (w2.alloc (.cells #[.string ⟨#[97]⟩, .string ⟨#[98]⟩, .string ⟨#[116, 101, 120, 116]⟩, .string ⟨#[]⟩] 9)).drew g S M) := (HV2.out.cur.below (below_a1q _ _)).drew
            go_region_with (first | (go_at_call 43; go_fit (some_k w2.drew g S M n HCD.out (by omega) (by show g < w2.heap.size; omega) (fun q h => by have := HSL.out q h; show q < w2.heap.size; omega) HV2.out.len.2); rintro e w4 ⟨sa, sn, sc, sT, sl, rfl, hr, hT, hn, hc, hkk⟩; have hkk' : KeptO (fun q => q = g) w2 w4 := (KeptO.of ((Below.refl w2.heap.size w2).drew)).trans hkk; have HV4 : Hid (VoAt w w4 gv gx a n c r t L g S (M + 10)) := HV2.out.to hg hkk' hc; have HX4 : Hid (Tri w4 gx (.slice a n c) (.int .i64 r) (.int .i64 t)) := HX2.out.keep (hkk'.block _ hgx2 (by omega)); have HS4 : Hid ((kRow kInt).is true w4 sT [.slice sa sn sc] sl) := hr; have hTs : Hid (∀ q, sT q → w2.heap.size ≤ q) := hT; obtain ⟨X0, X1, X2, _, _, _⟩ := HV4.out.box; have hgv4 := HV4.out.box.lt; have hgx4 := HX4.out.lt; obtain ⟨Y0, Y1, Y2, YF0, YF1, YF2⟩ := HX4.out; have z4 : w2.heap.size ≤ w4.heap.size := hkk'.size; clear hr hT hc hkk hkk') | (go_at_call 43; go_fit (some_k (w2.alloc (.cells #[.string ⟨#[97]⟩, .string ⟨#[98]⟩, .string ⟨#[116, 101, 120, 116]⟩, .string ⟨#[]⟩] 9)).drew g S M n HCE.out (by omega) (by show g < (w2.alloc _).heap.size; simp; omega) (fun q h => by have := HSL.out q h; show q < (w2.alloc _).heap.size; simp; omega) HV2.out.len.2); rintro e w4 ⟨sa, sn, sc, sT, sl, rfl, hr, hT, hn, hc, hkk⟩; have hkk' : KeptO (fun q => q = g) w2 w4 := (KeptO.of ((below_a1q w2 (.cells #[.string ⟨#[97]⟩, .string ⟨#[98]⟩, .string ⟨#[116, 101, 120, 116]⟩, .string ⟨#[]⟩] 9)).drew)).trans hkk; have HLS : Hid (∀ j, j < ([⟨#[97]⟩, ⟨#[98]⟩, ⟨#[116, 101, 120, 116]⟩, ⟨#[]⟩] : List ByteArray).length → w4.cell? ⟨w2.heap.size, j, none⟩ = some (.string (([⟨#[97]⟩, ⟨#[98]⟩, ⟨#[116, 101, 120, 116]⟩, ⟨#[]⟩] : List ByteArray).getD j ⟨#[]⟩))) := fun j hj => (hkk.cell (g := w2.heap.size) (by show w2.heap.size < (w2.alloc _).heap.size; simp) (by omega)).trans (strs_of (vs := [⟨#[97]⟩, ⟨#[98]⟩, ⟨#[116, 101, 120, 116]⟩, ⟨#[]⟩]) (T := 9) _ rfl j hj); have hz24 : w2.heap.size < w4.heap.size := (by have := hkk.size; simp at this; omega); have HV4 : Hid (VoAt w w4 gv gx a n c r t L g S (M + 10)) := HV2.out.to hg hkk' hc; have HX4 : Hid (Tri w4 gx (.slice a n c) (.int .i64 r) (.int .i64 t)) := HX2.out.keep (hkk'.block _ hgx2 (by omega)); have HS4 : Hid ((kRow kInt).is true w4 sT [.slice sa sn sc] sl) := hr; have hTs : Hid (∀ q, sT q → w2.heap.size ≤ q) := fun q h => (by have h1 : (w2.alloc _).heap.size ≤ q := hT q h; simp at h1; omega); obtain ⟨X0, X1, X2, _, _, _⟩ := HV4.out.box; have hgv4 := HV4.out.box.lt; have hgx4 := HX4.out.lt; obtain ⟨Y0, Y1, Y2, YF0, YF1, YF2⟩ := HX4.out; have z4 : w2.heap.size ≤ w4.heap.size := hkk'.size; clear hr hT hc hkk hkk') | (go_at_call 44; go_fit (of_at w4 g S (M + 10) [⟨#[97]⟩, ⟨#[98]⟩, ⟨#[116, 101, 120, 116]⟩, ⟨#[]⟩] 9 HV4.out.cur (by omega) (by omega) (by decide) (by decide)); rintro e w6 ⟨y, hy, rfl, hc, hk6⟩; have HV6 : Hid (VoAt w w6 gv gx a n c r t L g S (M + 11)) := HV4.out.to hg hk6 (hc.mono (by omega)); have HX6 : Hid (Tri w6 gx (.slice a n c) (.int .i64 r) (.int .i64 t)) := HX4.out.keep (KeptO.block hk6 _ (by omega) (by omega)); have HS6 : Hid ((kRow kInt).is true w6 sT [.slice sa sn sc] sl) := Kd.kept HS4.out hk6 (fun q _ h e => by have := hTs.out q h; omega); obtain ⟨P0, P1, P2, _, _, _⟩ := HV6.out.box; have hgv6 := HV6.out.box.lt; have hgx6 := HX6.out.lt; obtain ⟨O0, O1, O2, OF0, OF1, OF2⟩ := HX6.out; have z6 : w4.heap.size ≤ w6.heap.size := KeptO.size hk6; clear hc hk6 hy) | (go_at_call 44; go_fit (of_k w4 g S (M + 10) w2.heap.size [⟨#[97]⟩, ⟨#[98]⟩, ⟨#[116, 101, 120, 116]⟩, ⟨#[]⟩] HV4.out.cur (by omega) hz24 (by omega) (by decide) (by decide) HLS.out); rintro e w6 ⟨y, hy, rfl, hc, hk6⟩; have HV6 : Hid (VoAt w w6 gv gx a n c r t L g S (M + 11)) := HV4.out.to hg hk6 (hc.mono (by omega)); have HX6 : Hid (Tri w6 gx (.slice a n c) (.int .i64 r) (.int .i64 t)) := HX4.out.keep (KeptO.block hk6 _ (by omega) (by omega)); have HS6 : Hid ((kRow kInt).is true w6 sT [.slice sa sn sc] sl) := Kd.kept HS4.out hk6 (fun q _ h e => by have := hTs.out q h; omega); obtain ⟨P0, P1, P2, _, _, _⟩ := HV6.out.box; have hgv6 := HV6.out.box.lt; have hgx6 := HX6.out.lt; obtain ⟨O0, O1, O2, OF0, OF1, OF2⟩ := HX6.out; have z6 : w4.heap.size ≤ w6.heap.size := KeptO.size hk6; clear hc hk6 hy) | (go_at_call 15; go_fit (writeSp_k L a n c _ r t sl sa sn sc sT y w6 ((kRow kCopy).read HV6.out.row) (row_cap HV6.out.row) ((kRow kInt).read HS6.out) HV6.out.io.1 HV6.out.io.2); rintro e w5 ⟨C0, T0, rfl, hv, hT0, _, hb⟩; have hlen : (fWriteText (L, r, t) sl y).2 = true → (fWriteText (L, r, t) sl y).1.1.length = L.length := write_len; generalize fWriteText (L, r, t) sl y = V at *; obtain ⟨V, bq⟩ := V; simp only at hv hlen; obtain ⟨a', n', c', T1, rfl, hnl, hrow, hT1, hi1, hi2⟩ := vot_open hv; obtain ⟨L', r', t'⟩ := V; simp only at hlen hnl hrow hi1 hi2; have HX5 : Hid (Tri w5 gx (.slice a n c) (.int .i64 r) (.int .i64 t)) := HX6.out.below hb; obtain ⟨Z0, Z1, Z2, ZF0, ZF1, ZF2⟩ := HX5.out; have hkp := put3_kept w5 gx (.slice a' n' c') (.int .i64 r') (.int .i64 t'); have HVB := HV6.out.to hg (KeptO.of hb) (HV6.out.cur.below hb); have z5 : w6.heap.size ≤ w5.heap.size := hb.size; have HFIN : Hid (VoAt w (put3 w5 gx (.slice a' n' c') (.int .i64 r') (.int .i64 t')) gv gx a n c r t L g S (M + 12) ∧ Tri (put3 w5 gx (.slice a' n' c') (.int .i64 r') (.int .i64 t')) gx (.slice a' n' c') (.int .i64 r') (.int .i64 t') ∧ (bq = true → (kRow kCopy).is true (put3 w5 gx (.slice a' n' c') (.int .i64 r') (.int .i64 t')) (fun q => w.heap.size < q ∧ q ≠ gv ∧ q ≠ gx) [.slice a' n' c'] L' ∧ (1 ≤ n' ∧ n' ≤ 7) ∧ IntOk r' ∧ IntOk t')) := ⟨HVB.puts hgxw hg hgxv HSF.out (by omega), HX5.out.put _ _ _, fun h => ⟨Kd.kept (Kd.tight (kRow kCopy) hrow (fun q hq h => by have h1 : w6.heap.size ≤ q := hT0 q (hT1 q h); exact ⟨by omega, by omega, by omega⟩)) hkp (fun q _ h e => h.2.2 e), by rw [hnl, hlen h]; have := HV2.out.len; rw [row_len HV2.out.row] at this; exact this, hi1, hi2⟩⟩; unfold put3 at HFIN; clear hv hT0 hT1 hrow hb hnl hi1 hi2 hkp HVB hlen))
            all_goals
              go_wp2_with fail
              go_meet
              case rel => exact ⟨bq, a', n', c', r', t', L', rfl, HFIN⟩
        case rest =>
          obtain ⟨bb, aX, nX, cX, rX, tX, LX, rfl, HH⟩ := hcut
          obtain ⟨D0, D1, D2, DF0, DF1, DF2⟩ := HH.out.1.box
          obtain ⟨E0, E1, E2, _, _, _⟩ := HH.out.2.1
          cases bb with
          | false =>
            have HN : Hid (VoAt w wc gv w.heap.size a n c r t L g S (m + 26 + 20 * (5 - ((k - 1 : Nat) : Int)))) := HH.out.1.less (by omega)
            have hkc : ((k - 1 : Nat) : Int) = (k : Int) - 1 := by omega
            go_wp2
            go_roundw
            case rel => exact ⟨k - 1, a, n, c, r, t, L, by omega, by rw [hkc], HN⟩
            case measure => simp [intOf]; omega
          | true =>
            obtain ⟨hrX, hlX, hi1, hi2⟩ := HH.out.2.2 rfl
            have hkp := put3_kept wc gv (.slice aX nX cX) (.int .i64 rX) (.int .i64 tX)
            have hgg := HH.out.1.box.lt
            have HN : Hid (VoAt w (put3 wc gv (.slice aX nX cX) (.int .i64 rX) (.int .i64 tX)) gv w.heap.size aX nX cX rX tX LX g S (m + 26 + 20 * (5 - ((k - 1 : Nat) : Int)))) :=
              ⟨Kd.kept (Kd.mono hrX (fun q h => ⟨h.1, h.2.1, by omega⟩)) hkp (fun q _ h e => h.2.1 e), HH.out.1.box.put _ _ _, HH.out.1.res.keep (put3_block _ _ _ _ _ (by omega)), hgw, ⟨hi1, hi2⟩, hlX, (HH.out.1.cur.mono (by omega)).kept hkp (by omega) (fun q h e => by have := HSL.out q h; omega), keptF HH.out.1.kep hkp (fun q h e => by omega)⟩
            unfold put3 at HN
            have hkc : ((k - 1 : Nat) : Int) = (k : Int) - 1 := by omega
            clear hkp hrX hlX hi1 hi2
            go_wp2
            go_roundw
            case rel => exact ⟨k - 1, aX, nX, cX, rX, tX, LX, by omega, by rw [hkc], HN⟩
            case measure => simp [intOf]; omega
      · obtain rfl : k = 0 := by omega
        have i0 : ¬ (0 : Int) < ((0 : Nat) : Int) := by omega
        go_wp2_with fail
        refine (pick_k wr g S _ 40 HV.out.cur (by omega) (by omega) (by omega)).mono ?_
        rintro e w5 ⟨j, rfl, ⟨j0, j1⟩, hc, hkk⟩
        have HV5 : Hid (VoAt w w5 gv w.heap.size a n c r t L g S (m + 190)) := HV.out.to hg hkk (hc.mono (by omega))
        obtain ⟨hn1', hn7'⟩ := HV5.out.len
        have hnp : (0 : Int) < (n : Int) := by omega
        clear hc hkk HV D0 D1 D2 DF0 DF1 DF2 hgr
        by_cases cj0 : j = 0
        · subst cj0
          obtain ⟨D0, D1, D2, DF0, DF1, DF2⟩ := HV5.out.box
          have HCD : Hid (CurAt w5.drew g S (m + 190)) := HV5.out.cur.drew
          obtain ⟨bb, oo, haa, _⟩ := rowV_put HV5.out.row (show 0 < n by omega) 0 (by unfold IntOk; omega)
          subst haa
          go_upto_region 17 with fail
          go_region_with (first | (go_at_call 75; go_fit (pick_k w5.drew g S (m + 190) 9 HCD.out (by omega) (by omega) (by omega)); rintro e w6 ⟨y, rfl, ⟨y0, y1⟩, hc, hkk⟩; have HV6 : Hid (VoAt w w6 gv w.heap.size (some ⟨bb, oo, none⟩) n c r t L g S (m + 200)) := HV5.out.to hg ((KeptO.of ((Below.refl w5.heap.size w5).drew)).trans hkk) (hc.mono (by omega)); clear hc hkk; obtain ⟨b, o, ha, hbl, hbS, p1, p2, hrow, hkp⟩ := rowV_put HV6.out.row (show 0 < n by omega) y (by unfold IntOk; omega); rw [Nat.zero_mul, Nat.add_zero] at p1 p2 hrow hkp; injection ha with ha; injection ha with eb eo; subst eb eo; obtain ⟨v1, p1⟩ := p1; have hbS' : w.heap.size < bb ∧ bb ≠ gv ∧ bb ≠ w.heap.size := hbS; obtain ⟨hb1, hb2, hb3⟩ := hbS'; have hb2' : gv ≠ bb := fun e => hb2 e.symm; have hgb : g ≠ bb := Nat.ne_of_lt (Nat.lt_trans hg hb1); have HN : Hid (VoAt w (w6.setCell ⟨bb, oo + 1, none⟩ (.int .i64 y)) gv w.heap.size (some ⟨bb, oo, none⟩) n c r t (L.set 0 ((cp L 0).1, y, (cp L 0).2.2)) g S (m + 200)) := (by have hz := HV6.out.box.lt; exact ⟨hrow, HV6.out.box.keep (heap_set_ne hb2'), HV6.out.res.keep (heap_set_ne (by omega)), hgw, HV6.out.io, HV6.out.len, HV6.out.cur.kept hkp (by omega) (fun q h e => by have := HSL.out q h; have h1 : w.heap.size < q := e.1; omega), keptF HV6.out.kep hkp (fun q h e => by have h1 : w.heap.size < q := e.1; omega)⟩); obtain ⟨X0, X1, X2, XF0, XF1, XF2⟩ := HV6.out.box; clear hrow hkp hbS))
          all_goals
            obtain ⟨E0, E1, E2, _, _, _⟩ := HN.out.box
            obtain ⟨R0, R1, R2, F0, F1, F2⟩ := HN.out.res
            have hq := HN.out.res.put (.slice (some ⟨bb, oo, none⟩) n c) (.int .i64 r) (.int .i64 t)
            obtain ⟨Q0, Q1, Q2, _, _, _⟩ := hq
            have HFX := HN.out.fin (.slice (some ⟨bb, oo, none⟩) n c) (.int .i64 r) (.int .i64 t) hg HSL.out
            have HFX2 : Hid _ := HFX
            clear HFX
            unfold put3 at Q0 Q1 Q2 HFX2
            go_wp2
            refine bodyPost_ret (v := .agg #[.slice (some ⟨bb, oo, none⟩) n c, .int .i64 r, .int .i64 t]) (by simp [results, Try.results42, go_sem, Q0, Q1, Q2]) rfl ?_
            obtain ⟨f1, f2, f3⟩ := HFX2.out
            exact ⟨_, n, c, r, t, _, _, rfl, f1, fun k h => Nat.le_of_lt h.1, HN.out.io, HN.out.len, f2, f3⟩
        · by_cases cj1 : j = 1
          · subst cj1
            obtain ⟨D0, D1, D2, DF0, DF1, DF2⟩ := HV5.out.box
            go_wp2_with fail
            refine (pick_k w5 g S _ 4 HV5.out.cur (by omega) (by omega) (by omega)).mono ?_
            rintro e w6 ⟨y, rfl, ⟨y0, y1⟩, hc, hkk⟩
            have HV6 : Hid (VoAt w w6 gv w.heap.size a n c r t L g S (m + 200)) := HV5.out.to hg hkk (hc.mono (by omega))
            clear hc hkk D0 D1 D2 DF0 DF1 DF2
            have hz := HV6.out.box.lt
            have hks : KeptO (fun q => q = gv) w6 (w6.setCell ⟨gv, 1, none⟩ (.int .i64 y)) := ⟨rfl, rfl, rfl, by simp, fun q hq hn => heap_set_ne hn⟩
            obtain ⟨D0, D1, D2, DF0, DF1, DF2⟩ := HV6.out.box
            have HN : Hid (VoAt w (w6.setCell ⟨gv, 1, none⟩ (.int .i64 y)) gv w.heap.size a n c y t L g S (m + 200)) :=
              ⟨Kd.kept HV6.out.row hks (fun q _ h e => h.2.1 e), ⟨set_other D0 (by omega), set_same D1, set_other D2 (by omega), frozen_set DF0, frozen_set DF1, frozen_set DF2⟩, HV6.out.res.keep (heap_set_ne (by omega)), hgw, ⟨by unfold IntOk; omega, HV6.out.io.2⟩, HV6.out.len, HV6.out.cur.kept hks (by omega) (fun q h e => by have := HSL.out q h; omega), keptF HV6.out.kep hks (fun q h e => by omega)⟩
            clear hks
            obtain ⟨E0, E1, E2, _, _, _⟩ := HN.out.box
            obtain ⟨R0, R1, R2, F0, F1, F2⟩ := HN.out.res
            have hq := HN.out.res.put (.slice a n c) (.int .i64 y) (.int .i64 t)
            obtain ⟨Q0, Q1, Q2, _, _, _⟩ := hq
            have HFX2 : Hid _ := HN.out.fin (.slice a n c) (.int .i64 y) (.int .i64 t) hg HSL.out
            unfold put3 at Q0 Q1 Q2 HFX2
            go_wp2
            refine bodyPost_ret (v := .agg #[.slice a n c, .int .i64 y, .int .i64 t]) (by simp [results, Try.results42, go_sem, Q0, Q1, Q2]) rfl ?_
            obtain ⟨f1, f2, f3⟩ := HFX2.out
            exact ⟨_, n, c, y, t, _, _, rfl, f1, fun k h => Nat.le_of_lt h.1, HN.out.io, HN.out.len, f2, f3⟩
          · have cj0' : (j == 0) = false := by simpa using cj0
            have cj1' : (j == 1) = false := by simpa using cj1
            have HN : Hid (VoAt w w5 gv w.heap.size a n c r t L g S (m + 200)) := HV5.out.less (by omega)
            obtain ⟨E0, E1, E2, _, _, _⟩ := HN.out.box
            obtain ⟨R0, R1, R2, F0, F1, F2⟩ := HN.out.res
            have hq := HN.out.res.put (.slice a n c) (.int .i64 r) (.int .i64 t)
            obtain ⟨Q0, Q1, Q2, _, _, _⟩ := hq
            have HFX2 : Hid _ := HN.out.fin (.slice a n c) (.int .i64 r) (.int .i64 t) hg HSL.out
            unfold put3 at Q0 Q1 Q2 HFX2
            go_wp2
            refine bodyPost_ret (v := .agg #[.slice a n c, .int .i64 r, .int .i64 t]) (by simp [results, Try.results42, go_sem, Q0, Q1, Q2]) rfl ?_
            obtain ⟨f1, f2, f3⟩ := HFX2.out
            exact ⟨_, n, c, r, t, _, _, rfl, f1, fun k h => Nat.le_of_lt h.1, HN.out.io, HN.out.len, f2, f3⟩
end Go.Proofs.Ytbkdkiodkcpbeaa
