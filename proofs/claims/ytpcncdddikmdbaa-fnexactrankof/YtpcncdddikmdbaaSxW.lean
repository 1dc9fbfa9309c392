/- CommonOf: the program's and the specification's. No condition but that a text and a list fit in memory. -/
import Derived.Test.YtpcncdddikmdbaaSxV
namespace Go.Proofs.Ytpcncdddikmdbaa
open Go.RowKit Go.Sort
set_option linter.unusedVariables false

/-- CommonOf. -/
def fCommonOf (s : ByteArray) (l : List Int) : List Int × Bool := if isSx s l = true then (nts (comL (tx s) (sufL (tx s))), true) else ([], false)
/-- What CommonOf answers. -/
def RCommonOf (x0 : ByteArray) (x1 : List Int) (w : World) (e : Ending) (w' : World) : Prop := ∃ (a0 : Option Addr) (n0 c0 : Nat) (T0 : Nat → Prop), e = .returned (.tuple #[.slice a0 n0 c0, .bool (fCommonOf x0 x1).2]) ∧ (kRow kInt).is true w' T0 [.slice a0 n0 c0] (fCommonOf x0 x1).1 ∧ (∀ k, T0 k → w.heap.size ≤ k) ∧ sums kInt.cnt (fCommonOf x0 x1).1 ≤ 2 ^ 26 ∧ Below w.heap.size w w'
theorem isSx_of {s : ByteArray} {l : List Int} (h : isSx s l = true) : s.size ≤ 120 ∧ l = nts (sufL (tx s)) := by
  unfold isSx at h
  simpa using h
theorem suf_le (s : ByteArray) : ∀ x ∈ sufL (tx s), x ≤ s.size := fun x hx => by
  have := sufL_mem.1 hx
  rw [tx_len] at this
  omega
theorem com_cnt (s : ByteArray) (h : s.size ≤ 120) : sums kInt.cnt (nts (comL (tx s) (sufL (tx s)))) ≤ 2 ^ 26 := by
  rw [cnt_ints, nts_len, comL_len, sufL_len, tx_len]
  omega
set_option maxRecDepth 100000 in
set_option maxHeartbeats 1000000 in
theorem implCommonOf_k (x0 : ByteArray) (x1 : List Int) (a1 : Option Addr) (n1 c1 : Nat) (S1 : Nat → Prop) (w : World) (h0 : x0.size ≤ 2 ^ 20) (h1 : (kRow kInt).is false w S1 [.slice a1 n1 c1] x1) (z1 : (kRow kInt).sz x1 ≤ 2 ^ 20) :
    Calls Try.prog 21 #[.string x0, .slice a1 n1 c1] w (RCommonOf x0 x1 w) := by
  have H1 : Hid ((kRow kInt).is false w S1 [.slice a1 n1 c1] x1) := h1
  have hz : n1 ≤ 2 ^ 20 := by have := row_len h1; have : (kRow kInt).sz x1 = x1.length + sums kInt.sz x1 := rfl; omega
  have hcl := implIsSuffixes_k x0 x1 a1 n1 c1 S1 w h0 h1 z1
  clear h1 z1
  go_enter Try.func21, Try.ntmps21
  go_wp2_with fail
  refine hcl.mono ?_
  rintro e w1 ⟨rfl, hb⟩
  have HB : Hid (Below w.heap.size w w1) := hb
  have HI : Hid ((fIsSuffixes x0 x1).1 = isSx x0 x1) := rfl
  rw [HI.out]
  generalize (fIsSuffixes x0 x1).2 = q2 at *
  cases hq : isSx x0 x1 with
  | true =>
    obtain ⟨hs, hl⟩ := isSx_of hq
    have HF : Hid (fCommonOf x0 x1 = (nts (comL (tx x0) (sufL (tx x0))), true)) := by show _ = _; unfold fCommonOf; rw [if_pos hq]
    have HC : Hid (sums kInt.cnt (nts (comL (tx x0) (sufL (tx x0)))) ≤ 2 ^ 26) := com_cnt x0 hs
    have hr : (kRow kInt).is false w1 S1 [.slice a1 n1 c1] (nts (sufL (tx x0))) := by rw [← hl]; exact Kd.below H1.out hb
    have hc2 := commonWithAhead_k x0 (sufL (tx x0)) a1 n1 c1 S1 w1 hr hs (suf_le x0) hz
    clear hr hl hb hcl hq
    go_wp2_with fail
    refine hc2.mono ?_
    rintro e w2 ⟨a', n', c', rfl, hr2, hb2⟩
    have HR : Hid ((kRow kInt).is true w2 (fun k => w1.heap.size ≤ k) [.slice a' n' c'] (nts (comL (tx x0) (sufL (tx x0))))) := hr2
    have HB2 : Hid (Below w.heap.size w w2) := HB.out.trans (hb2.mono HB.out.size)
    clear hr2 hb2 hc2
    go_wp2
    refine bodyPost_ret (v := .tuple #[.slice a' n' c', .bool true]) (by simp [results, Try.results21, go_sem]) rfl ?_
    unfold RCommonOf
    rw [HF.out]
    exact ⟨_, _, _, _, rfl, HR.out, fun k hk => Nat.le_trans HB.out.size hk, HC.out, HB2.out⟩
  | false =>
    have HF : Hid (fCommonOf x0 x1 = ([], false)) := by show _ = _; unfold fCommonOf; rw [if_neg (by rw [hq]; decide)]
    clear hq hcl hb
    go_wp2
    refine bodyPost_ret (v := .tuple #[.slice none 0 0, .bool false]) (by simp [results, Try.results21, go_sem]) rfl ?_
    unfold RCommonOf
    rw [HF.out]
    exact ⟨none, 0, 0, fun _ => False, rfl, row_nil _ _ _ _ _ _, fun k hk => hk.elim, by simp [sums], HB.out⟩

theorem comL_take (t : List UInt8) (l : List Nat) (p : Nat) (h : p < l.length) : (comL t l).take (p + 1) = (comL t l).take p ++ [comAt t l p] := by
  rw [List.take_add_one]
  congr 1
  simp [comL, h]
set_option maxRecDepth 100000 in
set_option maxHeartbeats 4000000 in
theorem specCommonOf_k (x0 : ByteArray) (x1 : List Int) (a1 : Option Addr) (n1 c1 : Nat) (S1 : Nat → Prop) (w : World) (h0 : x0.size ≤ 2 ^ 20) (h1 : (kRow kInt).is false w S1 [.slice a1 n1 c1] x1) (z1 : (kRow kInt).sz x1 ≤ 2 ^ 20) :
    Calls Try.prog 19 #[.string x0, .slice a1 n1 c1] w (RCommonOf x0 x1 w) := by
  have H1 : Hid ((kRow kInt).is false w S1 [.slice a1 n1 c1] x1) := h1
  have hz : n1 ≤ 2 ^ 20 := by have := row_len h1; have : (kRow kInt).sz x1 = x1.length + sums kInt.sz x1 := rfl; omega
  have hcl := l12Is_k x0 x1 a1 n1 c1 S1 w h1 (by omega)
  clear h1 z1
  go_enter Try.func19, Try.ntmps19
  go_wp2_with fail
  refine hcl.mono ?_
  rintro e w1 ⟨rfl, hb⟩
  have HB : Hid (Below w.heap.size w w1) := hb
  cases hq : isSx x0 x1 with
  | true =>
    obtain ⟨hs, hl⟩ := isSx_of hq
    have HF : Hid (fCommonOf x0 x1 = (nts (comL (tx x0) (sufL (tx x0))), true)) := by show _ = _; unfold fCommonOf; rw [if_pos hq]
    have HC : Hid (sums kInt.cnt (nts (comL (tx x0) (sufL (tx x0)))) ≤ 2 ^ 26) := com_cnt x0 hs
    have HR : Hid ((kRow kInt).is false w1 S1 [.slice a1 n1 c1] (nts (sufL (tx x0)))) := by show (kRow kInt).is _ _ _ _ _; rw [← hl]; exact Kd.below H1.out hb
    have HSL : Hid (∀ x ∈ sufL (tx x0), x ≤ x0.size) := suf_le x0
    generalize sufL (tx x0) = l at *
    have HN : Hid (n1 = l.length) := by have := row_len HR.out; rw [nts_len] at this; exact this
    clear hl hb hcl hq
    go_wp2_with fail
    go_loopw [6, 16] (fun v kv wr => ∃ p : Nat, p ≤ n1 ∧ kv = .int .i64 p ∧ Hid (OwnL inC 3 1 wr w1.heap.size v (nts ((comL (tx x0) l).take p))) ∧ Hid (Below w1.heap.size w1 wr)) (fun _ kv _ => n1 - (intOf kv).toNat)
    case atStart => exact ⟨0, Nat.zero_le _, rfl, OwnL.nil _ _ _ _ _, Below.refl _ _⟩
    case round =>
      obtain ⟨p, hp, rfl, HO, HX⟩ := hrel
      have zr := HX.out.size
      obtain ⟨av, cv, hv, hcv⟩ := HO.out.form
      subst hv
      have HLT : Hid ((nts ((comL (tx x0) l).take p)).length = p) := by show _ = _; rw [nts_len, List.length_take, comL_len, ← HN.out]; omega
      rw [HLT.out] at HO hcv ⊢
      by_cases hlt : p < n1
      · obtain ⟨y, hy⟩ : ∃ y, l[p]? = some y := ⟨_, List.getElem?_eq_getElem (by rw [← HN.out]; exact hlt)⟩
        obtain ⟨b, o, rfl, hb, _, A2⟩ := rowI_at (Kd.below HR.out HX.out) (nts_at hy)
        have hys : y ≤ x0.size := HSL.out y (List.mem_of_getElem? hy)
        have k0 : (0 : Int) ≤ (p : Int) := by omega
        have k1 : (p : Int) < (n1 : Int) := by omega
        have k6 : (y : Int) ≤ (x0.size : Int) := by omega
        have HNX : Hid (nts ((comL (tx x0) l).take (p + 1)) = nts ((comL (tx x0) l).take p) ++ [((comAt (tx x0) l p : Nat) : Int)]) := by
          show _ = _
          rw [comL_take _ _ _ (by rw [← HN.out]; exact hlt)]
          simp [nts]
        by_cases hp0 : p = 0
        · have HZ : Hid (comAt (tx x0) l p = 0) := by show _ = _; unfold comAt; rw [if_pos hp0]
          have k8 : ¬ (0 : Int) < (p : Int) := by omega
          clear hp0
          go_wp2_with (at_builtin; refine app_int rfl _ _ rfl w1.heap.size _ (nts ((comL (tx x0) l).take p)) rfl (OwnL.below HO.out (below_a1r _ _)) _ (0 : Int) rfl (by simp [World.cell?_alloc_new]) (by rw [HLT.out]; omega) (by simp; omega) ?_)
          intro v4 w4 ho4 hb4 _
          have HO4 : Hid (OwnL inC 3 1 w4 w1.heap.size v4 (nts ((comL (tx x0) l).take (p + 1)))) := by
            show OwnL _ _ _ _ _ _ _
            rw [HNX.out, HZ.out]
            exact ho4
          have HB4 : Hid (Below w1.heap.size w1 w4) := (HX.out.alloc zr _).trans hb4
          clear ho4 hb4
          go_wp2
          go_roundw
          case rel => exact ⟨p + 1, by omega, by go_num, HO4, HB4⟩
          case measure => simp [intOf]; omega
        · obtain ⟨j, rfl⟩ : ∃ j, p = j + 1 := ⟨p - 1, by omega⟩
          obtain ⟨x, hx⟩ : ∃ x, l[j]? = some x := ⟨_, List.getElem?_eq_getElem (by rw [← HN.out]; omega)⟩
          obtain ⟨b', o', e', _, _, A1⟩ := rowI_at (Kd.below HR.out HX.out) (nts_at hx)
          obtain ⟨rfl, rfl⟩ : b = b' ∧ o = o' := by injection e' with e; injection e with e1 e2; exact ⟨e1, e2⟩
          have hxs : x ≤ x0.size := HSL.out x (List.mem_of_getElem? hx)
          have HC2 : Hid (comAt (tx x0) l (j + 1) = com (tx (x0.extract x x0.size)) (tx (x0.extract y x0.size))) := by
            show _ = _
            unfold comAt
            rw [if_neg (by omega), tx_end, tx_end, show j + 1 - 1 = j by omega, List.getD_eq_getElem?_getD, hx, List.getD_eq_getElem?_getD, hy]
            rfl
          have hcl : Hid (∀ W, Calls Try.prog 40 #[.string (x0.extract x x0.size), .string (x0.extract y x0.size)] W fun e w' => e = .returned (.int .i64 (comAt (tx x0) l (j + 1) : Nat)) ∧ Below W.heap.size W w') := fun W => by
            have e1 : (x0.extract x x0.size).size ≤ x0.size := by rw [ByteArray.size_extract]; omega
            have e2 : (x0.extract y x0.size).size ≤ x0.size := by rw [ByteArray.size_extract]; omega
            rw [HC2.out]
            exact l12Common_k _ _ W (by omega) (by omega)
          obtain ⟨r, hr⟩ : ∃ r, r = comAt (tx x0) l (j + 1) := ⟨_, rfl⟩
          rw [← hr] at hcl HNX
          clear hr HC2 hx hy
          have k3 : ((j + 1 : Nat) : Int) - 1 = (j : Int) := by omega
          have k4 : (0 : Int) ≤ (j : Int) := by omega
          have k5 : (x : Int) ≤ (x0.size : Int) := by omega
          have k7 : (j : Int) < (n1 : Int) := by omega
          have k8 : (0 : Int) < ((j + 1 : Nat) : Int) := by omega
          have q1 : IntKind.i64.wrap ((j : Int) + 1 - 1) = (j : Int) := by rw [show (j : Int) + 1 - 1 = (j : Int) by omega]; exact wrap_smallC (by omega) (by omega)
          have q2 : IntKind.i64.wrap (j : Int) = (j : Int) := wrap_smallC (by omega) (by omega)
          have U1 := fun q => BelowOf.cell A1 q
          have hne := belowOf_ne wr
          go_upto_region 9 with fail
          refine region_below (by kernel_rfl) (by kernel_rfl) ?_
          repeat (go_big_quiet_step (first | (go_at_call 40; exact BelowOf.calls (hcl.out _))))
          refine wpQuiet_nil (belowOf_all ?_)
          intro w2 hb2
          have HO2 : Hid (OwnL inC 3 1 w2 w1.heap.size (.slice av (j + 1) cv) (nts ((comL (tx x0) l).take (j + 1)))) := OwnL.below HO.out hb2
          have HB2 : Hid (Below w1.heap.size w1 w2) := HX.out.trans (hb2.mono zr)
          have z2 := HB2.out.size
          go_wp2_with (at_builtin; refine app_int rfl _ _ rfl w1.heap.size _ (nts ((comL (tx x0) l).take (j + 1))) rfl (OwnL.below HO2.out (below_a1r _ _)) _ (r : Int) rfl (by simp [World.cell?_alloc_new]) (by rw [HLT.out]; omega) (by simp; omega) ?_)
          intro v4 w4 ho4 hb4 _
          have HO4 : Hid (OwnL inC 3 1 w4 w1.heap.size v4 (nts ((comL (tx x0) l).take (j + 1 + 1)))) := by
            show OwnL _ _ _ _ _ _ _
            rw [HNX.out]
            exact ho4
          have HB4 : Hid (Below w1.heap.size w1 w4) := (HB2.out.alloc z2 _).trans hb4
          clear ho4 hb4
          go_wp2
          go_roundw
          case rel => exact ⟨j + 1 + 1, by omega, by go_num, HO4, HB4⟩
          case measure => simp [intOf]; omega
      · obtain rfl : p = n1 := by omega
        have k1 : ¬ (p : Int) < (p : Int) := by omega
        have HE : Hid ((kRow kInt).is true wr (fun k => w1.heap.size ≤ k) [.slice av p cv] (nts (comL (tx x0) l))) := by
          have h := HO.out
          rw [List.take_of_length_le (by rw [comL_len, ← HN.out]; omega)] at h
          refine own_intK h (by rw [nts_len, comL_len, ← HN.out]; omega) (nts_ok fun k hk => ?_)
          obtain ⟨i, _, rfl⟩ := List.mem_map.1 hk
          have := comAt_le (tx x0) l i
          rw [tx_len] at this
          omega
        have HBW : Hid (Below w.heap.size w wr) := HB.out.trans (HX.out.mono HB.out.size)
        go_wp2
        refine bodyPost_ret (v := .tuple #[.slice av p cv, .bool true]) (by simp [results, Try.results19, go_sem]) rfl ?_
        unfold RCommonOf
        rw [HF.out]
        exact ⟨_, _, _, _, rfl, HE.out, fun k hk => Nat.le_trans HB.out.size hk, HC.out, HBW.out⟩
  | false =>
    have HF : Hid (fCommonOf x0 x1 = ([], false)) := by show _ = _; unfold fCommonOf; rw [if_neg (by rw [hq]; decide)]
    clear hq hcl hb
    go_wp2
    refine bodyPost_ret (v := .tuple #[.slice none 0 0, .bool false]) (by simp [results, Try.results19, go_sem]) rfl ?_
    unfold RCommonOf
    rw [HF.out]
    exact ⟨none, 0, 0, fun _ => False, rfl, row_nil _ _ _ _ _ _, fun k hk => hk.elim, by simp [sums], HB.out⟩
end Go.Proofs.Ytpcncdddikmdbaa
