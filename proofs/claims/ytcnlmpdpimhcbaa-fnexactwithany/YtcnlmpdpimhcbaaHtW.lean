/- Texts that have all, any or none of the words: the specification's. No condition but that they fit in memory. -/
import Derived.Test.YtcnlmpdpimhcbaaHtI
namespace Go.Proofs.Ytcnlmpdpimhcbaa
open Go.RowKit
set_option linter.unusedVariables false

set_option maxRecDepth 100000 in
set_option maxHeartbeats 4000000 in
theorem specWithAll_k (x0 : DWords) (C0 : List Value) (S0 : Nat → Prop) (x1 : List ByteArray) (a1 : Option Addr) (n1 c1 : Nat) (S1 : Nat → Prop) (w : World) (h0 : kWords.is false w S0 C0 x0) (z0 : kWords.sz x0 ≤ 2 ^ 20) (h1 : (kRow kStr).is false w S1 [.slice a1 n1 c1] x1) (z1 : (kRow kStr).sz x1 ≤ 2 ^ 20) :
    Calls Try.prog 31 #[.agg C0.toArray, .slice a1 n1 c1] w (RWithAll x0 x1 w) := by
  obtain ⟨tx, es⟩ := x0
  have HK : Hid (kWords.is false w S0 C0 (tx, es)) := h0
  obtain ⟨a, c, T, rfl, g0, hmx, hr, _⟩ := kWords_open h0
  have HZ0 : Hid (kWords.sz (tx, es) ≤ 2 ^ 20) := z0
  have HZ1 : Hid ((kRow kStr).sz x1 ≤ 2 ^ 20) := z1
  have HW : Hid ((kRow kStr).is false w S1 [.slice a1 n1 c1] x1) := h1
  have HN1 : Hid (n1 = x1.length) := row_len h1
  clear h0 z0 h1 z1 hr
  show Calls Try.prog 31 #[.agg #[.int .i64 tx, .slice a es.length c], .slice a1 n1 c1] w (RWith (fun n => decide (n = (x1.length : Int))) (tx, es) x1 w)
  go_enter Try.func31, Try.ntmps31
  go_wp2_with fail
  refine (l10Marks_k (tx, es) [.int .i64 tx, .slice a es.length c] S0 S1 x1 a1 n1 c1 _ (Kd.below HK.out (below_a1 _ _)) HZ0.out (Kd.below HW.out (below_a1 _ _)) HZ1.out).mono ?_
  rintro e Wz (⟨hno, rfl, hb1⟩ | ⟨g, M, hM, rfl, hgw, hMk, hbn, hM40, hb1⟩)
  · have HNO : Hid (fMarks (tx, es) x1 = none) := hno
    have HB : Hid (Below w.heap.size w Wz) := (below_a1 _ _).trans (hb1.mono (by simp))
    clear hno hb1
    go_wp2_with fail
    go_rounds 1
    refine bodyPost_ret (v := .tuple #[.slice none 0 0, .bool false]) (by simp [results, Try.results31, go_sem]) rfl ?_
    exact RWith.no HNO.out HB.out
  · have HMM : Hid (fMarks (tx, es) x1 = some M) := hM
    have HBR : Hid (Below w.heap.size w Wz) := (below_a1 _ _).trans (hb1.mono (by simp))
    have HM : Hid (MkAt Wz g M) := hMk
    have HBO : Hid (BndM M (2 ^ 30)) := hbn
    have hgr : g < Wz.heap.size := hMk.1
    have zwz : w.heap.size ≤ Wz.heap.size := HBR.out.size
    obtain ⟨t, ht⟩ : ∃ t, t = M.length := ⟨_, rfl⟩
    have hMt : Hid (M.length = t) := ht.symm
    rw [← ht] at hM40 ⊢
    obtain ⟨GL, hGL⟩ : ∃ GL, GL = pickL (fun n => decide (n = (x1.length : Int))) 0 M := ⟨_, rfl⟩
    have HGL : Hid (GL = pickL (fun n => decide (n = (x1.length : Int))) 0 M) := hGL
    clear hGL hM hb1 hMk hbn ht hgw
    go_wp2_with fail
    go_loopw [8, 19] (fun ov kv wq => ∃ (p : Nat) (L : List Int), p ≤ t ∧ kv = .int .i64 p ∧ L.length ≤ p ∧ Hid (L ++ pickL (fun n => decide (n = (x1.length : Int))) p (M.drop p) = GL) ∧ Hid (OwnL (fun y => [.int .i64 y]) 3 1 wq Wz.heap.size ov L) ∧ Below Wz.heap.size Wz wq) (fun _ kv _ => t - (intOf kv).toNat)
    case atStart => exact ⟨0, [], Nat.zero_le _, rfl, Nat.le_refl _, by show _ = _; rw [HGL.out]; simp, OwnL.nil _ _ _ _ _, Below.refl _ _⟩
    case round =>
      obtain ⟨p, L, hp, rfl, hLp, HI, HO, hnx⟩ := hrel
      obtain ⟨oa, oc, hov, _⟩ := HO.out.form
      subst hov
      obtain ⟨ml, hml⟩ : ∃ ml, ml = L.length := ⟨_, rfl⟩
      have HML : Hid (ml = L.length) := hml
      rw [← hml] at HO hLp ⊢
      clear hml
      have zq := hnx.size
      by_cases hpt : p < t
      · obtain ⟨y, hy⟩ : ∃ y, M[p]? = some y := ⟨_, List.getElem?_eq_getElem (by have := hMt.out; omega)⟩
        obtain ⟨y0, y1⟩ := HBO.out.at hy
        have A0 : wr.cell? ⟨g, p, none⟩ = some (.int .i64 y) := ((HM.out.belowB hgr hnx).2 p y hy).1
        have HI1 : Hid (L ++ (if (fun n => decide (n = (x1.length : Int))) y = true then (p : Int) :: pickL (fun n => decide (n = (x1.length : Int))) (p + 1) (M.drop (p + 1)) else pickL (fun n => decide (n = (x1.length : Int))) (p + 1) (M.drop (p + 1))) = GL) := by have := HI.out; rw [pick_drop (fun n => decide (n = (x1.length : Int))) hy] at this; exact this
        have p0 : (0 : Int) ≤ (p : Int) := by omega
        have p1 : (p : Int) < (t : Int) := by omega
        have HBQ : Hid (Below Wz.heap.size Wz wr) := hnx
        clear hy HI hnx
        by_cases hf : (fun n => decide (n = (x1.length : Int))) y = true
        · have HI2 : Hid (L ++ (p : Int) :: pickL (fun n => decide (n = (x1.length : Int))) (p + 1) (M.drop (p + 1)) = GL) := by have := HI1.out; rw [if_pos hf] at this; exact this
          clear HI1
          have fy : (y == (n1 : Int)) = true := by have h := hf; simp only [decide_eq_true_eq] at h; rw [h, HN1.out]; simp
          clear hf
          go_wp2_with (at_builtin; refine app_int rfl _ _ rfl Wz.heap.size _ L rfl (OwnL.below HO.out (below_a1 _ _)) _ (p : Int) rfl (cell_a1 _ _ _) (by rw [← HML.out]; omega) (by simp; omega) ?_)
          intro v3 w3 ho3 hb3 hz3
          have HO3 : Hid (OwnL (fun y => [.int .i64 y]) 3 1 w3 Wz.heap.size v3 (L ++ [(p : Int)])) := ho3
          have HB3 : Hid (Below Wz.heap.size Wz w3) := (HBQ.out.alloc (by omega) _).trans hb3
          clear ho3 hb3 hz3
          go_wp2_with fail
          go_roundw
          case rel => exact ⟨p + 1, L ++ [(p : Int)], by omega, by go_num, by have := HML.out; simp; omega, by show _ = _; rw [← HI2.out]; simp, HO3, HB3.out⟩
          case measure => simp [intOf]; omega
        · have HI2 : Hid (L ++ pickL (fun n => decide (n = (x1.length : Int))) (p + 1) (M.drop (p + 1)) = GL) := by have := HI1.out; rw [if_neg hf] at this; exact this
          clear HI1
          have fy : (y == (n1 : Int)) = false := by have h := hf; simp only [decide_eq_true_eq] at h; rw [HN1.out]; simpa using h
          clear hf
          go_wp2
          go_roundw
          case rel => exact ⟨p + 1, L, by omega, by go_num, by have := HML.out; omega, HI2, HO, HBQ.out⟩
          case measure => simp [intOf]; omega
      · have HE2 : Hid (L = GL) := by have := HI.out; rw [List.drop_eq_nil_of_le (by have := hMt.out; omega), pickL, List.append_nil] at this; exact this
        have p1 : ¬ (p : Int) < (t : Int) := by omega
        have HBF : Hid (Below w.heap.size w wr) := HBR.out.trans (hnx.mono zwz)
        clear HI hnx
        go_wp2
        refine bodyPost_ret (v := .tuple #[.slice oa ml oc, .bool true]) (by simp [results, Try.results31, go_sem]) rfl ?_
        exact RWith.yes HMM.out (by have := hMt.out; omega) (by rw [HE2.out, HGL.out]) zwz HO.out HBF.out

set_option maxRecDepth 100000 in
set_option maxHeartbeats 4000000 in
theorem specWithAny_k (x0 : DWords) (C0 : List Value) (S0 : Nat → Prop) (x1 : List ByteArray) (a1 : Option Addr) (n1 c1 : Nat) (S1 : Nat → Prop) (w : World) (h0 : kWords.is false w S0 C0 x0) (z0 : kWords.sz x0 ≤ 2 ^ 20) (h1 : (kRow kStr).is false w S1 [.slice a1 n1 c1] x1) (z1 : (kRow kStr).sz x1 ≤ 2 ^ 20) :
    Calls Try.prog 37 #[.agg C0.toArray, .slice a1 n1 c1] w (RWithAny x0 x1 w) := by
  obtain ⟨tx, es⟩ := x0
  have HK : Hid (kWords.is false w S0 C0 (tx, es)) := h0
  obtain ⟨a, c, T, rfl, g0, hmx, hr, _⟩ := kWords_open h0
  have HZ0 : Hid (kWords.sz (tx, es) ≤ 2 ^ 20) := z0
  have HZ1 : Hid ((kRow kStr).sz x1 ≤ 2 ^ 20) := z1
  have HW : Hid ((kRow kStr).is false w S1 [.slice a1 n1 c1] x1) := h1
  have HN1 : Hid (n1 = x1.length) := row_len h1
  clear h0 z0 h1 z1 hr
  show Calls Try.prog 37 #[.agg #[.int .i64 tx, .slice a es.length c], .slice a1 n1 c1] w (RWith (fun n => decide ((0 : Int) < n)) (tx, es) x1 w)
  go_enter Try.func37, Try.ntmps37
  go_wp2_with fail
  refine (l10Marks_k (tx, es) [.int .i64 tx, .slice a es.length c] S0 S1 x1 a1 n1 c1 _ (Kd.below HK.out (below_a1 _ _)) HZ0.out (Kd.below HW.out (below_a1 _ _)) HZ1.out).mono ?_
  rintro e Wz (⟨hno, rfl, hb1⟩ | ⟨g, M, hM, rfl, hgw, hMk, hbn, hM40, hb1⟩)
  · have HNO : Hid (fMarks (tx, es) x1 = none) := hno
    have HB : Hid (Below w.heap.size w Wz) := (below_a1 _ _).trans (hb1.mono (by simp))
    clear hno hb1
    go_wp2_with fail
    go_rounds 1
    refine bodyPost_ret (v := .tuple #[.slice none 0 0, .bool false]) (by simp [results, Try.results37, go_sem]) rfl ?_
    exact RWith.no HNO.out HB.out
  · have HMM : Hid (fMarks (tx, es) x1 = some M) := hM
    have HBR : Hid (Below w.heap.size w Wz) := (below_a1 _ _).trans (hb1.mono (by simp))
    have HM : Hid (MkAt Wz g M) := hMk
    have HBO : Hid (BndM M (2 ^ 30)) := hbn
    have hgr : g < Wz.heap.size := hMk.1
    have zwz : w.heap.size ≤ Wz.heap.size := HBR.out.size
    obtain ⟨t, ht⟩ : ∃ t, t = M.length := ⟨_, rfl⟩
    have hMt : Hid (M.length = t) := ht.symm
    rw [← ht] at hM40 ⊢
    obtain ⟨GL, hGL⟩ : ∃ GL, GL = pickL (fun n => decide ((0 : Int) < n)) 0 M := ⟨_, rfl⟩
    have HGL : Hid (GL = pickL (fun n => decide ((0 : Int) < n)) 0 M) := hGL
    clear hGL hM hb1 hMk hbn ht hgw
    go_wp2_with fail
    go_loopw [8, 19] (fun ov kv wq => ∃ (p : Nat) (L : List Int), p ≤ t ∧ kv = .int .i64 p ∧ L.length ≤ p ∧ Hid (L ++ pickL (fun n => decide ((0 : Int) < n)) p (M.drop p) = GL) ∧ Hid (OwnL (fun y => [.int .i64 y]) 3 1 wq Wz.heap.size ov L) ∧ Below Wz.heap.size Wz wq) (fun _ kv _ => t - (intOf kv).toNat)
    case atStart => exact ⟨0, [], Nat.zero_le _, rfl, Nat.le_refl _, by show _ = _; rw [HGL.out]; simp, OwnL.nil _ _ _ _ _, Below.refl _ _⟩
    case round =>
      obtain ⟨p, L, hp, rfl, hLp, HI, HO, hnx⟩ := hrel
      obtain ⟨oa, oc, hov, _⟩ := HO.out.form
      subst hov
      obtain ⟨ml, hml⟩ : ∃ ml, ml = L.length := ⟨_, rfl⟩
      have HML : Hid (ml = L.length) := hml
      rw [← hml] at HO hLp ⊢
      clear hml
      have zq := hnx.size
      by_cases hpt : p < t
      · obtain ⟨y, hy⟩ : ∃ y, M[p]? = some y := ⟨_, List.getElem?_eq_getElem (by have := hMt.out; omega)⟩
        obtain ⟨y0, y1⟩ := HBO.out.at hy
        have A0 : wr.cell? ⟨g, p, none⟩ = some (.int .i64 y) := ((HM.out.belowB hgr hnx).2 p y hy).1
        have HI1 : Hid (L ++ (if (fun n => decide ((0 : Int) < n)) y = true then (p : Int) :: pickL (fun n => decide ((0 : Int) < n)) (p + 1) (M.drop (p + 1)) else pickL (fun n => decide ((0 : Int) < n)) (p + 1) (M.drop (p + 1))) = GL) := by have := HI.out; rw [pick_drop (fun n => decide ((0 : Int) < n)) hy] at this; exact this
        have p0 : (0 : Int) ≤ (p : Int) := by omega
        have p1 : (p : Int) < (t : Int) := by omega
        have HBQ : Hid (Below Wz.heap.size Wz wr) := hnx
        clear hy HI hnx
        by_cases hf : (fun n => decide ((0 : Int) < n)) y = true
        · have HI2 : Hid (L ++ (p : Int) :: pickL (fun n => decide ((0 : Int) < n)) (p + 1) (M.drop (p + 1)) = GL) := by have := HI1.out; rw [if_pos hf] at this; exact this
          clear HI1
          have fy : (0 : Int) < y := by have h := hf; simpa using h
          clear hf
          go_wp2_with (at_builtin; refine app_int rfl _ _ rfl Wz.heap.size _ L rfl (OwnL.below HO.out (below_a1 _ _)) _ (p : Int) rfl (cell_a1 _ _ _) (by rw [← HML.out]; omega) (by simp; omega) ?_)
          intro v3 w3 ho3 hb3 hz3
          have HO3 : Hid (OwnL (fun y => [.int .i64 y]) 3 1 w3 Wz.heap.size v3 (L ++ [(p : Int)])) := ho3
          have HB3 : Hid (Below Wz.heap.size Wz w3) := (HBQ.out.alloc (by omega) _).trans hb3
          clear ho3 hb3 hz3
          go_wp2_with fail
          go_roundw
          case rel => exact ⟨p + 1, L ++ [(p : Int)], by omega, by go_num, by have := HML.out; simp; omega, by show _ = _; rw [← HI2.out]; simp, HO3, HB3.out⟩
          case measure => simp [intOf]; omega
        · have HI2 : Hid (L ++ pickL (fun n => decide ((0 : Int) < n)) (p + 1) (M.drop (p + 1)) = GL) := by have := HI1.out; rw [if_neg hf] at this; exact this
          clear HI1
          have fy : ¬ (0 : Int) < y := by have h := hf; simpa using h
          clear hf
          go_wp2
          go_roundw
          case rel => exact ⟨p + 1, L, by omega, by go_num, by have := HML.out; omega, HI2, HO, HBQ.out⟩
          case measure => simp [intOf]; omega
      · have HE2 : Hid (L = GL) := by have := HI.out; rw [List.drop_eq_nil_of_le (by have := hMt.out; omega), pickL, List.append_nil] at this; exact this
        have p1 : ¬ (p : Int) < (t : Int) := by omega
        have HBF : Hid (Below w.heap.size w wr) := HBR.out.trans (hnx.mono zwz)
        clear HI hnx
        go_wp2
        refine bodyPost_ret (v := .tuple #[.slice oa ml oc, .bool true]) (by simp [results, Try.results37, go_sem]) rfl ?_
        exact RWith.yes HMM.out (by have := hMt.out; omega) (by rw [HE2.out, HGL.out]) zwz HO.out HBF.out

set_option maxRecDepth 100000 in
set_option maxHeartbeats 4000000 in
theorem specWithout_k (x0 : DWords) (C0 : List Value) (S0 : Nat → Prop) (x1 : List ByteArray) (a1 : Option Addr) (n1 c1 : Nat) (S1 : Nat → Prop) (w : World) (h0 : kWords.is false w S0 C0 x0) (z0 : kWords.sz x0 ≤ 2 ^ 20) (h1 : (kRow kStr).is false w S1 [.slice a1 n1 c1] x1) (z1 : (kRow kStr).sz x1 ≤ 2 ^ 20) :
    Calls Try.prog 39 #[.agg C0.toArray, .slice a1 n1 c1] w (RWithout x0 x1 w) := by
  obtain ⟨tx, es⟩ := x0
  have HK : Hid (kWords.is false w S0 C0 (tx, es)) := h0
  obtain ⟨a, c, T, rfl, g0, hmx, hr, _⟩ := kWords_open h0
  have HZ0 : Hid (kWords.sz (tx, es) ≤ 2 ^ 20) := z0
  have HZ1 : Hid ((kRow kStr).sz x1 ≤ 2 ^ 20) := z1
  have HW : Hid ((kRow kStr).is false w S1 [.slice a1 n1 c1] x1) := h1
  have HN1 : Hid (n1 = x1.length) := row_len h1
  clear h0 z0 h1 z1 hr
  show Calls Try.prog 39 #[.agg #[.int .i64 tx, .slice a es.length c], .slice a1 n1 c1] w (RWith (fun n => decide (n = 0)) (tx, es) x1 w)
  go_enter Try.func39, Try.ntmps39
  go_wp2_with fail
  refine (l10Marks_k (tx, es) [.int .i64 tx, .slice a es.length c] S0 S1 x1 a1 n1 c1 _ (Kd.below HK.out (below_a1 _ _)) HZ0.out (Kd.below HW.out (below_a1 _ _)) HZ1.out).mono ?_
  rintro e Wz (⟨hno, rfl, hb1⟩ | ⟨g, M, hM, rfl, hgw, hMk, hbn, hM40, hb1⟩)
  · have HNO : Hid (fMarks (tx, es) x1 = none) := hno
    have HB : Hid (Below w.heap.size w Wz) := (below_a1 _ _).trans (hb1.mono (by simp))
    clear hno hb1
    go_wp2_with fail
    go_rounds 1
    refine bodyPost_ret (v := .tuple #[.slice none 0 0, .bool false]) (by simp [results, Try.results39, go_sem]) rfl ?_
    exact RWith.no HNO.out HB.out
  · have HMM : Hid (fMarks (tx, es) x1 = some M) := hM
    have HBR : Hid (Below w.heap.size w Wz) := (below_a1 _ _).trans (hb1.mono (by simp))
    have HM : Hid (MkAt Wz g M) := hMk
    have HBO : Hid (BndM M (2 ^ 30)) := hbn
    have hgr : g < Wz.heap.size := hMk.1
    have zwz : w.heap.size ≤ Wz.heap.size := HBR.out.size
    obtain ⟨t, ht⟩ : ∃ t, t = M.length := ⟨_, rfl⟩
    have hMt : Hid (M.length = t) := ht.symm
    rw [← ht] at hM40 ⊢
    obtain ⟨GL, hGL⟩ : ∃ GL, GL = pickL (fun n => decide (n = 0)) 0 M := ⟨_, rfl⟩
    have HGL : Hid (GL = pickL (fun n => decide (n = 0)) 0 M) := hGL
    clear hGL hM hb1 hMk hbn ht hgw
    go_wp2_with fail
    go_loopw [8, 19] (fun ov kv wq => ∃ (p : Nat) (L : List Int), p ≤ t ∧ kv = .int .i64 p ∧ L.length ≤ p ∧ Hid (L ++ pickL (fun n => decide (n = 0)) p (M.drop p) = GL) ∧ Hid (OwnL (fun y => [.int .i64 y]) 3 1 wq Wz.heap.size ov L) ∧ Below Wz.heap.size Wz wq) (fun _ kv _ => t - (intOf kv).toNat)
    case atStart => exact ⟨0, [], Nat.zero_le _, rfl, Nat.le_refl _, by show _ = _; rw [HGL.out]; simp, OwnL.nil _ _ _ _ _, Below.refl _ _⟩
    case round =>
      obtain ⟨p, L, hp, rfl, hLp, HI, HO, hnx⟩ := hrel
      obtain ⟨oa, oc, hov, _⟩ := HO.out.form
      subst hov
      obtain ⟨ml, hml⟩ : ∃ ml, ml = L.length := ⟨_, rfl⟩
      have HML : Hid (ml = L.length) := hml
      rw [← hml] at HO hLp ⊢
      clear hml
      have zq := hnx.size
      by_cases hpt : p < t
      · obtain ⟨y, hy⟩ : ∃ y, M[p]? = some y := ⟨_, List.getElem?_eq_getElem (by have := hMt.out; omega)⟩
        obtain ⟨y0, y1⟩ := HBO.out.at hy
        have A0 : wr.cell? ⟨g, p, none⟩ = some (.int .i64 y) := ((HM.out.belowB hgr hnx).2 p y hy).1
        have HI1 : Hid (L ++ (if (fun n => decide (n = 0)) y = true then (p : Int) :: pickL (fun n => decide (n = 0)) (p + 1) (M.drop (p + 1)) else pickL (fun n => decide (n = 0)) (p + 1) (M.drop (p + 1))) = GL) := by have := HI.out; rw [pick_drop (fun n => decide (n = 0)) hy] at this; exact this
        have p0 : (0 : Int) ≤ (p : Int) := by omega
        have p1 : (p : Int) < (t : Int) := by omega
        have HBQ : Hid (Below Wz.heap.size Wz wr) := hnx
        clear hy HI hnx
        by_cases hf : (fun n => decide (n = 0)) y = true
        · have HI2 : Hid (L ++ (p : Int) :: pickL (fun n => decide (n = 0)) (p + 1) (M.drop (p + 1)) = GL) := by have := HI1.out; rw [if_pos hf] at this; exact this
          clear HI1
          have fy : (y == 0) = true := by have h := hf; simpa using h
          clear hf
          go_wp2_with (at_builtin; refine app_int rfl _ _ rfl Wz.heap.size _ L rfl (OwnL.below HO.out (below_a1 _ _)) _ (p : Int) rfl (cell_a1 _ _ _) (by rw [← HML.out]; omega) (by simp; omega) ?_)
          intro v3 w3 ho3 hb3 hz3
          have HO3 : Hid (OwnL (fun y => [.int .i64 y]) 3 1 w3 Wz.heap.size v3 (L ++ [(p : Int)])) := ho3
          have HB3 : Hid (Below Wz.heap.size Wz w3) := (HBQ.out.alloc (by omega) _).trans hb3
          clear ho3 hb3 hz3
          go_wp2_with fail
          go_roundw
          case rel => exact ⟨p + 1, L ++ [(p : Int)], by omega, by go_num, by have := HML.out; simp; omega, by show _ = _; rw [← HI2.out]; simp, HO3, HB3.out⟩
          case measure => simp [intOf]; omega
        · have HI2 : Hid (L ++ pickL (fun n => decide (n = 0)) (p + 1) (M.drop (p + 1)) = GL) := by have := HI1.out; rw [if_neg hf] at this; exact this
          clear HI1
          have fy : (y == 0) = false := by have h := hf; simpa using h
          clear hf
          go_wp2
          go_roundw
          case rel => exact ⟨p + 1, L, by omega, by go_num, by have := HML.out; omega, HI2, HO, HBQ.out⟩
          case measure => simp [intOf]; omega
      · have HE2 : Hid (L = GL) := by have := HI.out; rw [List.drop_eq_nil_of_le (by have := hMt.out; omega), pickL, List.append_nil] at this; exact this
        have p1 : ¬ (p : Int) < (t : Int) := by omega
        have HBF : Hid (Below w.heap.size w wr) := HBR.out.trans (hnx.mono zwz)
        clear HI hnx
        go_wp2
        refine bodyPost_ret (v := .tuple #[.slice oa ml oc, .bool true]) (by simp [results, Try.results39, go_sem]) rfl ?_
        exact RWith.yes HMM.out (by have := hMt.out; omega) (by rw [HE2.out, HGL.out]) zwz HO.out HBF.out
end Go.Proofs.Ytcnlmpdpimhcbaa
