/- int: how it lies in memory, and what the laws' helpers do with it. No condition. -/
import Derived.Test.YtdlodeklheapgaaKd
namespace Go.Proofs.Ytdlodeklheapgaa
open Go.RowKit
set_option linter.unusedVariables false

set_option maxRecDepth 100000 in
set_option maxHeartbeats 2000000 in
theorem eqIntS_k (l : List Int) (a1 a2 : Option Addr) (n c1 c2 : Nat) (S1 S2 : Nat → Prop) (w : World) (h1 : (kRow kInt).is false w S1 [.slice a1 n c1] l) (h2 : (kRow kInt).is false w S2 [.slice a2 n c2] l) :
    Calls Try.prog 136 #[.slice a1 n c1, .slice a2 n c2] w fun e w' => e = .returned (.bool true) ∧ Below w.heap.size w w' := by
  have hnl := row_len h1
  have hmx : n ≤ 9223372036854775807 := by obtain ⟨_, _, _, h, _⟩ := row_form h1; rw [hnl]; exact h
  have HNL : Hid (n = l.length) := hnl
  clear hnl
  have H1 : Hid ((kRow kInt).is false w S1 [.slice a1 n c1] l) := h1
  have H2 : Hid ((kRow kInt).is false w S2 [.slice a2 n c2] l) := h2
  clear h1 h2
  go_enter Try.func136, Try.ntmps136
  go_wp2_with fail
  go_loopw [5] (fun i wr => ∃ k : Nat, k ≤ n ∧ i = .int .i64 k ∧ Below w.heap.size w wr) (fun i _ => n - (intOf i).toNat)
  case atStart => exact ⟨0, Nat.zero_le _, rfl, Below.refl _ _⟩
  case round =>
    obtain ⟨k, hk, rfl, hnx⟩ := hrel
    by_cases hlt : k < n
    · obtain ⟨x, hx⟩ : ∃ x, l[k]? = some x := ⟨_, List.getElem?_eq_getElem (by rw [← HNL.out]; exact hlt)⟩
      obtain ⟨b, off, B, C, rfl, hb, _, hi, _, hc⟩ := row_at (Kd.below H1.out hnx) hx
      obtain ⟨b', off', B', C', rfl, hb', _, hi', _, hc'⟩ := row_at (Kd.below H2.out hnx) hx
      obtain ⟨rfl, g0⟩ := hi
      obtain ⟨rfl, _⟩ := hi'
      have A0 : wr.cell? ⟨b, off + k, none⟩ = some (.int .i64 x) := by have := (hc 0 _ rfl).1; simpa [kInt, kStr, kBool] using this
      have D0 : wr.cell? ⟨b', off' + k, none⟩ = some (.int .i64 x) := by have := (hc' 0 _ rfl).1; simpa [kInt, kStr, kBool] using this
      have i0 : (0 : Int) ≤ (k : Int) := by omega
      have i1 : (k : Int) < (n : Int) := by omega
      clear hc hc'
      go_wp2_with fail
      go_region_held3 (fun w' => w'.cell? ⟨b, off + k, none⟩ = some (.int .i64 x) ∧ w'.cell? ⟨b', off' + k, none⟩ = some (.int .i64 x)) (exact ⟨A0, D0⟩) (fail)
      go_wp2
      go_roundw
      case rel => exact ⟨k + 1, by omega, by go_num, hnx.drew⟩
      case measure => simp [intOf]; omega
    · go_wp2
      go_ret
      exact ⟨rfl, hnx⟩

set_option maxRecDepth 100000 in
set_option maxHeartbeats 1000000 in
theorem szIntS_k (l : List Int) (a : Option Addr) (n c : Nat) (S : Nat → Prop) (left : Int) (w : World) (hl0 : 0 ≤ left) (hl1 : left ≤ 2 ^ 20) (h : (kRow kInt).is false w S [.slice a n c] l) :
    Calls Try.prog 137 #[.slice a n c, .int .i64 left] w fun e w' => ∃ r : Int, e = .returned (.int .i64 r) ∧ (r = -1 ∨ (0 ≤ r ∧ r + ((kRow kInt).sz l : Nat) = left)) ∧ Below w.heap.size w w' := by
  have hnl := row_len h
  have hmx : n ≤ 9223372036854775807 := by obtain ⟨_, _, _, h, _⟩ := row_form h; rw [hnl]; exact h
  have HNL : Hid (n = l.length) := hnl
  have HSZ : Hid ((kRow kInt).sz l = l.length + sums kInt.sz l) := rfl
  have H : Hid ((kRow kInt).is false w S [.slice a n c] l) := h
  clear h hnl
  by_cases c0 : left - (n : Int) < 0
  · go_enter Try.func137, Try.ntmps137
    go_wp2
    go_ret
    exact ⟨-1, rfl, .inl rfl, by go_grown⟩
  · go_enter Try.func137, Try.ntmps137
    go_wp2
    go_ret
    refine ⟨left - (n : Int), rfl, .inr ⟨by omega, ?_⟩, by go_grown⟩
    have h0 : sums kInt.sz l = 0 := sums_zero l
    rw [HSZ.out, h0, ← HNL.out]
    omega

theorem infoIntS : (Try.prog.info? 3).map (fun i => (i.zero, i.size, i.bytes)) = some (some (.int .i64 0), 1, 8) := by kernel_rfl
theorem makeIntS (n : Nat) (hn : n ≤ 2 ^ 30) (W : World) : (Instr.makeSlice 79 (.int .i64 (n : Int)) (.int .i64 (n : Int))).run Try.prog W = .ok (.slice (some ⟨W.heap.size, 0, none⟩) n n) (W.alloc (.cells (madeCells #[.int .i64 0] (n)) 3)) := by
  obtain ⟨i0, hi, hz0, hz1, hz2⟩ := info_parts infoIntS
  have h := run_make (P := Try.prog) W 79 3 i0 _ Try.underlying79 hi hz0 .i64 .i64 n n (by omega) (by omega) (by rw [hz2]; omega) (by omega)
  rw [hz1] at h
  simpa [Value.cells] using h
set_option maxRecDepth 100000 in
set_option maxHeartbeats 2000000 in
theorem toIntS_k (l : List Int) (a : Option Addr) (n c : Nat) (S : Nat → Prop) (w : World) (h : (kRow kInt).is false w S [.slice a n c] l) (hs : (kRow kInt).sz l ≤ 2 ^ 20) :
    Calls Try.prog 138 #[.slice a n c] w fun e w' => ∃ a', e = .returned (.slice a' n n) ∧ (kRow kInt).is true w' (fun k => w.heap.size ≤ k) [.slice a' n n] l ∧ w.heap.size < w'.heap.size ∧ Below w.heap.size w w' := by
  have hnl := row_len h
  have HSZ : Hid (l.length + sums kInt.sz l ≤ 2 ^ 20) := hs
  have n20 : n ≤ 2 ^ 20 := by have := HSZ.out; omega
  have HNL : Hid (n = l.length) := hnl
  have H : Hid ((kRow kInt).is false w S [.slice a n c] l) := h
  clear h hnl hs
  have hmk := makeIntS n (by omega)
  obtain ⟨W, hW⟩ : ∃ W, W = w.alloc (.cells (madeCells #[.int .i64 0] (n)) 3) := ⟨_, rfl⟩
  have HN : Hid (FillO kInt W w.heap.size n []) := by
    refine FillO.start _ (by rw [hW]; simp) fun o ho => ?_
    have ho' : o < n := by simpa [kInt] using ho
    rw [hW, World.cell?_alloc_new]
    exact ⟨by simp [madeCells, ho'], World.frozen?_alloc_new _ _ _ _⟩
  have hsz : w.heap.size < W.heap.size := by rw [hW]; simp
  have hbl : Below w.heap.size w W := by rw [hW]; go_grown
  have hmw := hmk w
  rw [← hW] at hmw
  clear hmk hW
  go_enter Try.func138, Try.ntmps138
  go_wp2_with fail
  go_loopw [4] (fun i wr => ∃ k : Nat, k ≤ n ∧ i = .int .i64 k ∧ w.heap.size < wr.heap.size ∧ Below w.heap.size w wr ∧ Hid (FillO kInt wr w.heap.size n (l.take k))) (fun i _ => n - (intOf i).toNat)
  case atStart => exact ⟨0, Nat.zero_le _, rfl, hsz, hbl, by show FillO _ _ _ _ _; simpa using HN.out⟩
  case round =>
    obtain ⟨k, hk, rfl, hz, hnx, HF⟩ := hrel
    by_cases hlt : k < n
    · obtain ⟨x, hx⟩ : ∃ x, l[k]? = some x := ⟨_, List.getElem?_eq_getElem (by rw [← HNL.out]; exact hlt)⟩
      have HT : Hid (l.take (k + 1) = l.take k ++ [x]) := by show _ = _; rw [List.take_add_one, hx]; rfl
      have HKL : Hid ((l.take k).length = k) := by show _ = _; rw [List.length_take, ← HNL.out]; omega
      have HXS : Hid (kInt.sz x ≤ 2 ^ 20) := by have := sums_ge kInt.sz l k x hx; have := HSZ.out; show _ ≤ _; omega
      obtain ⟨b, off, B, C, rfl, hb, _, hi, _, hc⟩ := row_at (Kd.below H.out hnx) hx
      obtain ⟨rfl, g0⟩ := hi
      have A0 : wr.cell? ⟨b, off + k, none⟩ = some (.int .i64 x) := by have := (hc 0 _ rfl).1; simpa [kInt, kStr, kBool] using this
      have i0 : (0 : Int) ≤ (k : Int) := by omega
      have i1 : (k : Int) < (n : Int) := by omega
      obtain ⟨u0, hu0⟩ := Option.isSome_iff_exists.1 (HF.out.room (k) (by show _ < n * 1; omega)).1
      have f0 := (HF.out.room (k) (by show _ < n * 1; omega)).2
      clear hc hx
      go_wp2
      obtain ⟨r1, r2⟩ := FillO.next (x := x) (vs := [.int .i64 x]) HF.out (by rw [HKL.out]; exact hlt) (Below.refl _ _) ⟨rfl, g0⟩ rfl
      rw [HKL.out, ← HT.out] at r1
      rw [HKL.out] at r2
      simp only [putCells, kInt, Nat.mul_one] at r1 r2
      go_roundw
      case rel => exact ⟨k + 1, by omega, by go_num, by have := r2.size; omega, hnx.trans (r2.below hnx.size (Nat.le_refl _)), r1⟩
      case measure => simp [intOf]; omega
    · go_wp2
      go_ret
      obtain rfl : k = n := by omega
      have hf := HF.out
      rw [HNL.out, List.take_length] at hf
      exact ⟨_, rfl, by rw [HNL.out]; exact hf.done rfl (by unfold maxLen; have := HNL.out; omega) (fun k hk _ => hk), hz, hnx⟩

set_option maxRecDepth 100000 in
set_option maxHeartbeats 2000000 in
theorem markIntS_k (l : List Int) (a : Option Addr) (n c : Nat) (S : Nat → Prop) (k0 : Int) (w : World) (hk0 : 0 < k0) (hk1 : k0 + (sums kInt.cnt l : Nat) ≤ 2 ^ 31) (h : (kRow kInt).is true w S [.slice a n c] l) :
    Calls Try.prog 122 #[.slice a n c, .int .i64 k0] w fun e w' => e = .returned (.int .i64 (k0 + (sums kInt.cnt l : Nat))) ∧ KeptO S w w' ∧ (kRow kInt).is true w' S [.slice a n c] (mks kInt l k0) := by
  have hnl := row_len h
  have hmx : n ≤ 9223372036854775807 := by obtain ⟨_, _, _, h, _⟩ := row_form h; rw [hnl]; exact h
  have HNL : Hid (n = l.length) := hnl
  have HCN : Hid (k0 + (sums kInt.cnt l : Nat) ≤ 2 ^ 31) := hk1
  have H : Hid ((kRow kInt).is true w S [.slice a n c] l) := h
  clear h hnl hk1
  go_enter Try.func122, Try.ntmps122
  go_wp2_with fail
  go_loopw [1, 5] (fun q i wr => ∃ (k : Nat) (r : Int), k ≤ n ∧ i = .int .i64 k ∧ q = .int .i64 r ∧ 0 < r ∧ r ≤ 2 ^ 31 ∧ Hid (r = k0 + (sums kInt.cnt (l.take k) : Nat)) ∧ KeptO S w wr ∧ Hid ((kRow kInt).is true wr S [.slice a n c] (mkTil kInt l k0 k))) (fun _ i _ => n - (intOf i).toNat)
  case atStart => exact ⟨0, k0, Nat.zero_le _, rfl, rfl, hk0, by have := HCN.out; omega, by show _ = _; simp [sums], KeptO.refl _ _, by show Kd.is _ _ _ _ _ _; rw [mkTil_zero]; exact H.out⟩
  case round =>
    obtain ⟨k, r, hk, rfl, rfl, hr0, hr1, HR, hnx, HM⟩ := hrel
    by_cases hlt : k < n
    · obtain ⟨x, hx⟩ : ∃ x, l[k]? = some x := ⟨_, List.getElem?_eq_getElem (by rw [← HNL.out]; exact hlt)⟩
      have HN : Hid (sums kInt.cnt (l.take (k + 1)) = sums kInt.cnt (l.take k) + kInt.cnt x) := sums_next _ l k x hx
      have HE : Hid ((mkTil kInt l k0 k).set k (kInt.mrk x r) = mkTil kInt l k0 (k + 1)) := by show _ = _; rw [HR.out]; exact mkTil_next kInt l k0 k x hx
      have HB : Hid (r + (kInt.cnt x : Nat) ≤ 2 ^ 31) := by
        have h1 := sums_take_le kInt.cnt l (k + 1)
        have h2 := HN.out
        have h3 := HCN.out
        have h4 := HR.out
        show _ ≤ _
        omega
      obtain ⟨b, off, B, C, rfl, hb, hSb, hnb, hi, hBS, hc, hput⟩ := row_put HM.out (by rw [mkTil_at _ _ _ _ (by rw [← HNL.out]; exact hlt)]; exact hx)
      obtain ⟨rfl, g0⟩ := hi
      have e1 : off + k * kInt.wd = off + k := by show off + k * 1 = _; omega
      rw [e1] at hc hput
      have A0 : wr.cell? ⟨b, off + k, none⟩ = some (.int .i64 x) := (hc 0 _ rfl).1
      have F0 : wr.frozen? ⟨b, off + k, none⟩ = false := (hc 0 _ rfl).2
      have HPUT : Hid (∀ w' x' C', OnlyO B b (off + k) (off + k + 1) wr w' → kInt.is true w' B C' x' → (∀ j v, C'[j]? = some v → w'.cell? ⟨b, off + k + j, none⟩ = some v) → (kRow kInt).is true w' S [.slice (some ⟨b, off, none⟩) n c] ((mkTil kInt l k0 k).set k x')) := hput
      have HCX : Hid (kInt.cnt x = 1) := rfl
      have HO : Hid (OnlyO B b (off + k) (off + k + 1) wr wr) := OnlyO.refl _ _ _ _ _
      have HBS : Hid (S b ∧ ∀ k, B k → S k) := ⟨hSb, hBS⟩
      have i0 : (0 : Int) ≤ (k : Int) := by omega
      have i1 : (k : Int) < (n : Int) := by omega
      have bd : r + 1 ≤ 2 ^ 31 := by have h1 := HB.out; have h2 := HCX.out; omega
      clear hc hput hx hBS
      go_wp2_with fail
      have hfin := HPUT.out _ (kInt.mrk x r) [.int .i64 (r)] (HO.out.thenSet (o := off + k) (v := .int .i64 (r)) (by omega) (by omega)) (show kInt.is true _ B [.int .i64 r] r from ⟨rfl, by omega, by omega⟩) (cells_cons (P := fun j u => World.cell? _ ⟨b, off + k + j, none⟩ = some u) (set_same A0) cells_nil)
      rw [HE.out] at hfin
      have hkp := ((HO.out.thenSet (o := off + k) (v := .int .i64 (r)) (by omega) (by omega))).to HBS.out.1 HBS.out.2
      go_roundw
      case rel => exact ⟨k + 1, r + 1, by omega, by go_num, by first | rfl | go_num, by omega, bd, by show _ = _; have h1 := HN.out; have h2 := HR.out; have h3 := HCX.out; omega, hnx.trans hkp, hfin⟩
      case measure => simp [intOf]; omega
    · go_wp2
      go_ret
      obtain rfl : k = n := by omega
      have h1 := HR.out
      have h2 := HM.out
      rw [HNL.out, List.take_length] at h1
      refine ⟨by rw [h1]; rfl, hnx, ?_⟩
      rw [← mkTil_all, ← HNL.out]
      exact h2

set_option maxRecDepth 100000 in
set_option maxHeartbeats 2000000 in
theorem heldIntS_k (l : List Int) (a : Option Addr) (n c : Nat) (S : Nat → Prop) (k0 : Int) (w : World) (hk0 : 0 < k0) (hk1 : k0 + (sums kInt.cnt l : Nat) ≤ 2 ^ 31) (h : (kRow kInt).is false w S [.slice a n c] (mks kInt l k0)) :
    Calls Try.prog 123 #[.slice a n c, .int .i64 k0] w fun e w' => e = .returned (.int .i64 (k0 + (sums kInt.cnt l : Nat))) ∧ Below w.heap.size w w' := by
  have hnl := row_len h
  have hmx : n ≤ 9223372036854775807 := by obtain ⟨_, _, _, h, _⟩ := row_form h; rw [hnl]; exact h
  rw [mks_length] at hnl
  have HNL : Hid (n = l.length) := hnl
  have HCN : Hid (k0 + (sums kInt.cnt l : Nat) ≤ 2 ^ 31) := hk1
  have H : Hid ((kRow kInt).is false w S [.slice a n c] (mks kInt l k0)) := h
  clear h hnl hk1
  go_enter Try.func123, Try.ntmps123
  go_wp2_with fail
  go_loopw [1, 5] (fun q i wr => ∃ (k : Nat) (r : Int), k ≤ n ∧ i = .int .i64 k ∧ q = .int .i64 r ∧ 0 < r ∧ r ≤ 2 ^ 31 ∧ Hid (r = k0 + (sums kInt.cnt (l.take k) : Nat)) ∧ Below w.heap.size w wr) (fun _ i _ => n - (intOf i).toNat)
  case atStart => exact ⟨0, k0, Nat.zero_le _, rfl, rfl, hk0, by have := HCN.out; omega, by show _ = _; simp [sums], Below.refl _ _⟩
  case round =>
    obtain ⟨k, r, hk, rfl, rfl, hr0, hr1, HR, hnx⟩ := hrel
    by_cases hlt : k < n
    · obtain ⟨x, hx⟩ : ∃ x, l[k]? = some x := ⟨_, List.getElem?_eq_getElem (by rw [← HNL.out]; exact hlt)⟩
      have HN : Hid (sums kInt.cnt (l.take (k + 1)) = sums kInt.cnt (l.take k) + kInt.cnt x) := sums_next _ l k x hx
      have HB : Hid (r + (kInt.cnt x : Nat) ≤ 2 ^ 31) := by
        have h1 := sums_take_le kInt.cnt l (k + 1)
        have h2 := HN.out
        have h3 := HCN.out
        have h4 := HR.out
        show _ ≤ _
        omega
      have hx' := mks_at kInt l k0 k x hx
      rw [← HR.out] at hx'
      obtain ⟨b, off, B, C, rfl, hb, _, hi, _, hc⟩ := row_at (Kd.below H.out hnx) hx'
      have hi2 : kInt.is false wr B C (r) := hi
      obtain ⟨rfl, _⟩ := hi2
      have A0 : wr.cell? ⟨b, off + k, none⟩ = some (.int .i64 (r)) := by have := (hc 0 _ rfl).1; simpa [kInt, kStr, kBool] using this
      have HCX : Hid (kInt.cnt x = 1) := rfl
      have i0 : (0 : Int) ≤ (k : Int) := by omega
      have i1 : (k : Int) < (n : Int) := by omega
      have bd : r + 1 ≤ 2 ^ 31 := by have h1 := HB.out; have h2 := HCX.out; omega
      have hbr : Below wr.heap.size wr wr := Below.refl _ _
      clear hc hx hx' hi
      go_wp2_with fail
      go_roundw
      case rel => exact ⟨k + 1, r + 1, by omega, by go_num, by first | rfl | go_num, by omega, bd, by show _ = _; have h1 := HN.out; have h2 := HR.out; have h3 := HCX.out; omega, hnx.trans (hbr.mono hnx.size)⟩
      case measure => simp [intOf]; omega
    · go_wp2
      go_ret
      obtain rfl : k = n := by omega
      have h1 := HR.out
      rw [HNL.out, List.take_length] at h1
      exact ⟨by rw [h1]; rfl, hnx⟩

theorem cntle_int (x : Int) : kInt.cnt x ≤ 10 * (1 + kInt.sz x) := by show 1 ≤ _; omega
theorem cnt_IntS {l : List Int} (h : (kRow kInt).sz l ≤ 2 ^ 20) : sums kInt.cnt l ≤ 2 ^ 26 := by
  have h1 := sums_le_of kInt.cnt kInt.sz 10 cntle_int l
  have h2 : l.length + sums kInt.sz l ≤ 2 ^ 20 := h
  omega

end Go.Proofs.Ytdlodeklheapgaa
