/- FnDistinct: the law walked: as many unlike texts stand in a text as are counted. No condition. -/
import Derived.Test.YtkboblfjchkedaaSuE
import Derived.Test.YtkboblfjchkedaaItS
import Derived.Test.YtkboblfjchkedaaSxDm
import Derived.WalkSmall
namespace Go.Proofs.Ytkboblfjchkedaa
open Go.RowKit Go.Sort
set_option linter.unusedVariables false

def stC (y : ByteArray) : List Value := [.string y]
theorem stL_toList (l : List UInt8) : (strL l).toList = l := by rw [ByteArray.toList_eq]; simp [strL]
/-- A stretch between two places. -/
theorem cut_is (s : ByteArray) (i j : Nat) : s.extract i j = strL (((tx s).drop i).take (j - i)) := by
  apply ByteArray.ext
  apply Array.toList_inj.1
  simp [tx, strL]
theorem mem_next {X y : List UInt8} {all : List (List UInt8)} {k : Nat} (h : all[k]? = some y) : decide (X ∈ all.take (k + 1)) = (decide (X ∈ all.take k) || decide (y = X)) := by
  rw [List.take_add_one, h]
  by_cases c : X ∈ all.take k
  · simp [c]
  · by_cases e : y = X
    · simp [e]
    · have : ¬ X = y := fun h => e h.symm
      simp [c, e, this]
/-- What the law asks of the number. -/
theorem dis_yes {s : ByteArray} (h : (fDistinctIn s).2 = true) : s.size ≤ 120 ∧ (fDistinctIn s).1 = disI (tx s) (sufL (tx s)) (tx s).length := by
  unfold fDistinctIn at h ⊢
  by_cases c : s.size ≤ 120
  · rw [if_pos c]; exact ⟨c, rfl⟩
  · rw [if_neg c] at h; cases h
theorem dis_len {s : ByteArray} (h : s.size ≤ 120) {i j : Nat} {all : List (List UInt8)} (hd : Dis (tx s) i j all) : all.length ≤ 14400 := by
  have h1 := hd.len
  obtain ⟨_, h2, _⟩ := allL_ok (tx s) (tx s).length (Nat.le_refl _)
  have h3 := disI_bd (tx s) (sufL (tx s)) (by rw [tx_len]; exact h) (fun x hx => by rw [tx_len]; exact suf_le s x hx) (tx s).length
  rw [tx_len] at h1 h2 h3
  omega
set_option maxRecDepth 100000 in
set_option maxHeartbeats 8000000 in
theorem lawDistinct_k (x0 : List Int) (a0 : Option Addr) (n0 c0 : Nat) (w : World) (h0 : (kRow kU8).is false w (fun _ => True) [.slice a0 n0 c0] x0) :
    Calls Try.prog 6 #[.slice a0 n0 c0] w fun e w' => e = .returned (.bool true) ∧ Below w.heap.size w w' := by
  have m0 : n0 ≤ 9223372036854775807 := by obtain ⟨_, _, _, h, _⟩ := row_form h0; rw [row_len h0]; exact h
  have H0 : Hid ((kRow kU8).is false w (fun _ => True) [.slice a0 n0 c0] x0) := h0
  clear h0
  go_enter Try.func6, Try.ntmps6
  by_cases hbig : (1048576 : Int) < (n0 : Int)
  · go_wp2
    go_ret
    exact ⟨rfl, Below.refl _ _⟩
  go_wp2_with fail
  refine (drawDistinctIn_k w x0 a0 n0 c0 H0.out m0).mono ?_
  rintro e w1 ⟨s, rfl, hs, ha, hb⟩
  have HB1 : Hid (Below w.heap.size w w1) := hb
  have HA : Hid (Asc s) := ha
  clear hb ha
  obtain ⟨Y, hY⟩ : ∃ y, y = (fDistinctIn s).1 := ⟨_, rfl⟩
  obtain ⟨ok, hok⟩ : ∃ y, y = (fDistinctIn s).2 := ⟨_, rfl⟩
  have HYES : Hid (ok = true → s.size ≤ 120 ∧ Y = disI (tx s) (sufL (tx s)) (tx s).length) := fun h => by rw [hY]; exact dis_yes (by rw [← hok]; exact h)
  have HY : Hid (Y = (fDistinctIn s).1) := hY
  have HOK : Hid (ok = (fDistinctIn s).2) := hok
  clear hY hok
  go_wp2_with fail
  refine (implDistinctIn_k s w1 (by omega)).mono ?_
  rintro e w2 ⟨rfl, _, hb⟩
  rw [← HY.out, ← HOK.out]
  have HB2 : Hid (Below w.heap.size w w2) := HB1.out.trans (hb.mono HB1.out.size)
  clear hb HB1
  go_wp2_with fail
  refine (specDistinctIn_k s w2 (by omega)).mono ?_
  rintro e w3 ⟨rfl, _, hb⟩
  rw [← HY.out, ← HOK.out]
  have HB3 : Hid (Below w.heap.size w w3) := HB2.out.trans (hb.mono HB2.out.size)
  clear hb HB2 HY HOK
  cases ok with
  | false =>
    go_wp2
    go_ret
    exact ⟨rfl, HB3.out⟩
  | true =>
    obtain ⟨hs120, hye⟩ := HYES.out rfl
    have HYE : Hid (Y = disI (tx s) (sufL (tx s)) (tx s).length) := hye
    clear hye HYES
    by_cases h24 : 24 < s.size
    · have l1 : (24 : Int) < (s.size : Int) := by omega
      go_wp2
      go_ret
      exact ⟨rfl, HB3.out⟩
    have l1 : ¬ (24 : Int) < (s.size : Int) := by omega
    obtain ⟨g, hg⟩ : ∃ g, g = w3.heap.size := ⟨_, rfl⟩
    have HG : Hid (g = w3.heap.size) := hg
    have HI0 : Hid ((w3.iter s 0).heap[g]? = some (.stringIter s 0)) := by show _ = _; rw [hg]; exact World.iter_heap _ _ _
    have HZ0 : Hid ((w3.iter s 0).heap.size = g + 1) := by show _ = _; rw [hg]; simp [World.iter]
    have HX0 : Hid (Below w.heap.size w (w3.iter s 0)) := HB3.out.alloc (HB3.out.size) _
    have hgw : w.heap.size ≤ g := by have := HB3.out.size; omega
    go_wp2_with fail
    rw [← hg]
    obtain ⟨W4, hW4⟩ : ∃ W4, W4 = w3.iter s 0 := ⟨_, rfl⟩
    rw [← hW4] at HI0 HZ0 HX0 ⊢
    clear hg hW4 HG HB3
    go_loopw [8] (fun av wr => ∃ (i : Nat) (all : List (List UInt8)), i ≤ s.size ∧ g < wr.heap.size ∧ Hid (wr.heap[g]? = some (.stringIter s i)) ∧ Hid (Dis (tx s) i (i + 1) all) ∧ Hid (OwnL stC 9 1 wr (g + 1) av (all.map strL)) ∧ Hid (Below w.heap.size w wr)) (fun _ wr => s.size - wr.iterPos g)
    case atStart => exact ⟨0, [], Nat.zero_le _, by have := HZ0.out; omega, HI0, Dis.start _, OwnL.nil _ _ _ _ _, HX0⟩
    case round =>
      obtain ⟨i, all, hi, hgr, HI, HD, HO, HX⟩ := hrel
      have hps : wr.iterPos g = i := iterPos_of HI.out
      have HPS : Hid (wr.iterPos g = i) := hps
      clear hps
      by_cases hlt : i < s.size
      · have hN := fun ty => next_at (P := Try.prog) ty HI.out hlt (asc_at HA.out i hlt)
        obtain ⟨W5, hW5⟩ : ∃ W5, W5 = turnI wr g s (i + 1) := ⟨_, rfl⟩
        have HI5 : Hid (W5.heap[g]? = some (.stringIter s (i + 1))) := by show _ = _; rw [hW5]; exact turnI_at s (i + 1) hgr
        have hz5 : W5.heap.size = wr.heap.size := by rw [hW5]; exact turnI_size _ _ _ _
        have hg5 : g < W5.heap.size := by omega
        have hk5 : KeptO (fun k => k = g) wr W5 := by rw [hW5]; exact turnI_kept _ _ _ _
        have HO5 : Hid (OwnL stC 9 1 W5 (g + 1) _ (all.map strL)) := OwnL.kept HO.out hk5 (fun q hq e => by omega)
        have HX5 : Hid (Below w.heap.size w W5) := HX.out.trans (hk5.below HX.out.size (fun q hq e => by omega))
        rw [← hW5] at hN
        clear hW5 hz5 hk5 HO HX HI
        go_wp2_with fail
        go_loopw [8, 10] (fun av jv wq => ∃ (j : Nat) (al : List (List UInt8)), jv = .int .i64 j ∧ i < j ∧ j ≤ s.size + 1 ∧ g < wq.heap.size ∧ Hid (wq.heap[g]? = some (.stringIter s (i + 1))) ∧ Hid (Dis (tx s) i j al) ∧ Hid (OwnL stC 9 1 wq (g + 1) av (al.map strL)) ∧ Hid (Below w.heap.size w wq)) (fun _ jv _ => s.size + 1 - (intOf jv).toNat)
        case atStart => exact ⟨i + 1, all, by go_num, by omega, by omega, hg5, HI5, HD, HO5, HX5⟩
        case round =>
          obtain ⟨j, al, rfl, hij, hj, hgq, HJ, HE, HP, HQ⟩ := hrel
          by_cases hjs : j ≤ s.size
          · have j1 : (j : Int) ≤ (s.size : Int) := by omega
            obtain ⟨m, hm⟩ : ∃ m, m = al.length := ⟨_, rfl⟩
            have hml : m ≤ 14400 := by rw [hm]; exact dis_len hs120 HE.out
            have hla : (al.map strL).length = m := by rw [hm]; exact List.length_map ..
            obtain ⟨av, cv, hv, hcv⟩ := HP.out.form
            subst hv
            have HPN : Hid (OwnL stC 9 1 wr (g + 1) (.slice av m cv) (al.map strL)) := by have h := HP.out; rw [hla] at h; exact h
            rw [hla] at hcv ⊢
            have HR : Hid ((kRow kStr).is false wr (fun k => g + 1 ≤ k) [.slice av m cv] (al.map strL)) := (kRow kStr).read (own_kRow (K := kStr) (fun _ => rfl) HPN.out (by rw [hla]; unfold maxLen; omega) (fun x hx W S => ⟨rfl, by obtain ⟨y, hy, rfl⟩ := List.mem_map.1 hx; obtain ⟨a, b, h1, h2, _, rfl⟩ := (HE.out.2 y).1 hy; rw [strL_size, List.length_take, List.length_drop]; rw [tx_len] at h2; unfold maxLen; omega⟩))
            obtain ⟨X, hX⟩ : ∃ X, X = ((tx s).drop i).take (j - i) := ⟨_, rfl⟩
            have hXe : s.extract i j = strL X := by rw [hX]; exact cut_is s i j
            have HXE : Hid (X = ((tx s).drop i).take (j - i)) := hX
            have HM : Hid (m = al.length) := hm
            have HLA : Hid ((al.map strL).length = m) := hla
            have i0 : (0 : Int) ≤ (i : Int) := by omega
            have i1 : (i : Int) ≤ (j : Int) := by omega
            obtain ⟨V, rfl⟩ : ∃ V, V = wr := ⟨_, rfl⟩
            clear hX hla hm HP
            go_wp2_with fail
            go_loopw [11, 59] (fun fv kv wq => ∃ k : Nat, k ≤ m ∧ kv = .int .i64 k ∧ fv = .bool (decide (X ∈ al.take k)) ∧ wq = V) (fun _ kv _ => m - (intOf kv).toNat)
            case atStart => exact ⟨0, Nat.zero_le _, rfl, by simp, rfl⟩
            case round =>
              obtain ⟨k, hk, rfl, rfl, rfl⟩ := hrel
              by_cases hkm : k < m
              · have k1 : (k : Int) < (m : Int) := by omega
                have k0 : (0 : Int) ≤ (k : Int) := by omega
                obtain ⟨y, hy⟩ : ∃ y, al[k]? = some y := ⟨_, List.getElem?_eq_getElem (by rw [← HM.out]; exact hkm)⟩
                have hys : (al.map strL)[k]? = some (strL y) := by rw [List.getElem?_map, hy]; rfl
                obtain ⟨b, o, B, C, rfl, hb, _, hi', _, hc⟩ := row_at HR.out hys
                have hC : C = [.string (strL y)] := hi'.1
                have A0 : wr.cell? ⟨b, o + k, none⟩ = some (.string (strL y)) := by
                  have := (hc 0 (.string (strL y)) (by rw [hC]; rfl)).1
                  simpa [kStr] using this
                have HNX : Hid (decide (X ∈ al.take (k + 1)) = (decide (X ∈ al.take k) || decide (y = X))) := mem_next hy
                have hcmp : ((strL y).toList == (strL X).toList) = decide (y = X) := by rw [stL_toList, stL_toList]; by_cases e : y = X <;> simp [e]
                obtain ⟨f, hf⟩ : ∃ f, f = decide (X ∈ al.take k) := ⟨_, rfl⟩
                obtain ⟨z, hz⟩ : ∃ z, z = decide (y = X) := ⟨_, rfl⟩
                rw [← hf, ← hz] at HNX
                rw [← hf]
                rw [← hz] at hcmp
                obtain ⟨SX, hSX⟩ : ∃ SX, SX = strL X := ⟨_, rfl⟩
                obtain ⟨SY, hSY⟩ : ∃ SY, SY = strL y := ⟨_, rfl⟩
                rw [← hSX] at hcmp hXe
                rw [← hSY] at hcmp A0
                clear hf hz hy hys hi' hc hC hSX hSY
                cases f with
                | true =>
                  go_wp2
                  go_roundw
                  case rel => exact ⟨k + 1, by omega, by go_num, by rw [HNX.out]; rfl, by first | rfl | trivial⟩
                  case measure => simp only [intOf]; omega
                | false =>
                  go_wp2
                  go_roundw
                  case rel => exact ⟨k + 1, by omega, by go_num, by rw [HNX.out]; rfl, by first | rfl | trivial⟩
                  case measure => simp only [intOf]; omega
              · have k1 : ¬ (k : Int) < (m : Int) := by omega
                obtain rfl : k = m := by omega
                have HTK : Hid (al.take k = al) := by show _ = _; rw [HM.out, List.take_length]
                rw [HTK.out]
                by_cases hmem : X ∈ al
                · rw [decide_eq_true hmem]
                  have HE2 : Hid (Dis (tx s) i (j + 1) al) := HE.out.old (by rw [tx_len]; exact hjs) hij (by rw [← HXE.out]; exact hmem)
                  have HPM : Hid (OwnL stC 9 1 wr (g + 1) (.slice av k cv) (al.map strL)) := HPN.out
                  clear hmem HTK
                  go_wp2
                  go_roundw
                  case rel => exact ⟨j + 1, al, by go_num, by omega, by omega, hgq, HJ, HE2, HPM, HQ⟩
                  case measure => simp only [intOf]; omega
                · rw [decide_eq_false hmem]
                  have HE2 : Hid (Dis (tx s) i (j + 1) (al ++ [X])) := by show Dis _ _ _ _; rw [HXE.out]; exact HE.out.new (by rw [tx_len]; exact hjs) hij (by rw [← HXE.out]; exact hmem)
                  clear hmem HTK
                  go_wp2_with (at_builtin; refine app_str rfl _ _ rfl (g + 1) _ (al.map strL) rfl (OwnL.below HPN.out (below_a1r _ _)) _ (strL X) rfl (by simp [World.cell?_alloc_new]) (by rw [HLA.out]; omega) (by simp; omega) ?_)
                  intro v2 w2 ho2 hb2 _
                  have HO2 : Hid (OwnL stC 9 1 w2 (g + 1) v2 ((al ++ [X]).map strL)) := by show OwnL _ _ _ _ _ _ _; rw [List.map_append, List.map_cons, List.map_nil]; exact ho2
                  have HB2 : Hid (Below (g + 1) wr w2) := ((Below.refl _ _).alloc (by omega) _).trans hb2
                  have HJ2 : Hid (w2.heap[g]? = some (.stringIter s (i + 1))) := by show _ = _; rw [HB2.out.block g (by omega)]; exact HJ.out
                  have hg2 : g < w2.heap.size := by have := HB2.out.size; omega
                  have HQ2 : Hid (Below w.heap.size w w2) := HQ.out.trans (HB2.out.mono (by omega))
                  clear ho2 hb2
                  go_wp2
                  go_roundw
                  case rel => exact ⟨j + 1, al ++ [X], by go_num, by omega, by omega, hg2, HJ2, HE2, HO2, HQ2⟩
                  case measure => simp only [intOf]; omega
          · have j1 : ¬ (j : Int) ≤ (s.size : Int) := by omega
            obtain rfl : j = s.size + 1 := by omega
            have HE2 : Hid (Dis (tx s) (i + 1) (i + 1 + 1) al) := by have h := HE.out; rw [← tx_len] at h; exact h.row
            have hmz : s.size - wr.iterPos g < s.size - i := by rw [iterPos_of HJ.out]; omega
            have HMZ : Hid (s.size - wr.iterPos g < s.size - i) := hmz
            clear hmz
            go_wp2
            go_roundw
            case rel => exact ⟨i + 1, al, by omega, hgq, HJ, HE2, HP, HQ⟩
            case measure => have := HMZ.out; have := HPS.out; omega
      · have hN := fun ty => next_end (P := Try.prog) ty HI.out hlt
        obtain rfl : i = s.size := by omega
        have hfin : (all.length : Int) = Y := by rw [HYE.out]; have := HD.out; rw [← tx_len] at this; exact this.end
        obtain ⟨av, cv, hv, hcv⟩ := HO.out.form
        subst hv
        have hla : (all.map strL).length = all.length := List.length_map ..
        rw [hla] at hcv ⊢
        clear HD HI HPS HO hla
        go_wp2
        go_ret
        exact ⟨by simp, HX.out⟩
end Go.Proofs.Ytkboblfjchkedaa
