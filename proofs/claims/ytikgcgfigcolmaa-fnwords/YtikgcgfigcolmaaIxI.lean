/- Words of texts and where they stand: the program's IndexOf. No condition but that they fit in memory. -/
import Derived.Test.YtikgcgfigcolmaaIxN
namespace Go.Proofs.Ytikgcgfigcolmaa
open Go.RowKit Go.Maps
set_option linter.unusedVariables false

theorem ix_take {x0 : List ByteArray} {k : Nat} (h : ∀ s ∈ x0.take k, s.size ≤ 200) (hk : k ≤ x0.length) : IxOk k (ixOf (x0.take k)) := by
  have := ix_ok (l := x0.take k) h k (by rw [List.length_take]; omega)
  rw [List.take_take, Nat.min_self] at this
  exact this
theorem post_bound {n : Nat} {es : List DEntry} (h : IxOk n es) (hn : n ≤ 40) (y : ByteArray) : (getD y [] es).length ≤ 40 := by
  have hlen : ∀ (l : List DPosting) (last : Int), postOk n last l = true → -1 ≤ last → last < n → (l.length : Int) ≤ n - 1 - last := by
    intro l
    induction l with
    | nil => intro last _ h1 h2; simp; omega
    | cons q r ih =>
      intro last h0 h1 h2
      obtain ⟨t, m⟩ := q
      rw [postOk] at h0
      simp only [Bool.and_eq_true, decide_eq_true_eq] at h0
      have := ih t h0.2 (by omega) h0.1.2.1
      simp only [List.length_cons]
      omega
  have := hlen _ (-1) (h.post y) (by omega) (by omega)
  omega
theorem post_few {t : Int} {es : List DEntry} {cs : List (ByteArray × Int)} (hc : RiseK cs) (he : RiseK es) (y : ByteArray) : (getD y [] (cs.foldl (postW t) es)).length ≤ (getD y [] es).length + 1 := by
  rw [post_get t y cs es hc he, List.length_append]
  cases getK y cs <;> simp
set_option maxRecDepth 100000 in
set_option maxHeartbeats 8000000 in
theorem implIndexOf_k (x0 : List ByteArray) (a0 : Option Addr) (n0 c0 : Nat) (S0 : Nat → Prop) (w : World) (h0 : (kRow kStr).is false w S0 [.slice a0 n0 c0] x0) (z0 : (kRow kStr).sz x0 ≤ 2 ^ 20) :
    Calls Try.prog 7 #[.slice a0 n0 c0] w (RIndexOf x0 w) := by
  have HN : Hid (n0 = x0.length) := row_len h0
  have HX : Hid ((kRow kStr).is false w S0 [.slice a0 n0 c0] x0) := h0
  have HZ : Hid ((kRow kStr).sz x0 ≤ 2 ^ 20) := z0
  have hmx : n0 ≤ 9223372036854775807 := by obtain ⟨_, _, _, h, _⟩ := row_form h0; rw [HN.out]; exact h
  clear h0 z0
  by_cases c1 : (40 : Int) < (n0 : Int)
  · go_enter Try.func7, Try.ntmps7
    go_wp2
    refine bodyPost_ret (v := .tuple #[.agg #[.int .i64 0, .slice none 0 0], .bool false]) (by simp [results, Try.results7, go_sem]) rfl ?_
    exact RIndexOf.no (fun h => by have := h.1; rw [← HN.out] at this; omega) (by go_grown)
  have n40 : n0 ≤ 40 := by omega
  obtain ⟨W, hW⟩ : ∃ W, W = ((w.alloc (.cells #[.int .i64 0, .slice none 0 0] 27)).alloc (.map #[] 0)).alloc (.map #[] 0) := ⟨_, rfl⟩
  have ZW : Hid (W.heap.size = w.heap.size + 3) := by show _ = _; rw [hW]; simp
  have HBW : Hid (Below w.heap.size w W) := by show Below _ _ _; rw [hW]; exact (((Below.refl _ _).alloc (Nat.le_refl _) _).alloc (by simp) _).alloc (by simp; omega) _
  have HR0 : Hid (W.cell? ⟨w.heap.size, 0, none⟩ = some (.int .i64 0) ∧ W.cell? ⟨w.heap.size, 1, none⟩ = some (.slice none 0 0) ∧ W.frozen? ⟨w.heap.size, 0, none⟩ = false ∧ W.frozen? ⟨w.heap.size, 1, none⟩ = false) := by rw [hW]; refine ⟨?_, ?_, ?_, ?_⟩ <;> simp [go_sem]
  have HM1 : Hid (MapAt W (w.heap.size + 1) []) := by
    have := MapAt.made (w.alloc (.cells #[.int .i64 0, .slice none 0 0] 27))
    rw [World.size_alloc] at this
    rw [hW]
    exact this.alloc _
  have HM2 : Hid (MapAt W (w.heap.size + 2) []) := by
    have := MapAt.made ((w.alloc (.cells #[.int .i64 0, .slice none 0 0] 27)).alloc (.map #[] 0))
    rw [World.size_alloc, World.size_alloc] at this
    rw [hW]
    exact this
  have hmm := @run_makeMap Try.prog
  go_enter Try.func7, Try.ntmps7
  go_wp2_with fail
  rw [← hW]
  clear hW hmm
  obtain ⟨b1, hb1⟩ : ∃ b1, b1 = w.heap.size + 1 := ⟨_, rfl⟩
  obtain ⟨b2, hb2⟩ : ∃ b2, b2 = w.heap.size + 2 := ⟨_, rfl⟩
  have HB12 : Hid (b1 = w.heap.size + 1 ∧ b2 = w.heap.size + 2) := ⟨hb1, hb2⟩
  rw [show w.heap.size + 1 + 1 = b2 from hb2.symm ▸ rfl]
  rw [← hb1] at HM1 ⊢
  rw [← hb2] at HM2
  have b1w : b1 < W.heap.size := by rw [ZW.out]; omega
  have b2w : b2 < W.heap.size := by rw [ZW.out]; omega
  have b12 : b1 ≠ b2 := by omega
  have wb1 : w.heap.size < b1 := by omega
  have wb2 : w.heap.size < b2 := by omega
  clear hb1 hb2
  go_loopw [22] (fun iv wr => ∃ (k : Nat) (L : List (ByteArray × Value)) (C : List (ByteArray × Value)) (S : Nat → Prop), k ≤ n0 ∧ iv = .int .i64 k ∧ Hid (MapAt wr b1 L) ∧ Hid (MapAt wr b2 C) ∧ Hid (PL wr S L (ixOf (x0.take k))) ∧ Hid (∀ q, S q → W.heap.size ≤ q) ∧ Hid (∀ s ∈ x0.take k, s.size ≤ 200) ∧ KeptO (fun q => q = b1 ∨ q = b2) W wr) (fun iv _ => n0 - (intOf iv).toNat)
  case atStart => exact ⟨0, [], [], fun _ => False, Nat.zero_le _, rfl, HM1, HM2, PL.nil _ _, fun q hq => hq.elim, (fun s hs => by simp at hs), KeptO.refl _ _⟩
  case round =>
    obtain ⟨k, L, C, S, hk, rfl, HL, HC, HP, HS, HT, hnx⟩ := hrel
    obtain ⟨wo, hwo⟩ : ∃ wo, wo = wr := ⟨_, rfl⟩
    subst hwo
    clear HM1 HM2
    have zw := hnx.size
    have HKW : Hid (KeptO (fun q => q = b1 ∨ q = b2) W wo) := hnx
    have HBR : Hid (Below w.heap.size w wo) := HBW.out.trans (hnx.below HBW.out.size (fun q hq => by omega))
    have HXR : Hid ((kRow kStr).is false wo S0 [.slice a0 n0 c0] x0) := Kd.below HX.out (HBW.out.trans (hnx.below HBW.out.size (fun q hq => by omega)))
    clear hnx
    by_cases hlt : k < n0
    · obtain ⟨s, hx⟩ : ∃ s, x0[k]? = some s := ⟨_, List.getElem?_eq_getElem (by rw [← HN.out]; exact hlt)⟩
      have HXK : Hid (x0[k]? = some s) := hx
      obtain ⟨tb, toff, TB, TC, rfl, htb, _, hi, _, hc⟩ := row_at HXR.out hx
      obtain ⟨rfl, hsm⟩ := hi
      have K0 : wo.cell? ⟨tb, toff + k, none⟩ = some (.string s) := by
        have := (hc 0 _ rfl).1
        rw [show toff + k * kStr.wd + 0 = toff + k by show toff + k * 1 + 0 = _; omega] at this
        exact this
      have i0 : (0 : Int) ≤ (k : Int) := by omega
      have i1 : (k : Int) < (n0 : Int) := by omega
      have s20 : s.size ≤ 2 ^ 20 := by
        have h1 := sums_ge kStr.sz x0 k s hx
        have h2 : (kRow kStr).sz x0 = x0.length + sums kStr.sz x0 := rfl
        have h3 := HZ.out
        have h4 : kStr.sz s = s.size := rfl
        omega
      clear hc hx
      go_wp2_with fail
      refine (implWordsIn_k s _ s20).mono ?_
      rintro e w1 ⟨wa, wn, wc, T1, rfl, hws, hT1, _, hb1⟩
      have HB1 : Hid (Below wo.heap.size wo w1) := hb1
      have z1 := hb1.size
      clear hb1
      by_cases c2 : s.size ≤ 200
      · have hF : fWordsIn s = (wordsB s, true) := by unfold fWordsIn; rw [if_pos c2]
        rw [hF] at hws ⊢
        have HWS : Hid ((kRow kStr).is false w1 T1 [.slice wa wn wc] (wordsB s)) := Kd.read _ hws
        have HT1 : Hid (∀ q, T1 q → wo.heap.size ≤ q) := hT1
        have HWN : Hid (wn = (wordsB s).length) := row_len hws
        have wn100 : wn ≤ 100 := by rw [HWN.out]; exact words_few c2
        clear hF hws hT1
        obtain ⟨w2, hcl, hm2, hg2, hz2⟩ := (HC.out.below HB1.out).clear (ty := 0) Try.underlying76
        have HM2 : Hid (MapAt w2 b2 []) := hm2
        have HK2 : Hid (KeptO (fun q => q = b2) w1 w2) := grown_kept hg2
        have ZZ2 : Hid (w2.heap.size = w1.heap.size) := hz2
        clear hm2 hg2 hz2
        go_wp2_with fail
        clear hcl
        go_loopw [38] (fun iv wq => ∃ (j : Nat), j ≤ wn ∧ iv = .int .i64 j ∧ Hid (MapAt wq b2 ((cntsOf ((wordsB s).take j)).map vI)) ∧ KeptO (fun q => q = b2) w2 wq ∧ wq.heap.size = w2.heap.size) (fun iv _ => wn - (intOf iv).toNat)
        case atStart => exact ⟨0, Nat.zero_le _, rfl, HM2, KeptO.refl _ _, rfl⟩
        case round =>
          obtain ⟨j, hj, rfl, HMQ, hkq, hzq⟩ := hrel
          have HKQ : Hid (KeptO (fun q => q = b2) w2 wr) := hkq
          have HZQ : Hid (wr.heap.size = w2.heap.size) := hzq
          clear hkq hzq
          by_cases hjn : j < wn
          · obtain ⟨x, hx⟩ : ∃ x, (wordsB s)[j]? = some x := ⟨_, List.getElem?_eq_getElem (by rw [← HWN.out]; exact hjn)⟩
            obtain ⟨xb, xoff, XB, XC, rfl, hxb, hxT, hi, _, hc⟩ := row_at HWS.out hx
            obtain ⟨rfl, hxm⟩ := hi
            have hxb2 : xb ≠ b2 := by have := HT1.out xb hxT; have := HKW.out.size; omega
            have X0 : wr.cell? ⟨xb, xoff + j, none⟩ = some (.string x) := by
              have := (hc 0 _ rfl).1
              rw [show xoff + j * kStr.wd + 0 = xoff + j by show xoff + j * 1 + 0 = _; omega] at this
              rw [HKQ.out.cell (by rw [ZZ2.out]; exact hxb) hxb2, HK2.out.cell hxb hxb2]
              exact this
            have j0 : (0 : Int) ≤ (j : Int) := by omega
            have j1 : (j : Int) < (wn : Int) := by omega
            obtain ⟨c, hc'⟩ : ∃ c : Nat, c = cntB x ((wordsB s).take j) := ⟨_, rfl⟩
            have c100 : c ≤ 100 := by
              have h1 := cntB_le ((wordsB s).take j) x
              rw [List.length_take] at h1
              omega
            have LK : (Instr.lookup 76 (.map (some b2)) (.string x) false).run Try.prog wr = .ok (.int .i64 c) wr := by
              rw [HMQ.out.look Try.underlying76 (zeroI wr) hxm, getD_vI, cnts_get, hc']
            have HNX : Hid (setK x (.int .i64 ((c : Int) + 1)) ((cntsOf ((wordsB s).take j)).map vI) = (cntsOf ((wordsB s).take (j + 1))).map vI) := by
              show _ = _
              rw [setK_vI, cnts_next hx, cnts_get, hc']
            have HLN : Hid (((cntsOf ((wordsB s).take j)).map vI).length < maxLen) := by
              have h1 := cnts_len ((wordsB s).take j)
              rw [List.length_take] at h1
              show _ < _
              rw [List.length_map]
              unfold maxLen
              omega
            clear hc hx hc'
            go_wp2_with (at_mapUpdate; go_loud (refine wpList_mapSet rfl _ _ _ 76 rfl 3 Try.underlying76 b2 _ rfl HMQ.out HLN.out x (.int .i64 ((c : Int) + 1)) rfl hxm rfl ?_))
            intro w3 hm3 hg3 hz3
            rw [HNX.out] at hm3
            have HM3 : Hid (MapAt w3 b2 ((cntsOf ((wordsB s).take (j + 1))).map vI)) := hm3
            have HK3 : Hid (KeptO (fun q => q = b2) w2 w3) := HKQ.out.trans (grown_kept hg3)
            have HZ3 : Hid (w3.heap.size = w2.heap.size) := hz3.trans HZQ.out
            clear hm3 hg3 hz3 LK X0
            go_wp2
            go_roundw
            case rel => exact ⟨j + 1, by omega, by go_num, HM3, HK3.out, HZ3.out⟩
            case measure => simp [intOf]; omega
          · have j1 : ¬ (j : Int) < (wn : Int) := by omega
            have hjw : j = wn := by omega
            subst hjw
            obtain ⟨cs, hcs⟩ : ∃ cs, cs = cntsOf (wordsB s) := ⟨_, rfl⟩
            have HCS : Hid (cs = cntsOf (wordsB s)) := hcs
            have HMC : Hid (MapAt wr b2 (cs.map vI)) := by
              have h := HMQ.out
              rw [HWN.out, List.take_length, ← hcs] at h
              exact h
            have HW3 : Hid (KeptO (fun q => q = b2) wo wr) := (KeptO.of HB1.out).trans (HK2.out.trans HKQ.out)
            have HML : Hid (MapAt wr b1 L) := HL.out.kept HW3.out b12
            have HPL : Hid (PL wr S L (ixOf (x0.take k))) := HP.out.kept HW3.out (fun q hq e => by have := HS.out q hq; omega)
            have zr : wo.heap.size ≤ wr.heap.size := HW3.out.size
            have hcl : cs.length ≤ 100 := by have := cnts_len (wordsB s); rw [← hcs, ← HWN.out] at this; omega
            have HKS : Hid (∀ p ∈ cs.map vI, p.1.size ≤ maxLen) := fun p hp => by
              obtain ⟨q, hq, rfl⟩ := List.mem_map.1 hp
              rw [hcs] at hq
              have h1 := (cnt_pos hq).2
              have h2 : q.1 ∈ wordsB s := by
                obtain ⟨z, hz, hz2⟩ := List.countP_pos_iff.1 h1
                have : z = q.1 := by simpa using hz2
                rw [← this]
                exact hz
              have hw := words_good h2
              unfold isWordB isWL at hw
              simp only [decide_eq_true_eq] at hw
              have := (takeW_len 20 q.1.data.toList).1
              rw [hw.2, data_len] at this
              show q.1.size ≤ maxLen
              unfold maxLen
              omega
            clear hcs HMQ HKQ HZQ HM2 HK2 ZZ2 HWS
            go_wp2_with fail
            refine (callsIn_wide.1 (Try.maps_Keys_40 _ _)).mono ?_
            rintro e w4 ⟨rfl, rfl⟩
            go_wp2_with fail
            refine (sortedC_k b2 (cs.map vI) wr HMC.out (by rw [List.length_map]; omega) HKS.out).mono ?_
            rintro e w4 ⟨ka, kn, kc, rfl, hkr, hb4⟩
            rw [row_words rfl] at hkr
            have HKR : Hid ((kRow kStr).is false w4 (fun q => wr.heap.size + 1 ≤ q) [.slice ka kn kc] (cs.map (·.1))) := hkr
            have HKN : Hid (kn = cs.length) := by have := row_len hkr; rw [List.length_map] at this; exact this
            have kn100 : kn ≤ 100 := by rw [HKN.out]; exact hcl
            have z4 : wr.heap.size + 1 ≤ w4.heap.size := by have := hb4.size; simp at this; omega
            have HB4 : Hid (Below wr.heap.size wr w4) := ((Below.refl _ wr).alloc (Nat.le_refl _) _).trans (hb4.mono (by omega))
            clear hb4 hkr
            go_wp2_with fail
            obtain ⟨wp, hwp⟩ : ∃ wp, wp = wr := ⟨_, rfl⟩
            subst hwp
            obtain ⟨es, hes⟩ : ∃ es, es = ixOf (x0.take k) := ⟨_, rfl⟩
            have HES : Hid (es = ixOf (x0.take k)) := hes
            rw [← hes] at HPL
            have HM14 : Hid (MapAt w4 b1 L) := HML.out.below HB4.out
            have HM24 : Hid (MapAt w4 b2 (cs.map vI)) := HMC.out.below HB4.out
            have HP4 : Hid (PL w4 (fun q => S q ∧ q < wp.heap.size) L es) := (HPL.out.mono (fun q h1 h2 => ⟨h2, h1⟩)).below HB4.out
            have HLE : Hid (es.length ≤ 4000) := by
              have h1 := ix_len (l := x0.take k) HT.out k (by rw [List.length_take, ← HN.out]; omega)
              rw [List.take_take, Nat.min_self, ← hes] at h1
              show _ ≤ _
              omega
            have hWp : W.heap.size ≤ wp.heap.size := Nat.le_trans zw zr
            have hW4 : W.heap.size ≤ w4.heap.size := by omega
            clear hes HML HMC HPL
            go_loopw [51] (fun iv wr => ∃ (j : Nat) (Lj : List (ByteArray × Value)) (Sj : Nat → Prop), j ≤ kn ∧ iv = .int .i64 j ∧ Hid (MapAt wr b1 Lj) ∧ Hid (MapAt wr b2 (cs.map vI)) ∧ Hid (PL wr Sj Lj ((cs.take j).foldl (postW k) es)) ∧ Hid (∀ q, Sj q → W.heap.size ≤ q ∧ (q < wp.heap.size ∨ w4.heap.size ≤ q)) ∧ KeptO (fun q => q = b1 ∨ (W.heap.size ≤ q ∧ q < wp.heap.size)) w4 wr) (fun iv _ => kn - (intOf iv).toNat)
            case atStart => exact ⟨0, L, _, Nat.zero_le _, rfl, HM14, HM24, HP4, (fun q hq => ⟨HS.out q hq.1, .inl hq.2⟩), KeptO.refl _ _⟩
            case round =>
              obtain ⟨j, Lj, Sj, hj, rfl, HJ1, HJ2, HJP, HJS, hkj⟩ := hrel
              have HKJ : Hid (KeptO (fun q => q = b1 ∨ (W.heap.size ≤ q ∧ q < wp.heap.size)) w4 wr) := hkj
              have zj := hkj.size
              clear hkj
              by_cases hjn : j < kn
              · obtain ⟨⟨x, c⟩, hx⟩ : ∃ p, cs[j]? = some p := ⟨_, List.getElem?_eq_getElem (by rw [← HKN.out]; exact hjn)⟩
                have hx1 : (cs.map (·.1))[j]? = some x := by rw [List.getElem?_map, hx]; rfl
                obtain ⟨xb, xoff, XB, XC, rfl, hxb, hxT, hi, _, hc⟩ := row_at HKR.out hx1
                obtain ⟨rfl, hxm⟩ := hi
                have X0 : wr.cell? ⟨xb, xoff + j, none⟩ = some (.string x) := by
                  have := (hc 0 _ rfl).1
                  rw [show xoff + j * kStr.wd + 0 = xoff + j by show xoff + j * 1 + 0 = _; omega] at this
                  rw [HKJ.out.cell hxb (by omega)]
                  exact this
                have j0 : (0 : Int) ≤ (j : Int) := by omega
                have j1 : (j : Int) < (kn : Int) := by omega
                obtain ⟨ej, hej⟩ : ∃ ej, ej = (cs.take j).foldl (postW k) es := ⟨_, rfl⟩
                have HEJ : Hid (setK x (getD x [] ej ++ [((k : Int), c)]) ej = (cs.take (j + 1)).foldl (postW k) es) := by show _ = _; rw [hej]; exact (post_next hx).symm
                have HEL : Hid (ej.length ≤ 8000) := by
                  have h1 := postW_len k (cs.take j) es
                  have h2 := HLE.out
                  rw [List.length_take, ← hej] at h1
                  show _ ≤ _
                  omega
                rw [← hej] at HJP
                have HRC : Hid (cs = cntsOf (wordsB s)) := HCS.out
                obtain ⟨va, vc, hv, _⟩ := (HJP.out.own x).form
                obtain ⟨vm, hvm⟩ : ∃ vm, vm = (getD x [] ej).length := ⟨_, rfl⟩
                rw [← hvm] at hv
                have HV : Hid (getD x nilV Lj = .slice va vm vc) := hv
                have LK1 : (Instr.lookup 75 (.map (some b1)) (.string x) false).run Try.prog wr = .ok (.slice va vm vc) wr := by
                  rw [HJ1.out.look Try.underlying75 (zeroL wr) hxm]
                  exact congrArg (fun u => Result.ok u wr) hv
                have LK2 : (Instr.lookup 76 (.map (some b2)) (.string x) false).run Try.prog wr = .ok (.int .i64 c) wr := by
                  rw [HJ2.out.look Try.underlying76 (zeroI wr) hxm, getD_vI]
                  congr 2
                  exact getD_at (by rw [HRC.out]; exact cntsOf_rise _) hx
                have HOW : Hid (OwnL poC 43 2 wr 0 (.slice va vm vc) (getD x [] ej)) := by have h := HJP.out.own x; rw [hv] at h; exact h
                have HVM : Hid ((getD x [] ej).length < 2 ^ 30) := by
                  have hio := ix_take HT.out (by rw [← HN.out]; omega)
                  rw [← HES.out] at hio
                  have h1 := post_bound hio (by omega) x
                  have hrc : RiseK (cs.take j) := List.Pairwise.sublist (List.take_sublist _ _) (by rw [HRC.out]; exact cntsOf_rise _)
                  have h2 := post_few (t := k) hrc hio.rise x
                  rw [← hej] at h2
                  show _ < _
                  omega
                clear hc hx hx1 hv hvm hej
                go_wp2_with (first
                  | (at_builtin; go_loud (refine app_post rfl _ _ rfl 0 (.slice va vm vc) (getD x [] ej) rfl (OwnL.below HOW.out (below_a1' _ _)) _ ((k : Int), c) rfl (cell_b1 _ _ _ _).1 (cell_b1 _ _ _ _).2 HVM.out (Nat.zero_le _) ?_)))
                intro v' w5 ho5 _ hg5
                obtain ⟨wa5, hwa5⟩ : ∃ wa5, wa5 = wr.alloc (.cells #[.int .i64 k, .int .i64 c] 43) := ⟨_, rfl⟩
                rw [← hwa5] at hg5
                have hba : Below wr.heap.size wr wa5 := by rw [hwa5]; exact below_a1' _ _
                have hza : wr.heap.size ≤ wa5.heap.size := hba.size
                have hvs : ∀ q, (Value.slice va vm vc).ownBlock = some q → Sj q := fun q hq => HJP.out.blk x q (by rw [HV.out]; exact hq)
                have HP5 : Hid (PL w5 (fun q => Sj q ∨ wa5.heap.size ≤ q) (setK x v' Lj) (setK x (getD x [] ej ++ [((k : Int), c)]) ej)) := (HJP.out.below hba).put ho5 (by rw [HV.out]; exact hg5.kept) (by rw [HV.out]; exact hg5.o.moved)
                have H15 : Hid (MapAt w5 b1 Lj) := (HJ1.out.below hba).kept hg5.kept (fun e => by have := (HJS.out b1 (hvs b1 e)).1; omega)
                have H25 : Hid (MapAt w5 b2 (cs.map vI)) := (HJ2.out.below hba).kept hg5.kept (fun e => by have := (HJS.out b2 (hvs b2 e)).1; omega)
                have HK5 : Hid (KeptO (fun q => q = b1 ∨ (W.heap.size ≤ q ∧ q < wp.heap.size)) w4 w5) := (HKJ.out.front (KeptO.of (S := fun _ => False) hba) (fun q _ h => h.elim)).front hg5.kept (fun q hq e => by have := HJS.out q (hvs q e); exact .inr ⟨this.1, by omega⟩)
                have HLL : Hid (Lj.length < maxLen) := by
                  have h1 := congrArg List.length HJP.out.keys
                  simp only [List.length_map] at h1
                  have h2 := HEL.out
                  show _ < _
                  unfold maxLen
                  omega
                have HSZ : Hid (w4.heap.size ≤ wa5.heap.size) := Nat.le_trans zj hza
                obtain ⟨va', vc', hv', _⟩ := ho5.form
                obtain ⟨vm', hvm'⟩ : ∃ vm', vm' = (getD x [] ej ++ [((k : Int), c)]).length := ⟨_, rfl⟩
                rw [← hvm'] at hv'
                subst hv'
                clear hwa5 hba hza hvs ho5 hg5 hvm' LK1 LK2
                go_wp2_with (at_mapUpdate; go_loud (refine wpList_mapSet rfl _ _ _ 75 rfl 39 Try.underlying75 b1 Lj rfl H15.out HLL.out x (.slice va' vm' vc') rfl hxm rfl ?_))
                intro w6 hm6 hg6 hz6
                have HM6 : Hid (MapAt w6 b1 (setK x (.slice va' vm' vc') Lj)) := hm6
                have H26 : Hid (MapAt w6 b2 (cs.map vI)) := H25.out.kept (grown_kept hg6) (fun e => b12 e.symm)
                have HP6 : Hid (PL w6 (fun q => Sj q ∨ wa5.heap.size ≤ q) (setK x (.slice va' vm' vc') Lj) ((cs.take (j + 1)).foldl (postW k) es)) := by
                  have h := HP5.out.kept (grown_kept hg6) (fun q hq e => by
                    rcases hq with hq | hq
                    · have := (HJS.out q hq).1; omega
                    · have := HSZ.out; omega)
                  rw [HEJ.out] at h
                  exact h
                have HK6 : Hid (KeptO (fun q => q = b1 ∨ (W.heap.size ≤ q ∧ q < wp.heap.size)) w4 w6) := HK5.out.front (grown_kept hg6) (fun q _ e => .inl e)
                clear hm6 hg6 hz6 X0
                go_wp2
                go_roundw
                case rel =>
                  refine ⟨j + 1, _, _, by omega, by go_num, HM6, H26, HP6, fun q hq => ?_, HK6.out⟩
                  rcases hq with hq | hq
                  · exact HJS.out q hq
                  · have := HSZ.out
                    exact ⟨by omega, .inr (by omega)⟩
                case measure => simp [intOf]; omega
              · have j1 : ¬ (j : Int) < (kn : Int) := by omega
                have hjk : j = kn := by omega
                subst hjk
                have HPN : Hid (PL wr Sj Lj (ixOf (x0.take (k + 1)))) := by
                  have h := HJP.out
                  have hio := ix_take HT.out (by rw [← HN.out]; omega)
                  rw [HKN.out, List.take_length, HCS.out] at h
                  rw [ixOf_next HXK.out, text_same hio.rise hio.filled hio.notYet, ← HES.out]
                  exact h
                have HTN : Hid (∀ z ∈ x0.take (k + 1), z.size ≤ 200) := fun z hz => by
                  rw [List.take_add_one, HXK.out] at hz
                  rcases List.mem_append.1 hz with h | h
                  · exact HT.out z h
                  · have : z = s := by simpa using h
                    rw [this]
                    exact c2
                have HKN2 : Hid (KeptO (fun q => q = b1 ∨ q = b2) W wr) := ((HKW.out.front HW3.out (fun q _ e => .inr e)).front (KeptO.of (S := fun _ => False) HB4.out) (fun q _ h => h.elim)).front HKJ.out (fun q hq e => by
                  rcases e with e | e
                  · exact .inl e
                  · omega)
                have HSN : Hid (∀ q, Sj q → W.heap.size ≤ q) := fun q hq => (HJS.out q hq).1
                clear HJP HKJ HJS
                go_wp2
                go_roundw
                case rel => exact ⟨k + 1, Lj, _, Sj, by omega, by go_num, HJ1, HJ2, HPN, HSN, HTN, HKN2.out⟩
                case measure => simp [intOf]; omega
      · have hF : fWordsIn s = ([], false) := by unfold fWordsIn; rw [if_neg c2]
        rw [hF]
        have HRC : Hid (w1.cell? ⟨w.heap.size, 0, none⟩ = some (.int .i64 0) ∧ w1.cell? ⟨w.heap.size, 1, none⟩ = some (.slice none 0 0) ∧ w1.frozen? ⟨w.heap.size, 0, none⟩ = false ∧ w1.frozen? ⟨w.heap.size, 1, none⟩ = false) := by
          have hn1 : ¬ (w.heap.size = b1 ∨ w.heap.size = b2) := by omega
          have hlw : w.heap.size < W.heap.size := by omega
          rw [HB1.out.cell (by show w.heap.size < wo.heap.size; omega), HB1.out.cell (by show w.heap.size < wo.heap.size; omega), HB1.out.frozen (by show w.heap.size < wo.heap.size; omega), HB1.out.frozen (by show w.heap.size < wo.heap.size; omega), HKW.out.cell hlw hn1, HKW.out.cell hlw hn1, HKW.out.frozen hlw hn1, HKW.out.frozen hlw hn1]
          exact HR0.out
        obtain ⟨r0, r1, r2, r3⟩ := HRC.out
        have hwr : w.heap.size < w1.heap.size := by omega
        have HNO : Hid (¬ (x0.length ≤ 40 ∧ (∀ s ∈ x0, s.size ≤ 200) ∧ (ixOf x0).length ≤ 200)) := fun h => c2 (h.2.1 s (List.mem_of_getElem? HXK.out))
        have HB9 : Hid (∀ u v, Below w.heap.size w1 ((w1.setCell ⟨w.heap.size, 0, none⟩ u).setCell ⟨w.heap.size, 1, none⟩ v)) := fun u v => ⟨rfl, rfl, rfl, by simp, fun q hq => by rw [heap_set_ne (by omega), heap_set_ne (by omega)]⟩
        have HBN : Hid (Below w.heap.size w w1) := HBR.out.trans (HB1.out.mono HBR.out.size)
        clear hF hws hT1
        go_wp2
        have q0 : (w1.setCell ⟨w.heap.size, 0, none⟩ (.int .i64 0)).cell? ⟨w.heap.size, 0, none⟩ = some (.int .i64 0) := set_same r0
        have q1 : (w1.setCell ⟨w.heap.size, 0, none⟩ (.int .i64 0)).cell? ⟨w.heap.size, 1, none⟩ = some (.slice none 0 0) := set_other r1 (by decide)
        refine bodyPost_ret (v := .tuple #[.agg #[.int .i64 0, .slice none 0 0], .bool false]) (by simp [results, Try.results7, go_sem, q0, q1]) rfl ?_
        exact RIndexOf.no HNO.out (HBN.out.trans (HB9.out _ _))
    · have i1 : ¬ (k : Int) < (n0 : Int) := by omega
      have hkn : k = n0 := by omega
      subst hkn
      have HT0 : Hid (∀ s ∈ x0, s.size ≤ 200) := by have h := HT.out; rw [HN.out, List.take_length] at h; exact h
      have HP0 : Hid (PL wo S L (ixOf x0)) := by have h := HP.out; rw [HN.out, List.take_length] at h; exact h
      have hio : IxOk k (ixOf x0) := by have h := ix_take HT.out (by rw [← HN.out]; omega); rw [HN.out, List.take_length, ← HN.out] at h; exact h
      have HLL : Hid (L.length ≤ 2 ^ 20) := by
        have h1 := congrArg List.length HP0.out.keys
        simp only [List.length_map] at h1
        have h2 := ix_len HT0.out x0.length (Nat.le_refl _)
        rw [List.take_length, ← HN.out] at h2
        show _ ≤ _
        omega
      have HKL : Hid (∀ p ∈ L, p.1.size ≤ maxLen) := fun p hp => by
        have h1 : p.1 ∈ (ixOf x0).map (·.1) := by rw [← HP0.out.keys]; exact List.mem_map.2 ⟨p, hp, rfl⟩
        obtain ⟨q, hq, e⟩ := List.mem_map.1 h1
        have hw := hio.word q hq
        rw [e] at hw
        unfold isWordB isWL at hw
        simp only [decide_eq_true_eq] at hw
        have := (takeW_len 20 p.1.data.toList).1
        rw [hw.2, data_len] at this
        show p.1.size ≤ maxLen
        unfold maxLen
        omega
      clear hio HP
      go_wp2_with fail
      refine (wordsOf_k k b1 L (ixOf x0) S wo HL.out HP0.out HLL.out HKL.out (by unfold IntOk; omega)).mono ?_
      intro e w1 hr
      have HRC : Hid (Below wo.heap.size wo w1 → w1.cell? ⟨w.heap.size, 0, none⟩ = some (.int .i64 0) ∧ w1.cell? ⟨w.heap.size, 1, none⟩ = some (.slice none 0 0) ∧ w1.frozen? ⟨w.heap.size, 0, none⟩ = false ∧ w1.frozen? ⟨w.heap.size, 1, none⟩ = false) := fun hb => by
        have hn1 : ¬ (w.heap.size = b1 ∨ w.heap.size = b2) := by omega
        have hlw : w.heap.size < W.heap.size := by omega
        rw [hb.cell (by show w.heap.size < wo.heap.size; omega), hb.cell (by show w.heap.size < wo.heap.size; omega), hb.frozen (by show w.heap.size < wo.heap.size; omega), hb.frozen (by show w.heap.size < wo.heap.size; omega), HKW.out.cell hlw hn1, HKW.out.cell hlw hn1, HKW.out.frozen hlw hn1, HKW.out.frozen hlw hn1]
        exact HR0.out
      have HB9 : Hid (∀ u v, Below w.heap.size w1 ((w1.setCell ⟨w.heap.size, 0, none⟩ u).setCell ⟨w.heap.size, 1, none⟩ v)) := fun u v => ⟨rfl, rfl, rfl, by simp, fun q hq => by rw [heap_set_ne (by omega), heap_set_ne (by omega)]⟩
      have hwo : w.heap.size < wo.heap.size := by omega
      rcases hr with ⟨hl, a, n, c, rfl, he, hb⟩ | ⟨hl, rfl, hb⟩
      · obtain ⟨r0, r1, r2, r3⟩ := HRC.out hb
        have hwr : w.heap.size < w1.heap.size := by have := hb.size; omega
        have HE : Hid (EB w1 (fun q => S q ∨ wo.heap.size ≤ q) (.slice a n c) (ixOf x0)) := he
        have HL2 : Hid ((ixOf x0).length ≤ 200) := hl
        have HBN : Hid (Below w.heap.size w w1) := HBR.out.trans (hb.mono HBR.out.size)
        clear he hb hl
        go_wp2
        have q0 : (w1.setCell ⟨w.heap.size, 0, none⟩ (.int .i64 k)).cell? ⟨w.heap.size, 0, none⟩ = some (.int .i64 k) := set_same r0
        have q1 : (w1.setCell ⟨w.heap.size, 0, none⟩ (.int .i64 k)).cell? ⟨w.heap.size, 1, none⟩ = some (.slice none 0 0) := set_other r1 (by decide)
        refine bodyPost_ret (v := .tuple #[.agg #[.int .i64 k, .slice a n c], .bool true]) (by simp [results, Try.results7, go_sem, q0, q1]) rfl ?_
        rw [HN.out]
        refine RIndexOf.yes (S := fun q => S q ∨ wo.heap.size ≤ q) (by rw [← HN.out]; omega) HT0.out HL2.out (HE.out.kept (S' := fun q => q = w.heap.size) ⟨rfl, rfl, rfl, by simp, fun q _ hq => by rw [heap_set_ne hq, heap_set_ne hq]⟩ (fun q hq e => ?_)) (fun q hq => ?_) (HBN.out.trans (HB9.out _ _))
        · rcases hq with hq | hq
          · have := HS.out q hq; omega
          · omega
        · rcases hq with hq | hq
          · have := HS.out q hq; omega
          · omega
      · obtain ⟨r0, r1, r2, r3⟩ := HRC.out hb
        have hwr : w.heap.size < w1.heap.size := by have := hb.size; omega
        have HNO : Hid (¬ (x0.length ≤ 40 ∧ (∀ s ∈ x0, s.size ≤ 200) ∧ (ixOf x0).length ≤ 200)) := fun h => by have := h.2.2; omega
        have HBN : Hid (Below w.heap.size w w1) := HBR.out.trans (hb.mono HBR.out.size)
        clear hb hl
        go_wp2
        have q0 : (w1.setCell ⟨w.heap.size, 0, none⟩ (.int .i64 0)).cell? ⟨w.heap.size, 0, none⟩ = some (.int .i64 0) := set_same r0
        have q1 : (w1.setCell ⟨w.heap.size, 0, none⟩ (.int .i64 0)).cell? ⟨w.heap.size, 1, none⟩ = some (.slice none 0 0) := set_other r1 (by decide)
        refine bodyPost_ret (v := .tuple #[.agg #[.int .i64 0, .slice none 0 0], .bool false]) (by simp [results, Try.results7, go_sem, q0, q1]) rfl ?_
        exact RIndexOf.no HNO.out (HBN.out.trans (HB9.out _ _))
end Go.Proofs.Ytikgcgfigcolmaa
