/- RankOf: the specification's. No condition but that a text fits in memory. -/
import Derived.Test.YtkboblfjchkedaaSxZ
namespace Go.Proofs.Ytkboblfjchkedaa
open Go.RowKit Go.Sort
set_option linter.unusedVariables false

/-- The stretch that was met last. -/
def lastL (t : List UInt8) (K : Nat) (l : List Nat) : Nat → List UInt8
  | 0 => []
  | p + 1 => stL t K (l.getD p 0)
/-- The rank that was given last. -/
def numL (t : List UInt8) (K : Nat) (l : List Nat) : Nat → Int
  | 0 => -1
  | p + 1 => ((rkS t K (l.getD p 0) : Nat) : Int)
theorem KeptO.thenB {S : Nat → Prop} {a c d : World} (h : KeptO S a c) (k : Below a.heap.size c d) : KeptO S a d :=
  ⟨k.os.trans h.os, k.tape.trans h.tape, k.output.trans h.output, Nat.le_trans h.size k.size, fun q hq hn => (k.block q hq).trans (h.block q hq hn)⟩
set_option maxHeartbeats 400000 in
theorem l1InS_k (x a b : Int) (w : World) : Calls Try.prog 45 #[.int .i64 x, .int .i64 a, .int .i64 b] w fun e w' => e = .returned (.bool (decide (a ≤ x ∧ x ≤ b))) ∧ w' = w := by
  by_cases h1 : a ≤ x
  · by_cases h2 : x ≤ b
    · go_enter Try.func45, Try.ntmps45
      go_wp2
      go_ret
      exact ⟨by rw [decide_eq_true (by omega)]; rfl, rfl⟩
    · go_enter Try.func45, Try.ntmps45
      go_wp2
      go_ret
      exact ⟨by rw [decide_eq_false (by omega)]; rfl, rfl⟩
  · go_enter Try.func45, Try.ntmps45
    go_wp2
    go_ret
    exact ⟨by rw [decide_eq_false (by omega)]; rfl, rfl⟩

set_option maxRecDepth 100000 in
set_option maxHeartbeats 8000000 in
theorem specRankOf_k (x0 : ByteArray) (x1 : Int) (x2 : Int) (w : World) (h0 : x0.size ≤ 2 ^ 20) (h1 : IntOk x1) (h2 : IntOk x2) :
    Calls Try.prog 21 #[.string x0, .int .i64 x1, .int .i64 x2] w (RRankOf x0 x1 x2 w) := by
  by_cases hg : rkGood x0 x1 x2 = true
  · obtain ⟨hs, k, rfl, hk1, hk2, hd⟩ := rkGood_of hg
    have e0 : ¬ (120 : Int) < (x0.size : Int) := by omega
    have f0 : decide ((120 : Int) < (x0.size : Int)) = false := decide_eq_false e0
    have hmk := makeIntS x0.size (by omega)
    have hc1 := l1InS_k k 1 120
    rw [decide_eq_true (show (1 : Int) ≤ k ∧ (k : Int) ≤ 120 by omega)] at hc1
    have HSL : Hid (∀ x ∈ sufL (tx x0), x < x0.size) := fun x hx => sufL_mem.1 hx
    have HLE : Hid ((sufL (tx x0)).length = x0.size) := by show _ = _; rw [sufL_len, tx_len]
    have HFST : Hid (∀ K y, (sufL (tx x0))[0]? = some y → rkS (tx x0) K y = 0) := fun K y h => rank_first h
    have HNXT : Hid (∀ K q i j, (sufL (tx x0))[q]? = some i → (sufL (tx x0))[q + 1]? = some j → rkS (tx x0) K j = if stL (tx x0) K j = stL (tx x0) K i then rkS (tx x0) K i else rkS (tx x0) K i + 1) := fun K q i j h1 h2 => rank_next h1 h2
    have HPOS : Hid (∀ i, i < (tx x0).length → ∃ q : Nat, (sufL (tx x0))[q]? = some i) := fun i hi => suf_pos hi
    have hsf : Hid (∀ W, Calls Try.prog 31 #[.string x0] W fun e w' => ∃ a n c, e = .returned (.slice a n c) ∧ (kRow kInt).is true w' (fun k => W.heap.size ≤ k) [.slice a n c] (nts (sufL (tx x0))) ∧ Below W.heap.size W w') := fun W => l12Suffixes_k x0 W hs
    obtain ⟨l, hl⟩ : ∃ l, l = sufL (tx x0) := ⟨_, rfl⟩
    rw [← hl] at HSL HLE HFST HNXT HPOS hsf
    clear hl
    obtain ⟨g, hgg⟩ : ∃ g, g = w.heap.size := ⟨_, rfl⟩
    have HG0 : Hid (g = w.heap.size) := hgg
    obtain ⟨W1, hW1⟩ : ∃ W1, W1 = w.alloc (.cells (madeCells #[.int .i64 0] x0.size) 3) := ⟨_, rfl⟩
    have HR1 : Hid ((kRow kInt).is true W1 (fun q => q = g) [.slice (some ⟨g, 0, none⟩) x0.size x0.size] (List.replicate x0.size (0 : Int))) := by
      have hl := heap_alloc_last w (.cells (madeCells #[.int .i64 0] x0.size) 3)
      rw [← hW1, ← hgg] at hl
      exact made_row kInt_plain rfl hl (show inC 0 = [.int .i64 0] from rfl) (by unfold IntOk; omega) rfl (by omega)
    have HB1 : Hid (Below w.heap.size w W1) := by show Below _ _ _; rw [hW1]; exact below_a1r _ _
    have z1 : W1.heap.size = g + 1 := by rw [hW1, hgg]; simp
    rcases hd with rfl | rfl
    · have HF : Hid (fRankOf x0 k 0 = (nts (rkAll (tx x0) (k)), true)) := by show _ = _; unfold fRankOf; rw [if_pos hg]; simp [rkK]
      have hc2 := l1InS_k 0 0 1
      rw [decide_eq_true (show (0 : Int) ≤ 0 ∧ (0 : Int) ≤ 1 by omega)] at hc2
      obtain ⟨K, hK⟩ : ∃ K, K = k := ⟨_, rfl⟩
      have HF : Hid (fRankOf x0 k 0 = (nts (rkAll (tx x0) K), true)) := by show _ = _; rw [hK]; exact HF.out
      have hK2 : K ≤ 240 := by omega
      clear hg h1 h2
      go_enter Try.func21, Try.ntmps21
      go_wp2_with fail
      refine (hc1 _).mono ?_
      rintro e w9 ⟨rfl, hw9⟩
      rw [hw9]
      clear hw9 w9
      go_wp2_with fail
      refine (hc2 _).mono ?_
      rintro e w9 ⟨rfl, hw9⟩
      rw [hw9]
      clear hw9 w9
      go_wp2_with fail
      rw [← hgg, ← hW1]
      refine (hsf.out W1).mono ?_
      rintro e w2 ⟨a0, n, c0, rfl, hr, hb⟩
      have HB2 : Hid (Below w.heap.size w w2) := HB1.out.trans (hb.mono HB1.out.size)
      obtain ⟨W1s, hW1s⟩ : ∃ W1s, W1s = W1.heap.size := ⟨_, rfl⟩
      have HRL : Hid ((kRow kInt).is false w2 (fun k => W1s ≤ k) [.slice a0 n c0] (nts l)) := by show (kRow kInt).is _ _ _ _ _; rw [hW1s]; exact (kRow kInt).read hr
      have HR2 : Hid ((kRow kInt).is true w2 (fun q => q = g) [.slice (some ⟨g, 0, none⟩) x0.size x0.size] (List.replicate x0.size (0 : Int))) := Kd.below HR1.out hb
      have z2 := hb.size
      have hn0 : n = x0.size := by have := row_len hr; rw [nts_len, HLE.out] at this; exact this
      have zg2 : g < w2.heap.size := by omega
      have zg1 : g < W1s := by omega
      have HN0 : Hid (n = x0.size) := hn0
      have HNS : Hid (n = (tx x0).length) := by show _ = _; rw [tx_len]; exact hn0
      rw [← hn0] at HR2 HLE hs ⊢
      have HFST : Hid (∀ y, l[0]? = some y → rkS (tx x0) K y = 0) := HFST.out K
      have HNXT : Hid (∀ q i j, l[q]? = some i → l[q + 1]? = some j → rkS (tx x0) K j = if stL (tx x0) K j = stL (tx x0) K i then rkS (tx x0) K i else rkS (tx x0) K i + 1) := HNXT.out K
      have hnx : (n : Int) = (x0.size : Int) := by omega
      have hKI : (k : Int) = (K : Int) := by omega
      have HKI : Hid ((k : Int) = (K : Int)) := hKI
      clear hr hb hW1s hn0 hc1 hc2 hmk hW1 hgg z1 HR1 e0 hnx hKI hK
      go_wp2_with fail
      rw [HKI.out]
      go_loopw [8, 9, 10, 38] (fun v8 v9 v10 kv wr => ∃ p : Nat, p ≤ n ∧ kv = .int .i64 p ∧ v9 = .string (strL (lastL (tx x0) K l p)) ∧ v10 = .int .i64 (numL (tx x0) K l p) ∧ (∃ M, Hid (M.length = p) ∧ Hid (OwnL inC 3 1 wr w2.heap.size v8 M)) ∧ (∃ L : List Nat, Hid (L.length = n) ∧ Hid (∀ q i, q < p → l[q]? = some i → L[i]? = some (rkS (tx x0) K i)) ∧ Hid ((kRow kInt).is true wr (fun q => q = g) [.slice (some ⟨g, 0, none⟩) n n] (nts L))) ∧ Hid (KeptO (fun q => q = g) w2 wr)) (fun _ _ _ kv _ => n - (intOf kv).toNat)
      case atStart => exact ⟨0, Nat.zero_le _, rfl, rfl, rfl, ⟨[], rfl, OwnL.nil _ _ _ _ _⟩, ⟨List.replicate n 0, by show _ = _; simp, fun q i hq => by omega, by show (kRow kInt).is _ _ _ _ _; rw [show nts (List.replicate n 0) = List.replicate n (0 : Int) by simp [nts]]; exact HR2.out⟩, KeptO.refl _ _⟩
      case round =>
        obtain ⟨p, hp, rfl, rfl, rfl, ⟨M, HM, HO⟩, ⟨L, HL, HI, HR⟩, HX⟩ := hrel
        have zr := HX.out.size
        obtain ⟨av, cv, hv, hcv⟩ := HO.out.form
        subst hv
        rw [HM.out] at HO hcv ⊢
        by_cases hlt : p < n
        · obtain ⟨y, hy⟩ : ∃ y, l[p]? = some y := ⟨_, List.getElem?_eq_getElem (by rw [HLE.out]; exact hlt)⟩
          obtain ⟨b, o, rfl, hb, hbg, A2⟩ := rowI_at ((kRow kInt).keep HRL.out zr (fun q hq2 hq => HX.out.block q hq2 (fun e => by have : W1s ≤ q := hq; omega))) (nts_at hy)
          have hys : y < n := by have h1 := HSL.out y (List.mem_of_getElem? hy); have h2 := HN0.out; omega
          have HLA : Hid (lastL (tx x0) K l (p + 1) = stL (tx x0) K y) := by show stL (tx x0) K (l.getD p 0) = _; rw [List.getD_eq_getElem?_getD, hy]; rfl
          have HNA : Hid (numL (tx x0) K l (p + 1) = ((rkS (tx x0) K y : Nat) : Int)) := by show ((rkS (tx x0) K (l.getD p 0) : Nat) : Int) = _; rw [List.getD_eq_getElem?_getD, hy]; rfl
          have hrk : rkS (tx x0) K y ≤ 120 := by have := rkS_lt (tx x0) K y (by rw [← HNS.out]; omega); rw [← HNS.out] at this; omega
          -- what the texts are
          have HNEW : Hid (if p = 0 then rkS (tx x0) K y = 0 ∧ numL (tx x0) K l p = -1 else (0 ≤ numL (tx x0) K l p ∧ numL (tx x0) K l p ≤ 120 ∧ ((rkS (tx x0) K y : Nat) : Int) = if stL (tx x0) K y = lastL (tx x0) K l p then numL (tx x0) K l p else numL (tx x0) K l p + 1)) := by
            show if _ then _ else _
            split
            · next e => subst e; exact ⟨HFST.out y hy, rfl⟩
            · next e =>
              obtain ⟨q, rfl⟩ : ∃ q, p = q + 1 := ⟨p - 1, by omega⟩
              obtain ⟨x, hx⟩ : ∃ x, l[q]? = some x := ⟨_, List.getElem?_eq_getElem (by rw [HLE.out]; omega)⟩
              have e1 : numL (tx x0) K l (q + 1) = ((rkS (tx x0) K x : Nat) : Int) := by show ((rkS (tx x0) K (l.getD q 0) : Nat) : Int) = _; rw [List.getD_eq_getElem?_getD, hx]; rfl
              have e2 : lastL (tx x0) K l (q + 1) = stL (tx x0) K x := by show stL (tx x0) K (l.getD q 0) = _; rw [List.getD_eq_getElem?_getD, hx]; rfl
              have h3 := HNXT.out q x y hx hy
              have hxs : x < n := by have h1 := HSL.out x (List.mem_of_getElem? hx); have h2 := HN0.out; omega
              have h4 := rkS_lt (tx x0) K x (by rw [← HNS.out]; omega)
              rw [← HNS.out] at h4
              rw [e1, e2, h3]
              refine ⟨by omega, by omega, ?_⟩
              split <;> simp
          have HPUT : Hid (∀ W, (kRow kInt).is true W (fun q => q = g) [.slice (some ⟨g, 0, none⟩) n n] (nts L) → (kRow kInt).is true (W.setCell ⟨g, y, none⟩ (.int .i64 ((rkS (tx x0) K y : Nat) : Int))) (fun q => q = g) [.slice (some ⟨g, 0, none⟩) n n] (nts (L.set y (rkS (tx x0) K y)))) := fun W hW => by
            have := kInt_plain.put1 rfl hW (i := y) (x := ((rkS (tx x0) K y : Nat) : Int)) (v := .int .i64 ((rkS (tx x0) K y : Nat) : Int)) (by rw [nts_len, HL.out]; omega) rfl (by unfold IntOk; omega) (by rw [nts_len, HL.out]; omega)
            rw [show 0 + y = y by omega, show (nts L).set y ((rkS (tx x0) K y : Nat) : Int) = nts (L.set y (rkS (tx x0) K y)) by simp [nts, List.map_set]] at this
            exact this
          have HNX : Hid (∀ q i, q < p + 1 → l[q]? = some i → (L.set y (rkS (tx x0) K y))[i]? = some (rkS (tx x0) K i)) := fun q i hq hi => by
            rw [List.getElem?_set]
            by_cases e : y = i
            · subst e
              rw [if_pos rfl, if_pos (by rw [HL.out]; omega)]
            · rw [if_neg e]
              refine HI.out q i ?_ hi
              rcases Nat.lt_or_ge q p with h | h
              · exact h
              · obtain rfl : q = p := by omega
                rw [hy] at hi
                injection hi with hi
                exact absurd hi e
          have HLL : Hid ((L.set y (rkS (tx x0) K y)).length = n) := by show _ = _; rw [List.length_set]; exact HL.out
          have A0 : ∃ v, wr.cell? ⟨g, y, none⟩ = some v ∧ wr.frozen? ⟨g, y, none⟩ = false := by
            obtain ⟨u, hu⟩ : ∃ u, (nts L)[y]? = some u := ⟨_, List.getElem?_eq_getElem (by rw [nts_len, HL.out]; omega)⟩
            have h1 := kInt_plain.cell HR.out hu (j := 0) rfl
            have h2 := kInt_plain.open HR.out hu (j := 0) rfl
            rw [show 0 + y * kInt.wd + 0 = y by show 0 + y * 1 + 0 = _; omega] at h1 h2
            exact ⟨_, h1, h2⟩
          obtain ⟨v0, A3, A4⟩ := A0
          have hgr : g < wr.heap.size := World.block_lt_of_cell? _ _ A3
          have HEX1 : Hid (x0.size - y ≤ K → x0.extract y x0.size = strL (stL (tx x0) K y)) := fun h => by
            have := enc_ext x0 y K x0.size (by have := HN0.out; omega)
            injection this
          have HEX2 : Hid ((x0.extract y x0.size).extract 0 K = strL (stL (tx x0) K y)) := by
            show _ = _
            apply ByteArray.ext
            apply Array.toList_inj.1
            have h : tx ((x0.extract y x0.size).extract 0 K) = stL (tx x0) K y := by
              rw [tx_ext, tx_end]
              simp [stL]
            simpa [tx, strL] using h
          have hes : (x0.extract y x0.size).size = x0.size - y := by rw [ByteArray.size_extract]; have := HN0.out; omega
          have HCMP : Hid (((strL (stL (tx x0) K y)).toList == (strL (lastL (tx x0) K l p)).toList) = decide (stL (tx x0) K y = lastL (tx x0) K l p)) := by
            show _ = _
            rw [ByteArray.toList_eq, ByteArray.toList_eq]
            by_cases e : stL (tx x0) K y = lastL (tx x0) K l p
            · rw [e]; simp
            · rw [decide_eq_false e]
              simpa [strL] using e
          obtain ⟨X, hX⟩ : ∃ X, X = strL (stL (tx x0) K y) := ⟨_, rfl⟩
          have HLA2 : Hid (X = strL (lastL (tx x0) K l (p + 1))) := by show _ = _; rw [hX, HLA.out]
          rw [← hX] at HEX1 HEX2 HCMP
          obtain ⟨Y, hY⟩ : ∃ Y, Y = strL (lastL (tx x0) K l p) := ⟨_, rfl⟩
          rw [← hY] at HCMP ⊢
          obtain ⟨c, hc⟩ : ∃ c, c = decide (stL (tx x0) K y = lastL (tx x0) K l p) := ⟨_, rfl⟩
          rw [← hc] at HCMP
          have HC : Hid ((c = true) = (stL (tx x0) K y = lastL (tx x0) K l p)) := by show _ = _; rw [hc]; simp
          have HNEW2 : Hid (if p = 0 then rkS (tx x0) K y = 0 ∧ numL (tx x0) K l p = -1 else (0 ≤ numL (tx x0) K l p ∧ numL (tx x0) K l p ≤ 120 ∧ ((rkS (tx x0) K y : Nat) : Int) = if c = true then numL (tx x0) K l p else numL (tx x0) K l p + 1)) := by
            have h := HNEW.out
            show if _ then _ else _
            by_cases e : p = 0
            · rw [if_pos e] at h ⊢; exact h
            · rw [if_neg e] at h ⊢
              refine ⟨h.1, h.2.1, ?_⟩
              rw [h.2.2]
              by_cases e2 : stL (tx x0) K y = lastL (tx x0) K l p
              · rw [if_pos e2, if_pos (by rw [hc]; simpa using e2)]
              · rw [if_neg e2, if_neg (by rw [hc]; simpa using e2)]
          obtain ⟨z, hz⟩ : ∃ z, z = numL (tx x0) K l p := ⟨_, rfl⟩
          rw [← hz] at HNEW2 ⊢
          obtain ⟨r, hr⟩ : ∃ r, r = rkS (tx x0) K y := ⟨_, rfl⟩
          rw [← hr] at HNEW2 HPUT HNX HLL hrk HNA
          obtain ⟨L', hL'⟩ : ∃ L', L' = L.set y r := ⟨_, rfl⟩
          rw [← hL'] at HPUT HNX HLL
          clear hX hY hc hz hr HNEW HLA HC hy hL'
          have hcmp := HCMP.out
          have k0 : (0 : Int) ≤ (p : Int) := by omega
          have k1 : (p : Int) < (n : Int) := by omega
          have k2 : (y : Int) ≤ (x0.size : Int) := by have := HN0.out; omega
          have k3 : (y : Int) < (n : Int) := by omega
          have k4 : (0 : Int) ≤ (y : Int) := by omega
          -- the stretch, of whatever length
          obtain ⟨m, hm⟩ : ∃ m, m = x0.size - y := ⟨_, rfl⟩
          rw [← hm] at hes
          have HME : Hid (m = x0.size - y) := hm
          clear hm
          by_cases hlong : K < m
          · have k6 : (K : Int) < (m : Int) := by omega
            go_upto_region 15 with fail
            rw [HEX2.out]
            by_cases hp0 : p = 0
            · have hh := HNEW2.out
              rw [if_pos hp0] at hh
              obtain ⟨rfl, rfl⟩ : r = 0 ∧ z = -1 := hh
              clear hcmp
              have HOW : Hid (OwnL inC 3 1 (wr.setCell ⟨g, y, none⟩ (.int .i64 (0 : Int))) w2.heap.size (.slice av p cv) M) := OwnL.kept HO.out (setCell_kept g y _ wr) (fun q hq e => by omega)
              have HRW : Hid ((kRow kInt).is true (wr.setCell ⟨g, y, none⟩ (.int .i64 (0 : Int))) (fun q => q = g) [.slice (some ⟨g, 0, none⟩) n n] (nts L')) := HPUT.out wr HR.out
              have HXW : Hid (KeptO (fun q => q = g) w2 (wr.setCell ⟨g, y, none⟩ (.int .i64 (0 : Int)))) := HX.out.trans (setCell_kept g y _ wr)
              have zW : (wr.setCell ⟨g, y, none⟩ (.int .i64 (0 : Int))).heap.size = wr.heap.size := World.size_setCell _ _ _
              go_upto_region 19 with fail
              obtain ⟨W3, hW3⟩ : ∃ W3, W3 = wr.setCell ⟨g, y, none⟩ (.int .i64 (0 : Int)) := ⟨_, rfl⟩
              rw [← hW3] at HOW HRW HXW zW ⊢
              have zW1 : wr.heap.size ≤ W3.heap.size := by omega
              clear hW3 zW
              go_wp2_with (at_builtin; refine app_int rfl _ _ rfl w2.heap.size _ M rfl (OwnL.below HOW.out (below_a1r _ _)) _ (0 : Int) rfl (by simp [World.cell?_alloc_new]) (by rw [HM.out]; omega) (by simp; omega) ?_)
              intro v4 w4 ho4 hb4 _
              have HO4 : Hid (OwnL inC 3 1 w4 w2.heap.size v4 (M ++ [(0 : Int)])) := ho4
              have z4 : wr.heap.size ≤ w4.heap.size := by have := hb4.size; simp at this; omega
              have HR4 : Hid ((kRow kInt).is true w4 (fun q => q = g) [.slice (some ⟨g, 0, none⟩) n n] (nts L')) := (kRow kInt).keep HRW.out (by have := hb4.size; simp at this; omega) (fun q _ hq => by obtain rfl : q = g := hq; rw [hb4.block q zg2]; exact (below_a1r _ _).block q (by omega))
              have HX4 : Hid (KeptO (fun q => q = g) w2 w4) := (HXW.out.trans (KeptO.of (below_a1r _ _))).thenB hb4
              clear ho4 hb4
              go_wp2
              go_roundw
              case rel => exact ⟨p + 1, by omega, by go_num, by rw [HLA2.out], by rw [HNA.out]; simp, ⟨_, by show _ = _; simp [HM.out], HO4⟩, ⟨L', HLL, HNX, HR4⟩, HX4⟩
              case measure => simp [intOf]; omega
            · have hh := HNEW2.out
              rw [if_neg hp0] at hh
              obtain ⟨hz0, hz1, hzr⟩ := hh
              have k5 : decide (z < 0) = false := decide_eq_false (by omega)
              cases c with
              | true =>
                rw [if_pos rfl] at hzr
                subst hzr
                clear HNEW2 HCMP
                have HOW : Hid (OwnL inC 3 1 (wr.setCell ⟨g, y, none⟩ (.int .i64 (r : Int))) w2.heap.size (.slice av p cv) M) := OwnL.kept HO.out (setCell_kept g y _ wr) (fun q hq e => by omega)
                have HRW : Hid ((kRow kInt).is true (wr.setCell ⟨g, y, none⟩ (.int .i64 (r : Int))) (fun q => q = g) [.slice (some ⟨g, 0, none⟩) n n] (nts L')) := HPUT.out wr HR.out
                have HXW : Hid (KeptO (fun q => q = g) w2 (wr.setCell ⟨g, y, none⟩ (.int .i64 (r : Int)))) := HX.out.trans (setCell_kept g y _ wr)
                have zW : (wr.setCell ⟨g, y, none⟩ (.int .i64 (r : Int))).heap.size = wr.heap.size := World.size_setCell _ _ _
                go_upto_region 19 with fail
                obtain ⟨W3, hW3⟩ : ∃ W3, W3 = wr.setCell ⟨g, y, none⟩ (.int .i64 (r : Int)) := ⟨_, rfl⟩
                rw [← hW3] at HOW HRW HXW zW ⊢
                have zW1 : wr.heap.size ≤ W3.heap.size := by omega
                clear hW3 zW
                go_wp2_with (at_builtin; refine app_int rfl _ _ rfl w2.heap.size _ M rfl (OwnL.below HOW.out (below_a1r _ _)) _ (r : Int) rfl (by simp [World.cell?_alloc_new]) (by rw [HM.out]; omega) (by simp; omega) ?_)
                intro v4 w4 ho4 hb4 _
                have HO4 : Hid (OwnL inC 3 1 w4 w2.heap.size v4 (M ++ [(r : Int)])) := ho4
                have z4 : wr.heap.size ≤ w4.heap.size := by have := hb4.size; simp at this; omega
                have HR4 : Hid ((kRow kInt).is true w4 (fun q => q = g) [.slice (some ⟨g, 0, none⟩) n n] (nts L')) := (kRow kInt).keep HRW.out (by have := hb4.size; simp at this; omega) (fun q _ hq => by obtain rfl : q = g := hq; rw [hb4.block q zg2]; exact (below_a1r _ _).block q (by omega))
                have HX4 : Hid (KeptO (fun q => q = g) w2 w4) := (HXW.out.trans (KeptO.of (below_a1r _ _))).thenB hb4
                clear ho4 hb4
                go_wp2
                go_roundw
                case rel => exact ⟨p + 1, by omega, by go_num, by rw [HLA2.out], by rw [HNA.out], ⟨_, by show _ = _; simp [HM.out], HO4⟩, ⟨L', HLL, HNX, HR4⟩, HX4⟩
                case measure => simp [intOf]; omega
              | false =>
                rw [if_neg (by decide)] at hzr
                obtain rfl : z = (r : Int) - 1 := by omega
                clear hzr HNEW2 HCMP
                have HOW : Hid (OwnL inC 3 1 (wr.setCell ⟨g, y, none⟩ (.int .i64 (r : Int))) w2.heap.size (.slice av p cv) M) := OwnL.kept HO.out (setCell_kept g y _ wr) (fun q hq e => by omega)
                have HRW : Hid ((kRow kInt).is true (wr.setCell ⟨g, y, none⟩ (.int .i64 (r : Int))) (fun q => q = g) [.slice (some ⟨g, 0, none⟩) n n] (nts L')) := HPUT.out wr HR.out
                have HXW : Hid (KeptO (fun q => q = g) w2 (wr.setCell ⟨g, y, none⟩ (.int .i64 (r : Int)))) := HX.out.trans (setCell_kept g y _ wr)
                have zW : (wr.setCell ⟨g, y, none⟩ (.int .i64 (r : Int))).heap.size = wr.heap.size := World.size_setCell _ _ _
                go_upto_region 19 with fail
                obtain ⟨W3, hW3⟩ : ∃ W3, W3 = wr.setCell ⟨g, y, none⟩ (.int .i64 (r : Int)) := ⟨_, rfl⟩
                rw [← hW3] at HOW HRW HXW zW ⊢
                have zW1 : wr.heap.size ≤ W3.heap.size := by omega
                clear hW3 zW
                go_wp2_with (at_builtin; refine app_int rfl _ _ rfl w2.heap.size _ M rfl (OwnL.below HOW.out (below_a1r _ _)) _ (r : Int) rfl (by simp [World.cell?_alloc_new]) (by rw [HM.out]; omega) (by simp; omega) ?_)
                intro v4 w4 ho4 hb4 _
                have HO4 : Hid (OwnL inC 3 1 w4 w2.heap.size v4 (M ++ [(r : Int)])) := ho4
                have z4 : wr.heap.size ≤ w4.heap.size := by have := hb4.size; simp at this; omega
                have HR4 : Hid ((kRow kInt).is true w4 (fun q => q = g) [.slice (some ⟨g, 0, none⟩) n n] (nts L')) := (kRow kInt).keep HRW.out (by have := hb4.size; simp at this; omega) (fun q _ hq => by obtain rfl : q = g := hq; rw [hb4.block q zg2]; exact (below_a1r _ _).block q (by omega))
                have HX4 : Hid (KeptO (fun q => q = g) w2 w4) := (HXW.out.trans (KeptO.of (below_a1r _ _))).thenB hb4
                clear ho4 hb4
                go_wp2
                go_roundw
                case rel => exact ⟨p + 1, by omega, by go_num, by rw [HLA2.out], by rw [HNA.out], ⟨_, by show _ = _; simp [HM.out], HO4⟩, ⟨L', HLL, HNX, HR4⟩, HX4⟩
                case measure => simp [intOf]; omega
          · have k6 : ¬ (K : Int) < (m : Int) := by omega
            go_upto_region 15 with fail
            rw [HEX1.out (by have := HME.out; omega)]
            by_cases hp0 : p = 0
            · have hh := HNEW2.out
              rw [if_pos hp0] at hh
              obtain ⟨rfl, rfl⟩ : r = 0 ∧ z = -1 := hh
              clear hcmp
              have HOW : Hid (OwnL inC 3 1 (wr.setCell ⟨g, y, none⟩ (.int .i64 (0 : Int))) w2.heap.size (.slice av p cv) M) := OwnL.kept HO.out (setCell_kept g y _ wr) (fun q hq e => by omega)
              have HRW : Hid ((kRow kInt).is true (wr.setCell ⟨g, y, none⟩ (.int .i64 (0 : Int))) (fun q => q = g) [.slice (some ⟨g, 0, none⟩) n n] (nts L')) := HPUT.out wr HR.out
              have HXW : Hid (KeptO (fun q => q = g) w2 (wr.setCell ⟨g, y, none⟩ (.int .i64 (0 : Int)))) := HX.out.trans (setCell_kept g y _ wr)
              have zW : (wr.setCell ⟨g, y, none⟩ (.int .i64 (0 : Int))).heap.size = wr.heap.size := World.size_setCell _ _ _
              go_upto_region 19 with fail
              obtain ⟨W3, hW3⟩ : ∃ W3, W3 = wr.setCell ⟨g, y, none⟩ (.int .i64 (0 : Int)) := ⟨_, rfl⟩
              rw [← hW3] at HOW HRW HXW zW ⊢
              have zW1 : wr.heap.size ≤ W3.heap.size := by omega
              clear hW3 zW
              go_wp2_with (at_builtin; refine app_int rfl _ _ rfl w2.heap.size _ M rfl (OwnL.below HOW.out (below_a1r _ _)) _ (0 : Int) rfl (by simp [World.cell?_alloc_new]) (by rw [HM.out]; omega) (by simp; omega) ?_)
              intro v4 w4 ho4 hb4 _
              have HO4 : Hid (OwnL inC 3 1 w4 w2.heap.size v4 (M ++ [(0 : Int)])) := ho4
              have z4 : wr.heap.size ≤ w4.heap.size := by have := hb4.size; simp at this; omega
              have HR4 : Hid ((kRow kInt).is true w4 (fun q => q = g) [.slice (some ⟨g, 0, none⟩) n n] (nts L')) := (kRow kInt).keep HRW.out (by have := hb4.size; simp at this; omega) (fun q _ hq => by obtain rfl : q = g := hq; rw [hb4.block q zg2]; exact (below_a1r _ _).block q (by omega))
              have HX4 : Hid (KeptO (fun q => q = g) w2 w4) := (HXW.out.trans (KeptO.of (below_a1r _ _))).thenB hb4
              clear ho4 hb4
              go_wp2
              go_roundw
              case rel => exact ⟨p + 1, by omega, by go_num, by rw [HLA2.out], by rw [HNA.out]; simp, ⟨_, by show _ = _; simp [HM.out], HO4⟩, ⟨L', HLL, HNX, HR4⟩, HX4⟩
              case measure => simp [intOf]; omega
            · have hh := HNEW2.out
              rw [if_neg hp0] at hh
              obtain ⟨hz0, hz1, hzr⟩ := hh
              have k5 : decide (z < 0) = false := decide_eq_false (by omega)
              cases c with
              | true =>
                rw [if_pos rfl] at hzr
                subst hzr
                clear HNEW2 HCMP
                have HOW : Hid (OwnL inC 3 1 (wr.setCell ⟨g, y, none⟩ (.int .i64 (r : Int))) w2.heap.size (.slice av p cv) M) := OwnL.kept HO.out (setCell_kept g y _ wr) (fun q hq e => by omega)
                have HRW : Hid ((kRow kInt).is true (wr.setCell ⟨g, y, none⟩ (.int .i64 (r : Int))) (fun q => q = g) [.slice (some ⟨g, 0, none⟩) n n] (nts L')) := HPUT.out wr HR.out
                have HXW : Hid (KeptO (fun q => q = g) w2 (wr.setCell ⟨g, y, none⟩ (.int .i64 (r : Int)))) := HX.out.trans (setCell_kept g y _ wr)
                have zW : (wr.setCell ⟨g, y, none⟩ (.int .i64 (r : Int))).heap.size = wr.heap.size := World.size_setCell _ _ _
                go_upto_region 19 with fail
                obtain ⟨W3, hW3⟩ : ∃ W3, W3 = wr.setCell ⟨g, y, none⟩ (.int .i64 (r : Int)) := ⟨_, rfl⟩
                rw [← hW3] at HOW HRW HXW zW ⊢
                have zW1 : wr.heap.size ≤ W3.heap.size := by omega
                clear hW3 zW
                go_wp2_with (at_builtin; refine app_int rfl _ _ rfl w2.heap.size _ M rfl (OwnL.below HOW.out (below_a1r _ _)) _ (r : Int) rfl (by simp [World.cell?_alloc_new]) (by rw [HM.out]; omega) (by simp; omega) ?_)
                intro v4 w4 ho4 hb4 _
                have HO4 : Hid (OwnL inC 3 1 w4 w2.heap.size v4 (M ++ [(r : Int)])) := ho4
                have z4 : wr.heap.size ≤ w4.heap.size := by have := hb4.size; simp at this; omega
                have HR4 : Hid ((kRow kInt).is true w4 (fun q => q = g) [.slice (some ⟨g, 0, none⟩) n n] (nts L')) := (kRow kInt).keep HRW.out (by have := hb4.size; simp at this; omega) (fun q _ hq => by obtain rfl : q = g := hq; rw [hb4.block q zg2]; exact (below_a1r _ _).block q (by omega))
                have HX4 : Hid (KeptO (fun q => q = g) w2 w4) := (HXW.out.trans (KeptO.of (below_a1r _ _))).thenB hb4
                clear ho4 hb4
                go_wp2
                go_roundw
                case rel => exact ⟨p + 1, by omega, by go_num, by rw [HLA2.out], by rw [HNA.out], ⟨_, by show _ = _; simp [HM.out], HO4⟩, ⟨L', HLL, HNX, HR4⟩, HX4⟩
                case measure => simp [intOf]; omega
              | false =>
                rw [if_neg (by decide)] at hzr
                obtain rfl : z = (r : Int) - 1 := by omega
                clear hzr HNEW2 HCMP
                have HOW : Hid (OwnL inC 3 1 (wr.setCell ⟨g, y, none⟩ (.int .i64 (r : Int))) w2.heap.size (.slice av p cv) M) := OwnL.kept HO.out (setCell_kept g y _ wr) (fun q hq e => by omega)
                have HRW : Hid ((kRow kInt).is true (wr.setCell ⟨g, y, none⟩ (.int .i64 (r : Int))) (fun q => q = g) [.slice (some ⟨g, 0, none⟩) n n] (nts L')) := HPUT.out wr HR.out
                have HXW : Hid (KeptO (fun q => q = g) w2 (wr.setCell ⟨g, y, none⟩ (.int .i64 (r : Int)))) := HX.out.trans (setCell_kept g y _ wr)
                have zW : (wr.setCell ⟨g, y, none⟩ (.int .i64 (r : Int))).heap.size = wr.heap.size := World.size_setCell _ _ _
                go_upto_region 19 with fail
                obtain ⟨W3, hW3⟩ : ∃ W3, W3 = wr.setCell ⟨g, y, none⟩ (.int .i64 (r : Int)) := ⟨_, rfl⟩
                rw [← hW3] at HOW HRW HXW zW ⊢
                have zW1 : wr.heap.size ≤ W3.heap.size := by omega
                clear hW3 zW
                go_wp2_with (at_builtin; refine app_int rfl _ _ rfl w2.heap.size _ M rfl (OwnL.below HOW.out (below_a1r _ _)) _ (r : Int) rfl (by simp [World.cell?_alloc_new]) (by rw [HM.out]; omega) (by simp; omega) ?_)
                intro v4 w4 ho4 hb4 _
                have HO4 : Hid (OwnL inC 3 1 w4 w2.heap.size v4 (M ++ [(r : Int)])) := ho4
                have z4 : wr.heap.size ≤ w4.heap.size := by have := hb4.size; simp at this; omega
                have HR4 : Hid ((kRow kInt).is true w4 (fun q => q = g) [.slice (some ⟨g, 0, none⟩) n n] (nts L')) := (kRow kInt).keep HRW.out (by have := hb4.size; simp at this; omega) (fun q _ hq => by obtain rfl : q = g := hq; rw [hb4.block q zg2]; exact (below_a1r _ _).block q (by omega))
                have HX4 : Hid (KeptO (fun q => q = g) w2 w4) := (HXW.out.trans (KeptO.of (below_a1r _ _))).thenB hb4
                clear ho4 hb4
                go_wp2
                go_roundw
                case rel => exact ⟨p + 1, by omega, by go_num, by rw [HLA2.out], by rw [HNA.out], ⟨_, by show _ = _; simp [HM.out], HO4⟩, ⟨L', HLL, HNX, HR4⟩, HX4⟩
                case measure => simp [intOf]; omega
        · obtain rfl : p = n := by omega
          have k1 : ¬ (p : Int) < (p : Int) := by omega
          have HBW : Hid (Below w.heap.size w wr) := HB2.out.trans (HX.out.below (B := w.heap.size) HB2.out.size (fun q hq e => by have := HG0.out; omega))
          have HE : Hid (L = rkAll (tx x0) K) := by
            show L = _
            refine List.ext_getElem? fun i => ?_
            have hNL := HNS.out
            by_cases hi : i < p
            · obtain ⟨q, hq⟩ := HPOS.out i (by rw [← hNL]; exact hi)
              have hqp : q < p := by have := (List.getElem?_eq_some_iff.1 hq).1; rw [HLE.out] at this; exact this
              rw [HI.out q i hqp hq]
              simp [rkAll, ← hNL, hi]
            · rw [List.getElem?_eq_none (by rw [HL.out]; omega), List.getElem?_eq_none (by rw [rkAll_len, ← hNL]; omega)]
          have HF2 : Hid (fRankOf x0 k 0 = (nts L, true)) := by show _ = _; rw [HE.out]; exact HF.out
          have HC : Hid (sums kInt.cnt (nts L) ≤ 2 ^ 26) := by show _ ≤ _; rw [cnt_ints, nts_len, HL.out]; omega
          have hsz : (x0.size : Int) = (p : Int) := by have := HNS.out; rw [tx_len] at this; omega
          go_wp2
          refine bodyPost_ret (v := .tuple #[.slice (some ⟨g, 0, none⟩) p p, .bool true]) (by simp [results, Try.results21, go_sem]) rfl ?_
          unfold RRankOf
          rw [HF2.out]
          exact ⟨_, p, p, _, rfl, HR.out, fun q hq => by rw [hq, HG0.out]; exact Nat.le_refl _, HC.out, HBW.out⟩
    · have HF : Hid (fRankOf x0 k 1 = (nts (rkAll (tx x0) (2 * k)), true)) := by show _ = _; unfold fRankOf; rw [if_pos hg]; simp [rkK]
      have hc2 := l1InS_k 1 0 1
      rw [decide_eq_true (show (0 : Int) ≤ 1 ∧ (1 : Int) ≤ 1 by omega)] at hc2
      obtain ⟨K, hK⟩ : ∃ K, K = 2 * k := ⟨_, rfl⟩
      have HF : Hid (fRankOf x0 k 1 = (nts (rkAll (tx x0) K), true)) := by show _ = _; rw [hK]; exact HF.out
      have hK2 : K ≤ 240 := by omega
      clear hg h1 h2
      go_enter Try.func21, Try.ntmps21
      go_wp2_with fail
      refine (hc1 _).mono ?_
      rintro e w9 ⟨rfl, hw9⟩
      rw [hw9]
      clear hw9 w9
      go_wp2_with fail
      refine (hc2 _).mono ?_
      rintro e w9 ⟨rfl, hw9⟩
      rw [hw9]
      clear hw9 w9
      go_wp2_with fail
      rw [← hgg, ← hW1]
      refine (hsf.out W1).mono ?_
      rintro e w2 ⟨a0, n, c0, rfl, hr, hb⟩
      have HB2 : Hid (Below w.heap.size w w2) := HB1.out.trans (hb.mono HB1.out.size)
      obtain ⟨W1s, hW1s⟩ : ∃ W1s, W1s = W1.heap.size := ⟨_, rfl⟩
      have HRL : Hid ((kRow kInt).is false w2 (fun k => W1s ≤ k) [.slice a0 n c0] (nts l)) := by show (kRow kInt).is _ _ _ _ _; rw [hW1s]; exact (kRow kInt).read hr
      have HR2 : Hid ((kRow kInt).is true w2 (fun q => q = g) [.slice (some ⟨g, 0, none⟩) x0.size x0.size] (List.replicate x0.size (0 : Int))) := Kd.below HR1.out hb
      have z2 := hb.size
      have hn0 : n = x0.size := by have := row_len hr; rw [nts_len, HLE.out] at this; exact this
      have zg2 : g < w2.heap.size := by omega
      have zg1 : g < W1s := by omega
      have HN0 : Hid (n = x0.size) := hn0
      have HNS : Hid (n = (tx x0).length) := by show _ = _; rw [tx_len]; exact hn0
      rw [← hn0] at HR2 HLE hs ⊢
      have HFST : Hid (∀ y, l[0]? = some y → rkS (tx x0) K y = 0) := HFST.out K
      have HNXT : Hid (∀ q i j, l[q]? = some i → l[q + 1]? = some j → rkS (tx x0) K j = if stL (tx x0) K j = stL (tx x0) K i then rkS (tx x0) K i else rkS (tx x0) K i + 1) := HNXT.out K
      have hnx : (n : Int) = (x0.size : Int) := by omega
      have hKI : (k : Int) * 2 = (K : Int) := by omega
      have HKI : Hid ((k : Int) * 2 = (K : Int)) := hKI
      clear hr hb hW1s hn0 hc1 hc2 hmk hW1 hgg z1 HR1 e0 hnx hKI hK
      go_wp2_with fail
      rw [HKI.out]
      go_loopw [8, 9, 10, 38] (fun v8 v9 v10 kv wr => ∃ p : Nat, p ≤ n ∧ kv = .int .i64 p ∧ v9 = .string (strL (lastL (tx x0) K l p)) ∧ v10 = .int .i64 (numL (tx x0) K l p) ∧ (∃ M, Hid (M.length = p) ∧ Hid (OwnL inC 3 1 wr w2.heap.size v8 M)) ∧ (∃ L : List Nat, Hid (L.length = n) ∧ Hid (∀ q i, q < p → l[q]? = some i → L[i]? = some (rkS (tx x0) K i)) ∧ Hid ((kRow kInt).is true wr (fun q => q = g) [.slice (some ⟨g, 0, none⟩) n n] (nts L))) ∧ Hid (KeptO (fun q => q = g) w2 wr)) (fun _ _ _ kv _ => n - (intOf kv).toNat)
      case atStart => exact ⟨0, Nat.zero_le _, rfl, rfl, rfl, ⟨[], rfl, OwnL.nil _ _ _ _ _⟩, ⟨List.replicate n 0, by show _ = _; simp, fun q i hq => by omega, by show (kRow kInt).is _ _ _ _ _; rw [show nts (List.replicate n 0) = List.replicate n (0 : Int) by simp [nts]]; exact HR2.out⟩, KeptO.refl _ _⟩
      case round =>
        obtain ⟨p, hp, rfl, rfl, rfl, ⟨M, HM, HO⟩, ⟨L, HL, HI, HR⟩, HX⟩ := hrel
        have zr := HX.out.size
        obtain ⟨av, cv, hv, hcv⟩ := HO.out.form
        subst hv
        rw [HM.out] at HO hcv ⊢
        by_cases hlt : p < n
        · obtain ⟨y, hy⟩ : ∃ y, l[p]? = some y := ⟨_, List.getElem?_eq_getElem (by rw [HLE.out]; exact hlt)⟩
          obtain ⟨b, o, rfl, hb, hbg, A2⟩ := rowI_at ((kRow kInt).keep HRL.out zr (fun q hq2 hq => HX.out.block q hq2 (fun e => by have : W1s ≤ q := hq; omega))) (nts_at hy)
          have hys : y < n := by have h1 := HSL.out y (List.mem_of_getElem? hy); have h2 := HN0.out; omega
          have HLA : Hid (lastL (tx x0) K l (p + 1) = stL (tx x0) K y) := by show stL (tx x0) K (l.getD p 0) = _; rw [List.getD_eq_getElem?_getD, hy]; rfl
          have HNA : Hid (numL (tx x0) K l (p + 1) = ((rkS (tx x0) K y : Nat) : Int)) := by show ((rkS (tx x0) K (l.getD p 0) : Nat) : Int) = _; rw [List.getD_eq_getElem?_getD, hy]; rfl
          have hrk : rkS (tx x0) K y ≤ 120 := by have := rkS_lt (tx x0) K y (by rw [← HNS.out]; omega); rw [← HNS.out] at this; omega
          -- what the texts are
          have HNEW : Hid (if p = 0 then rkS (tx x0) K y = 0 ∧ numL (tx x0) K l p = -1 else (0 ≤ numL (tx x0) K l p ∧ numL (tx x0) K l p ≤ 120 ∧ ((rkS (tx x0) K y : Nat) : Int) = if stL (tx x0) K y = lastL (tx x0) K l p then numL (tx x0) K l p else numL (tx x0) K l p + 1)) := by
            show if _ then _ else _
            split
            · next e => subst e; exact ⟨HFST.out y hy, rfl⟩
            · next e =>
              obtain ⟨q, rfl⟩ : ∃ q, p = q + 1 := ⟨p - 1, by omega⟩
              obtain ⟨x, hx⟩ : ∃ x, l[q]? = some x := ⟨_, List.getElem?_eq_getElem (by rw [HLE.out]; omega)⟩
              have e1 : numL (tx x0) K l (q + 1) = ((rkS (tx x0) K x : Nat) : Int) := by show ((rkS (tx x0) K (l.getD q 0) : Nat) : Int) = _; rw [List.getD_eq_getElem?_getD, hx]; rfl
              have e2 : lastL (tx x0) K l (q + 1) = stL (tx x0) K x := by show stL (tx x0) K (l.getD q 0) = _; rw [List.getD_eq_getElem?_getD, hx]; rfl
              have h3 := HNXT.out q x y hx hy
              have hxs : x < n := by have h1 := HSL.out x (List.mem_of_getElem? hx); have h2 := HN0.out; omega
              have h4 := rkS_lt (tx x0) K x (by rw [← HNS.out]; omega)
              rw [← HNS.out] at h4
              rw [e1, e2, h3]
              refine ⟨by omega, by omega, ?_⟩
              split <;> simp
          have HPUT : Hid (∀ W, (kRow kInt).is true W (fun q => q = g) [.slice (some ⟨g, 0, none⟩) n n] (nts L) → (kRow kInt).is true (W.setCell ⟨g, y, none⟩ (.int .i64 ((rkS (tx x0) K y : Nat) : Int))) (fun q => q = g) [.slice (some ⟨g, 0, none⟩) n n] (nts (L.set y (rkS (tx x0) K y)))) := fun W hW => by
            have := kInt_plain.put1 rfl hW (i := y) (x := ((rkS (tx x0) K y : Nat) : Int)) (v := .int .i64 ((rkS (tx x0) K y : Nat) : Int)) (by rw [nts_len, HL.out]; omega) rfl (by unfold IntOk; omega) (by rw [nts_len, HL.out]; omega)
            rw [show 0 + y = y by omega, show (nts L).set y ((rkS (tx x0) K y : Nat) : Int) = nts (L.set y (rkS (tx x0) K y)) by simp [nts, List.map_set]] at this
            exact this
          have HNX : Hid (∀ q i, q < p + 1 → l[q]? = some i → (L.set y (rkS (tx x0) K y))[i]? = some (rkS (tx x0) K i)) := fun q i hq hi => by
            rw [List.getElem?_set]
            by_cases e : y = i
            · subst e
              rw [if_pos rfl, if_pos (by rw [HL.out]; omega)]
            · rw [if_neg e]
              refine HI.out q i ?_ hi
              rcases Nat.lt_or_ge q p with h | h
              · exact h
              · obtain rfl : q = p := by omega
                rw [hy] at hi
                injection hi with hi
                exact absurd hi e
          have HLL : Hid ((L.set y (rkS (tx x0) K y)).length = n) := by show _ = _; rw [List.length_set]; exact HL.out
          have A0 : ∃ v, wr.cell? ⟨g, y, none⟩ = some v ∧ wr.frozen? ⟨g, y, none⟩ = false := by
            obtain ⟨u, hu⟩ : ∃ u, (nts L)[y]? = some u := ⟨_, List.getElem?_eq_getElem (by rw [nts_len, HL.out]; omega)⟩
            have h1 := kInt_plain.cell HR.out hu (j := 0) rfl
            have h2 := kInt_plain.open HR.out hu (j := 0) rfl
            rw [show 0 + y * kInt.wd + 0 = y by show 0 + y * 1 + 0 = _; omega] at h1 h2
            exact ⟨_, h1, h2⟩
          obtain ⟨v0, A3, A4⟩ := A0
          have hgr : g < wr.heap.size := World.block_lt_of_cell? _ _ A3
          have HEX1 : Hid (x0.size - y ≤ K → x0.extract y x0.size = strL (stL (tx x0) K y)) := fun h => by
            have := enc_ext x0 y K x0.size (by have := HN0.out; omega)
            injection this
          have HEX2 : Hid ((x0.extract y x0.size).extract 0 K = strL (stL (tx x0) K y)) := by
            show _ = _
            apply ByteArray.ext
            apply Array.toList_inj.1
            have h : tx ((x0.extract y x0.size).extract 0 K) = stL (tx x0) K y := by
              rw [tx_ext, tx_end]
              simp [stL]
            simpa [tx, strL] using h
          have hes : (x0.extract y x0.size).size = x0.size - y := by rw [ByteArray.size_extract]; have := HN0.out; omega
          have HCMP : Hid (((strL (stL (tx x0) K y)).toList == (strL (lastL (tx x0) K l p)).toList) = decide (stL (tx x0) K y = lastL (tx x0) K l p)) := by
            show _ = _
            rw [ByteArray.toList_eq, ByteArray.toList_eq]
            by_cases e : stL (tx x0) K y = lastL (tx x0) K l p
            · rw [e]; simp
            · rw [decide_eq_false e]
              simpa [strL] using e
          obtain ⟨X, hX⟩ : ∃ X, X = strL (stL (tx x0) K y) := ⟨_, rfl⟩
          have HLA2 : Hid (X = strL (lastL (tx x0) K l (p + 1))) := by show _ = _; rw [hX, HLA.out]
          rw [← hX] at HEX1 HEX2 HCMP
          obtain ⟨Y, hY⟩ : ∃ Y, Y = strL (lastL (tx x0) K l p) := ⟨_, rfl⟩
          rw [← hY] at HCMP ⊢
          obtain ⟨c, hc⟩ : ∃ c, c = decide (stL (tx x0) K y = lastL (tx x0) K l p) := ⟨_, rfl⟩
          rw [← hc] at HCMP
          have HC : Hid ((c = true) = (stL (tx x0) K y = lastL (tx x0) K l p)) := by show _ = _; rw [hc]; simp
          have HNEW2 : Hid (if p = 0 then rkS (tx x0) K y = 0 ∧ numL (tx x0) K l p = -1 else (0 ≤ numL (tx x0) K l p ∧ numL (tx x0) K l p ≤ 120 ∧ ((rkS (tx x0) K y : Nat) : Int) = if c = true then numL (tx x0) K l p else numL (tx x0) K l p + 1)) := by
            have h := HNEW.out
            show if _ then _ else _
            by_cases e : p = 0
            · rw [if_pos e] at h ⊢; exact h
            · rw [if_neg e] at h ⊢
              refine ⟨h.1, h.2.1, ?_⟩
              rw [h.2.2]
              by_cases e2 : stL (tx x0) K y = lastL (tx x0) K l p
              · rw [if_pos e2, if_pos (by rw [hc]; simpa using e2)]
              · rw [if_neg e2, if_neg (by rw [hc]; simpa using e2)]
          obtain ⟨z, hz⟩ : ∃ z, z = numL (tx x0) K l p := ⟨_, rfl⟩
          rw [← hz] at HNEW2 ⊢
          obtain ⟨r, hr⟩ : ∃ r, r = rkS (tx x0) K y := ⟨_, rfl⟩
          rw [← hr] at HNEW2 HPUT HNX HLL hrk HNA
          obtain ⟨L', hL'⟩ : ∃ L', L' = L.set y r := ⟨_, rfl⟩
          rw [← hL'] at HPUT HNX HLL
          clear hX hY hc hz hr HNEW HLA HC hy hL'
          have hcmp := HCMP.out
          have k0 : (0 : Int) ≤ (p : Int) := by omega
          have k1 : (p : Int) < (n : Int) := by omega
          have k2 : (y : Int) ≤ (x0.size : Int) := by have := HN0.out; omega
          have k3 : (y : Int) < (n : Int) := by omega
          have k4 : (0 : Int) ≤ (y : Int) := by omega
          -- the stretch, of whatever length
          obtain ⟨m, hm⟩ : ∃ m, m = x0.size - y := ⟨_, rfl⟩
          rw [← hm] at hes
          have HME : Hid (m = x0.size - y) := hm
          clear hm
          by_cases hlong : K < m
          · have k6 : (K : Int) < (m : Int) := by omega
            go_upto_region 15 with fail
            rw [HEX2.out]
            by_cases hp0 : p = 0
            · have hh := HNEW2.out
              rw [if_pos hp0] at hh
              obtain ⟨rfl, rfl⟩ : r = 0 ∧ z = -1 := hh
              clear hcmp
              have HOW : Hid (OwnL inC 3 1 (wr.setCell ⟨g, y, none⟩ (.int .i64 (0 : Int))) w2.heap.size (.slice av p cv) M) := OwnL.kept HO.out (setCell_kept g y _ wr) (fun q hq e => by omega)
              have HRW : Hid ((kRow kInt).is true (wr.setCell ⟨g, y, none⟩ (.int .i64 (0 : Int))) (fun q => q = g) [.slice (some ⟨g, 0, none⟩) n n] (nts L')) := HPUT.out wr HR.out
              have HXW : Hid (KeptO (fun q => q = g) w2 (wr.setCell ⟨g, y, none⟩ (.int .i64 (0 : Int)))) := HX.out.trans (setCell_kept g y _ wr)
              have zW : (wr.setCell ⟨g, y, none⟩ (.int .i64 (0 : Int))).heap.size = wr.heap.size := World.size_setCell _ _ _
              go_upto_region 19 with fail
              obtain ⟨W3, hW3⟩ : ∃ W3, W3 = wr.setCell ⟨g, y, none⟩ (.int .i64 (0 : Int)) := ⟨_, rfl⟩
              rw [← hW3] at HOW HRW HXW zW ⊢
              have zW1 : wr.heap.size ≤ W3.heap.size := by omega
              clear hW3 zW
              go_wp2_with (at_builtin; refine app_int rfl _ _ rfl w2.heap.size _ M rfl (OwnL.below HOW.out (below_a1r _ _)) _ (0 : Int) rfl (by simp [World.cell?_alloc_new]) (by rw [HM.out]; omega) (by simp; omega) ?_)
              intro v4 w4 ho4 hb4 _
              have HO4 : Hid (OwnL inC 3 1 w4 w2.heap.size v4 (M ++ [(0 : Int)])) := ho4
              have z4 : wr.heap.size ≤ w4.heap.size := by have := hb4.size; simp at this; omega
              have HR4 : Hid ((kRow kInt).is true w4 (fun q => q = g) [.slice (some ⟨g, 0, none⟩) n n] (nts L')) := (kRow kInt).keep HRW.out (by have := hb4.size; simp at this; omega) (fun q _ hq => by obtain rfl : q = g := hq; rw [hb4.block q zg2]; exact (below_a1r _ _).block q (by omega))
              have HX4 : Hid (KeptO (fun q => q = g) w2 w4) := (HXW.out.trans (KeptO.of (below_a1r _ _))).thenB hb4
              clear ho4 hb4
              go_wp2
              go_roundw
              case rel => exact ⟨p + 1, by omega, by go_num, by rw [HLA2.out], by rw [HNA.out]; simp, ⟨_, by show _ = _; simp [HM.out], HO4⟩, ⟨L', HLL, HNX, HR4⟩, HX4⟩
              case measure => simp [intOf]; omega
            · have hh := HNEW2.out
              rw [if_neg hp0] at hh
              obtain ⟨hz0, hz1, hzr⟩ := hh
              have k5 : decide (z < 0) = false := decide_eq_false (by omega)
              cases c with
              | true =>
                rw [if_pos rfl] at hzr
                subst hzr
                clear HNEW2 HCMP
                have HOW : Hid (OwnL inC 3 1 (wr.setCell ⟨g, y, none⟩ (.int .i64 (r : Int))) w2.heap.size (.slice av p cv) M) := OwnL.kept HO.out (setCell_kept g y _ wr) (fun q hq e => by omega)
                have HRW : Hid ((kRow kInt).is true (wr.setCell ⟨g, y, none⟩ (.int .i64 (r : Int))) (fun q => q = g) [.slice (some ⟨g, 0, none⟩) n n] (nts L')) := HPUT.out wr HR.out
                have HXW : Hid (KeptO (fun q => q = g) w2 (wr.setCell ⟨g, y, none⟩ (.int .i64 (r : Int)))) := HX.out.trans (setCell_kept g y _ wr)
                have zW : (wr.setCell ⟨g, y, none⟩ (.int .i64 (r : Int))).heap.size = wr.heap.size := World.size_setCell _ _ _
                go_upto_region 19 with fail
                obtain ⟨W3, hW3⟩ : ∃ W3, W3 = wr.setCell ⟨g, y, none⟩ (.int .i64 (r : Int)) := ⟨_, rfl⟩
                rw [← hW3] at HOW HRW HXW zW ⊢
                have zW1 : wr.heap.size ≤ W3.heap.size := by omega
                clear hW3 zW
                go_wp2_with (at_builtin; refine app_int rfl _ _ rfl w2.heap.size _ M rfl (OwnL.below HOW.out (below_a1r _ _)) _ (r : Int) rfl (by simp [World.cell?_alloc_new]) (by rw [HM.out]; omega) (by simp; omega) ?_)
                intro v4 w4 ho4 hb4 _
                have HO4 : Hid (OwnL inC 3 1 w4 w2.heap.size v4 (M ++ [(r : Int)])) := ho4
                have z4 : wr.heap.size ≤ w4.heap.size := by have := hb4.size; simp at this; omega
                have HR4 : Hid ((kRow kInt).is true w4 (fun q => q = g) [.slice (some ⟨g, 0, none⟩) n n] (nts L')) := (kRow kInt).keep HRW.out (by have := hb4.size; simp at this; omega) (fun q _ hq => by obtain rfl : q = g := hq; rw [hb4.block q zg2]; exact (below_a1r _ _).block q (by omega))
                have HX4 : Hid (KeptO (fun q => q = g) w2 w4) := (HXW.out.trans (KeptO.of (below_a1r _ _))).thenB hb4
                clear ho4 hb4
                go_wp2
                go_roundw
                case rel => exact ⟨p + 1, by omega, by go_num, by rw [HLA2.out], by rw [HNA.out], ⟨_, by show _ = _; simp [HM.out], HO4⟩, ⟨L', HLL, HNX, HR4⟩, HX4⟩
                case measure => simp [intOf]; omega
              | false =>
                rw [if_neg (by decide)] at hzr
                obtain rfl : z = (r : Int) - 1 := by omega
                clear hzr HNEW2 HCMP
                have HOW : Hid (OwnL inC 3 1 (wr.setCell ⟨g, y, none⟩ (.int .i64 (r : Int))) w2.heap.size (.slice av p cv) M) := OwnL.kept HO.out (setCell_kept g y _ wr) (fun q hq e => by omega)
                have HRW : Hid ((kRow kInt).is true (wr.setCell ⟨g, y, none⟩ (.int .i64 (r : Int))) (fun q => q = g) [.slice (some ⟨g, 0, none⟩) n n] (nts L')) := HPUT.out wr HR.out
                have HXW : Hid (KeptO (fun q => q = g) w2 (wr.setCell ⟨g, y, none⟩ (.int .i64 (r : Int)))) := HX.out.trans (setCell_kept g y _ wr)
                have zW : (wr.setCell ⟨g, y, none⟩ (.int .i64 (r : Int))).heap.size = wr.heap.size := World.size_setCell _ _ _
                go_upto_region 19 with fail
                obtain ⟨W3, hW3⟩ : ∃ W3, W3 = wr.setCell ⟨g, y, none⟩ (.int .i64 (r : Int)) := ⟨_, rfl⟩
                rw [← hW3] at HOW HRW HXW zW ⊢
                have zW1 : wr.heap.size ≤ W3.heap.size := by omega
                clear hW3 zW
                go_wp2_with (at_builtin; refine app_int rfl _ _ rfl w2.heap.size _ M rfl (OwnL.below HOW.out (below_a1r _ _)) _ (r : Int) rfl (by simp [World.cell?_alloc_new]) (by rw [HM.out]; omega) (by simp; omega) ?_)
                intro v4 w4 ho4 hb4 _
                have HO4 : Hid (OwnL inC 3 1 w4 w2.heap.size v4 (M ++ [(r : Int)])) := ho4
                have z4 : wr.heap.size ≤ w4.heap.size := by have := hb4.size; simp at this; omega
                have HR4 : Hid ((kRow kInt).is true w4 (fun q => q = g) [.slice (some ⟨g, 0, none⟩) n n] (nts L')) := (kRow kInt).keep HRW.out (by have := hb4.size; simp at this; omega) (fun q _ hq => by obtain rfl : q = g := hq; rw [hb4.block q zg2]; exact (below_a1r _ _).block q (by omega))
                have HX4 : Hid (KeptO (fun q => q = g) w2 w4) := (HXW.out.trans (KeptO.of (below_a1r _ _))).thenB hb4
                clear ho4 hb4
                go_wp2
                go_roundw
                case rel => exact ⟨p + 1, by omega, by go_num, by rw [HLA2.out], by rw [HNA.out], ⟨_, by show _ = _; simp [HM.out], HO4⟩, ⟨L', HLL, HNX, HR4⟩, HX4⟩
                case measure => simp [intOf]; omega
          · have k6 : ¬ (K : Int) < (m : Int) := by omega
            go_upto_region 15 with fail
            rw [HEX1.out (by have := HME.out; omega)]
            by_cases hp0 : p = 0
            · have hh := HNEW2.out
              rw [if_pos hp0] at hh
              obtain ⟨rfl, rfl⟩ : r = 0 ∧ z = -1 := hh
              clear hcmp
              have HOW : Hid (OwnL inC 3 1 (wr.setCell ⟨g, y, none⟩ (.int .i64 (0 : Int))) w2.heap.size (.slice av p cv) M) := OwnL.kept HO.out (setCell_kept g y _ wr) (fun q hq e => by omega)
              have HRW : Hid ((kRow kInt).is true (wr.setCell ⟨g, y, none⟩ (.int .i64 (0 : Int))) (fun q => q = g) [.slice (some ⟨g, 0, none⟩) n n] (nts L')) := HPUT.out wr HR.out
              have HXW : Hid (KeptO (fun q => q = g) w2 (wr.setCell ⟨g, y, none⟩ (.int .i64 (0 : Int)))) := HX.out.trans (setCell_kept g y _ wr)
              have zW : (wr.setCell ⟨g, y, none⟩ (.int .i64 (0 : Int))).heap.size = wr.heap.size := World.size_setCell _ _ _
              go_upto_region 19 with fail
              obtain ⟨W3, hW3⟩ : ∃ W3, W3 = wr.setCell ⟨g, y, none⟩ (.int .i64 (0 : Int)) := ⟨_, rfl⟩
              rw [← hW3] at HOW HRW HXW zW ⊢
              have zW1 : wr.heap.size ≤ W3.heap.size := by omega
              clear hW3 zW
              go_wp2_with (at_builtin; refine app_int rfl _ _ rfl w2.heap.size _ M rfl (OwnL.below HOW.out (below_a1r _ _)) _ (0 : Int) rfl (by simp [World.cell?_alloc_new]) (by rw [HM.out]; omega) (by simp; omega) ?_)
              intro v4 w4 ho4 hb4 _
              have HO4 : Hid (OwnL inC 3 1 w4 w2.heap.size v4 (M ++ [(0 : Int)])) := ho4
              have z4 : wr.heap.size ≤ w4.heap.size := by have := hb4.size; simp at this; omega
              have HR4 : Hid ((kRow kInt).is true w4 (fun q => q = g) [.slice (some ⟨g, 0, none⟩) n n] (nts L')) := (kRow kInt).keep HRW.out (by have := hb4.size; simp at this; omega) (fun q _ hq => by obtain rfl : q = g := hq; rw [hb4.block q zg2]; exact (below_a1r _ _).block q (by omega))
              have HX4 : Hid (KeptO (fun q => q = g) w2 w4) := (HXW.out.trans (KeptO.of (below_a1r _ _))).thenB hb4
              clear ho4 hb4
              go_wp2
              go_roundw
              case rel => exact ⟨p + 1, by omega, by go_num, by rw [HLA2.out], by rw [HNA.out]; simp, ⟨_, by show _ = _; simp [HM.out], HO4⟩, ⟨L', HLL, HNX, HR4⟩, HX4⟩
              case measure => simp [intOf]; omega
            · have hh := HNEW2.out
              rw [if_neg hp0] at hh
              obtain ⟨hz0, hz1, hzr⟩ := hh
              have k5 : decide (z < 0) = false := decide_eq_false (by omega)
              cases c with
              | true =>
                rw [if_pos rfl] at hzr
                subst hzr
                clear HNEW2 HCMP
                have HOW : Hid (OwnL inC 3 1 (wr.setCell ⟨g, y, none⟩ (.int .i64 (r : Int))) w2.heap.size (.slice av p cv) M) := OwnL.kept HO.out (setCell_kept g y _ wr) (fun q hq e => by omega)
                have HRW : Hid ((kRow kInt).is true (wr.setCell ⟨g, y, none⟩ (.int .i64 (r : Int))) (fun q => q = g) [.slice (some ⟨g, 0, none⟩) n n] (nts L')) := HPUT.out wr HR.out
                have HXW : Hid (KeptO (fun q => q = g) w2 (wr.setCell ⟨g, y, none⟩ (.int .i64 (r : Int)))) := HX.out.trans (setCell_kept g y _ wr)
                have zW : (wr.setCell ⟨g, y, none⟩ (.int .i64 (r : Int))).heap.size = wr.heap.size := World.size_setCell _ _ _
                go_upto_region 19 with fail
                obtain ⟨W3, hW3⟩ : ∃ W3, W3 = wr.setCell ⟨g, y, none⟩ (.int .i64 (r : Int)) := ⟨_, rfl⟩
                rw [← hW3] at HOW HRW HXW zW ⊢
                have zW1 : wr.heap.size ≤ W3.heap.size := by omega
                clear hW3 zW
                go_wp2_with (at_builtin; refine app_int rfl _ _ rfl w2.heap.size _ M rfl (OwnL.below HOW.out (below_a1r _ _)) _ (r : Int) rfl (by simp [World.cell?_alloc_new]) (by rw [HM.out]; omega) (by simp; omega) ?_)
                intro v4 w4 ho4 hb4 _
                have HO4 : Hid (OwnL inC 3 1 w4 w2.heap.size v4 (M ++ [(r : Int)])) := ho4
                have z4 : wr.heap.size ≤ w4.heap.size := by have := hb4.size; simp at this; omega
                have HR4 : Hid ((kRow kInt).is true w4 (fun q => q = g) [.slice (some ⟨g, 0, none⟩) n n] (nts L')) := (kRow kInt).keep HRW.out (by have := hb4.size; simp at this; omega) (fun q _ hq => by obtain rfl : q = g := hq; rw [hb4.block q zg2]; exact (below_a1r _ _).block q (by omega))
                have HX4 : Hid (KeptO (fun q => q = g) w2 w4) := (HXW.out.trans (KeptO.of (below_a1r _ _))).thenB hb4
                clear ho4 hb4
                go_wp2
                go_roundw
                case rel => exact ⟨p + 1, by omega, by go_num, by rw [HLA2.out], by rw [HNA.out], ⟨_, by show _ = _; simp [HM.out], HO4⟩, ⟨L', HLL, HNX, HR4⟩, HX4⟩
                case measure => simp [intOf]; omega
              | false =>
                rw [if_neg (by decide)] at hzr
                obtain rfl : z = (r : Int) - 1 := by omega
                clear hzr HNEW2 HCMP
                have HOW : Hid (OwnL inC 3 1 (wr.setCell ⟨g, y, none⟩ (.int .i64 (r : Int))) w2.heap.size (.slice av p cv) M) := OwnL.kept HO.out (setCell_kept g y _ wr) (fun q hq e => by omega)
                have HRW : Hid ((kRow kInt).is true (wr.setCell ⟨g, y, none⟩ (.int .i64 (r : Int))) (fun q => q = g) [.slice (some ⟨g, 0, none⟩) n n] (nts L')) := HPUT.out wr HR.out
                have HXW : Hid (KeptO (fun q => q = g) w2 (wr.setCell ⟨g, y, none⟩ (.int .i64 (r : Int)))) := HX.out.trans (setCell_kept g y _ wr)
                have zW : (wr.setCell ⟨g, y, none⟩ (.int .i64 (r : Int))).heap.size = wr.heap.size := World.size_setCell _ _ _
                go_upto_region 19 with fail
                obtain ⟨W3, hW3⟩ : ∃ W3, W3 = wr.setCell ⟨g, y, none⟩ (.int .i64 (r : Int)) := ⟨_, rfl⟩
                rw [← hW3] at HOW HRW HXW zW ⊢
                have zW1 : wr.heap.size ≤ W3.heap.size := by omega
                clear hW3 zW
                go_wp2_with (at_builtin; refine app_int rfl _ _ rfl w2.heap.size _ M rfl (OwnL.below HOW.out (below_a1r _ _)) _ (r : Int) rfl (by simp [World.cell?_alloc_new]) (by rw [HM.out]; omega) (by simp; omega) ?_)
                intro v4 w4 ho4 hb4 _
                have HO4 : Hid (OwnL inC 3 1 w4 w2.heap.size v4 (M ++ [(r : Int)])) := ho4
                have z4 : wr.heap.size ≤ w4.heap.size := by have := hb4.size; simp at this; omega
                have HR4 : Hid ((kRow kInt).is true w4 (fun q => q = g) [.slice (some ⟨g, 0, none⟩) n n] (nts L')) := (kRow kInt).keep HRW.out (by have := hb4.size; simp at this; omega) (fun q _ hq => by obtain rfl : q = g := hq; rw [hb4.block q zg2]; exact (below_a1r _ _).block q (by omega))
                have HX4 : Hid (KeptO (fun q => q = g) w2 w4) := (HXW.out.trans (KeptO.of (below_a1r _ _))).thenB hb4
                clear ho4 hb4
                go_wp2
                go_roundw
                case rel => exact ⟨p + 1, by omega, by go_num, by rw [HLA2.out], by rw [HNA.out], ⟨_, by show _ = _; simp [HM.out], HO4⟩, ⟨L', HLL, HNX, HR4⟩, HX4⟩
                case measure => simp [intOf]; omega
        · obtain rfl : p = n := by omega
          have k1 : ¬ (p : Int) < (p : Int) := by omega
          have HBW : Hid (Below w.heap.size w wr) := HB2.out.trans (HX.out.below (B := w.heap.size) HB2.out.size (fun q hq e => by have := HG0.out; omega))
          have HE : Hid (L = rkAll (tx x0) K) := by
            show L = _
            refine List.ext_getElem? fun i => ?_
            have hNL := HNS.out
            by_cases hi : i < p
            · obtain ⟨q, hq⟩ := HPOS.out i (by rw [← hNL]; exact hi)
              have hqp : q < p := by have := (List.getElem?_eq_some_iff.1 hq).1; rw [HLE.out] at this; exact this
              rw [HI.out q i hqp hq]
              simp [rkAll, ← hNL, hi]
            · rw [List.getElem?_eq_none (by rw [HL.out]; omega), List.getElem?_eq_none (by rw [rkAll_len, ← hNL]; omega)]
          have HF2 : Hid (fRankOf x0 k 1 = (nts L, true)) := by show _ = _; rw [HE.out]; exact HF.out
          have HC : Hid (sums kInt.cnt (nts L) ≤ 2 ^ 26) := by show _ ≤ _; rw [cnt_ints, nts_len, HL.out]; omega
          have hsz : (x0.size : Int) = (p : Int) := by have := HNS.out; rw [tx_len] at this; omega
          go_wp2
          refine bodyPost_ret (v := .tuple #[.slice (some ⟨g, 0, none⟩) p p, .bool true]) (by simp [results, Try.results21, go_sem]) rfl ?_
          unfold RRankOf
          rw [HF2.out]
          exact ⟨_, p, p, _, rfl, HR.out, fun q hq => by rw [hq, HG0.out]; exact Nat.le_refl _, HC.out, HBW.out⟩
  · have HF : Hid (fRankOf x0 x1 x2 = ([], false)) := by show _ = _; unfold fRankOf; rw [if_neg hg]
    have hg' : ¬ (x0.size ≤ 120 ∧ (1 ≤ x1 ∧ x1 ≤ 120) ∧ (0 ≤ x2 ∧ x2 ≤ 1)) := fun h => hg (by unfold rkGood; simp [h])
    unfold IntOk at h1 h2
    clear hg
    have fin : True := trivial
    by_cases c0 : x0.size ≤ 120
    · have e0 : ¬ (120 : Int) < (x0.size : Int) := by omega
      have f0 : decide ((120 : Int) < (x0.size : Int)) = false := decide_eq_false e0
      have hc1 := l1InS_k x1 1 120
      by_cases c1 : 1 ≤ x1 ∧ x1 ≤ 120
      · rw [decide_eq_true c1] at hc1
        have hc2 := l1InS_k x2 0 1
        rw [decide_eq_false (show ¬ (0 ≤ x2 ∧ x2 ≤ 1) from fun h => hg' ⟨c0, c1, h⟩)] at hc2
        clear c1 hg'
        go_enter Try.func21, Try.ntmps21
        go_wp2_with fail
        refine (hc1 _).mono ?_
        rintro e w9 ⟨rfl, hw9⟩
        rw [hw9]
        clear hw9 w9
        go_wp2_with fail
        refine (hc2 _).mono ?_
        rintro e w9 ⟨rfl, hw9⟩
        rw [hw9]
        clear hw9 w9
        go_wp2
        refine bodyPost_ret (v := .tuple #[.slice none 0 0, .bool false]) (by simp [results, Try.results21, go_sem]) rfl ?_
        unfold RRankOf
        rw [HF.out]
        exact ⟨none, 0, 0, fun _ => False, rfl, row_nil _ _ _ _ _ _, fun k hk => hk.elim, by simp [sums], Below.refl _ _⟩
      · rw [decide_eq_false c1] at hc1
        clear c1 hg'
        go_enter Try.func21, Try.ntmps21
        go_wp2_with fail
        refine (hc1 _).mono ?_
        rintro e w9 ⟨rfl, hw9⟩
        rw [hw9]
        clear hw9 w9
        go_wp2
        refine bodyPost_ret (v := .tuple #[.slice none 0 0, .bool false]) (by simp [results, Try.results21, go_sem]) rfl ?_
        unfold RRankOf
        rw [HF.out]
        exact ⟨none, 0, 0, fun _ => False, rfl, row_nil _ _ _ _ _ _, fun k hk => hk.elim, by simp [sums], Below.refl _ _⟩
    · have e0 : (120 : Int) < (x0.size : Int) := by omega
      have f0 : decide ((120 : Int) < (x0.size : Int)) = true := decide_eq_true e0
      clear hg'
      go_enter Try.func21, Try.ntmps21
      go_wp2
      refine bodyPost_ret (v := .tuple #[.slice none 0 0, .bool false]) (by simp [results, Try.results21, go_sem]) rfl ?_
      unfold RRankOf
      rw [HF.out]
      exact ⟨none, 0, 0, fun _ => False, rfl, row_nil _ _ _ _ _ _, fun k hk => hk.elim, by simp [sums], Below.refl _ _⟩
end Go.Proofs.Ytkboblfjchkedaa
