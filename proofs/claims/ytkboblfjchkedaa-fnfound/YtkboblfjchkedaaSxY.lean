/- LongestTwice: the program's and the specification's. No condition but that a text fits in memory. -/
import Derived.Test.YtkboblfjchkedaaSxX
namespace Go.Proofs.Ytkboblfjchkedaa
open Go.RowKit Go.Sort
set_option linter.unusedVariables false

/-- The longest that stands twice among the first p endings. -/
def lonL (t : List UInt8) (l : List Nat) : Nat → List UInt8
  | 0 => []
  | p + 1 => if (lonL t l p).length < comAt t l p then stL t (comAt t l p) (l.getD p 0) else lonL t l p
theorem lonL_one (t : List UInt8) (l : List Nat) : lonL t l 1 = [] := by simp [lonL, comAt]
theorem lonL_len (t : List UInt8) (l : List Nat) : ∀ p, (lonL t l p).length ≤ t.length
  | 0 => by simp [lonL]
  | p + 1 => by
    unfold lonL
    split
    · unfold stL
      simp
      omega
    · exact lonL_len t l p
/-- LongestTwice. -/
def fLongestTwice (s : ByteArray) : ByteArray × Bool := if s.size ≤ 120 then (strL (lonL (tx s) (sufL (tx s)) s.size), !(lonL (tx s) (sufL (tx s)) s.size).isEmpty) else (⟨#[]⟩, false)
/-- What LongestTwice answers. -/
def RLongestTwice (x0 : ByteArray) (w : World) (e : Ending) (w' : World) : Prop := e = .returned (.tuple #[.string (fLongestTwice x0).1, .bool (fLongestTwice x0).2]) ∧ (fLongestTwice x0).1.size ≤ 2 ^ 24 ∧ Below w.heap.size w w'
theorem cloneStr_k (s : ByteArray) (w : World) (h : s.size ≤ 2 ^ 40) : Calls Try.prog 34 #[.string s] w fun e w' => e = .returned (.string s) ∧ Below w.heap.size w w' := by
  go_enter Try.func34, Try.ntmps34
  go_wp2_with fail
  refine (Any.stringslite_Clone Try.lays316 s _ (by omega)).mono ?_
  rintro e w1 ⟨rfl, hb1⟩
  have HB : Hid (Below w.heap.size w w1) := hb1
  clear hb1
  go_wp2
  go_ret
  exact ⟨rfl, HB.out⟩
theorem strL_full {L : List UInt8} (h : L ≠ []) : (strL L).toList.isEmpty = false ∧ ¬ (strL L).toList = [] := by
  have e : (strL L).toList = L := by rw [ByteArray.toList_eq]; simp [strL]
  rw [e]
  exact ⟨by simpa using h, h⟩
set_option maxRecDepth 100000 in
set_option maxHeartbeats 2000000 in
theorem implLongestTwice_k (x0 : ByteArray) (w : World) (h0 : x0.size ≤ 2 ^ 20) :
    Calls Try.prog 11 #[.string x0] w (RLongestTwice x0 w) := by
  have hcl := implSuffixesOf_k x0 w h0
  go_enter Try.func11, Try.ntmps11
  go_wp2_with fail
  refine hcl.mono ?_
  rintro e w1 ⟨a0, n0, c0, T0, rfl, hr, _, _, hb⟩
  have HB : Hid (Below w.heap.size w w1) := hb
  by_cases h2 : x0.size ≤ 120
  · have HF : Hid (fLongestTwice x0 = (strL (lonL (tx x0) (sufL (tx x0)) x0.size), !(lonL (tx x0) (sufL (tx x0)) x0.size).isEmpty)) := by show _ = _; unfold fLongestTwice; rw [if_pos h2]
    have hf : fSuffixesOf x0 = (nts (sufL (tx x0)), true) := by unfold fSuffixesOf; rw [if_pos h2]
    rw [hf] at hr ⊢
    have HR : Hid ((kRow kInt).is false w1 T0 [.slice a0 n0 c0] (nts (sufL (tx x0)))) := (kRow kInt).read hr
    have hn0 : n0 = x0.size := by have := row_len hr; rw [suf_len] at this; exact this
    have HSL : Hid (∀ x ∈ sufL (tx x0), x ≤ x0.size) := suf_le x0
    have hc2 := commonWithAhead_k x0 (sufL (tx x0)) a0 n0 c0 T0 w1 HR.out h2 (suf_le x0) (by omega)
    have HLE : Hid ((sufL (tx x0)).length = x0.size) := by show _ = _; rw [sufL_len, tx_len]
    have HTL : Hid ((tx x0).length = x0.size) := tx_len x0
    generalize sufL (tx x0) = l at *
    have HN0 : Hid (n0 = x0.size) := hn0
    have hn120 : n0 ≤ 120 := by omega
    clear hr hb hf hcl hn0
    go_wp2_with fail
    refine hc2.mono ?_
    rintro e w2 ⟨a', n', c', rfl, hr2, hb2⟩
    have HR2 : Hid ((kRow kInt).is false w2 (fun k => w1.heap.size ≤ k) [.slice a' n' c'] (nts (comL (tx x0) l))) := (kRow kInt).read hr2
    have HRL : Hid ((kRow kInt).is false w2 T0 [.slice a0 n0 c0] (nts l)) := Kd.below HR.out hb2
    have hn' : n' = x0.size := by have := row_len hr2; rw [nts_len, comL_len, HLE.out] at this; exact this
    have HB2 : Hid (Below w.heap.size w w2) := HB.out.trans (hb2.mono HB.out.size)
    have hn0 := HN0.out
    clear HN0
    obtain ⟨n, hn⟩ : ∃ n, n = x0.size := ⟨_, rfl⟩
    rw [← hn] at hn0 hn' HLE HTL h2
    subst hn0 hn'
    have HNS : Hid (n' = x0.size) := hn
    clear hr2 hb2 hc2 hn HR
    go_wp2_with fail
    go_loopw [6, 20] (fun v kv wr => ∃ p : Nat, p ≤ n' ∧ kv = .int .i64 p ∧ v = .string (strL (lonL (tx x0) l p)) ∧ wr = w2) (fun _ kv _ => n' - (intOf kv).toNat)
    case atStart => exact ⟨0, Nat.zero_le _, rfl, rfl, rfl⟩
    case round =>
      obtain ⟨p, hp, rfl, rfl, rfl⟩ := hrel
      by_cases hlt : p < n'
      · obtain ⟨y, hy⟩ : ∃ y, l[p]? = some y := ⟨_, List.getElem?_eq_getElem (by rw [HLE.out]; exact hlt)⟩
        obtain ⟨b, o, rfl, hb, _, A2⟩ := rowI_at HRL.out (nts_at hy)
        have hcm : (comL (tx x0) l)[p]? = some (comAt (tx x0) l p) := by simp [comL, HLE.out, hlt]
        obtain ⟨b', o', rfl, hb', _, A1⟩ := rowI_at HR2.out (nts_at hcm)
        have hys : y ≤ x0.size := HSL.out y (List.mem_of_getElem? hy)
        have hcs := comAt_le (tx x0) l p
        have hls := lonL_len (tx x0) l p
        have HD : Hid (lonL (tx x0) l (p + 1) = if (lonL (tx x0) l p).length < comAt (tx x0) l p then stL (tx x0) (comAt (tx x0) l p) y else lonL (tx x0) l p) := by
          show _ = _
          rw [show lonL (tx x0) l (p + 1) = if (lonL (tx x0) l p).length < comAt (tx x0) l p then stL (tx x0) (comAt (tx x0) l p) (l.getD p 0) else lonL (tx x0) l p from rfl, List.getD_eq_getElem?_getD, hy]
          rfl
        have hsl := strL_size (lonL (tx x0) l p)
        rw [HTL.out] at hcs hls
        generalize comAt (tx x0) l p = r at *
        obtain ⟨L, hL⟩ : ∃ L, L = lonL (tx x0) l p := ⟨_, rfl⟩
        rw [← hL] at HD hsl hls ⊢
        obtain ⟨m, hm⟩ : ∃ m, m = L.length := ⟨_, rfl⟩
        rw [← hm] at HD hsl hls
        have k0 : (0 : Int) ≤ (p : Int) := by omega
        have k1 : (p : Int) < (n' : Int) := by omega
        have hcl := stretchAt_k x0 y r wr hys (by omega) h0
        clear hy hL hm hcm
        by_cases hmr : m < r
        · have k2 : (m : Int) < (r : Int) := by omega
          have HE : Hid (strL (lonL (tx x0) l (p + 1)) = strL (stL (tx x0) r y)) := by show _ = _; rw [HD.out, if_pos hmr]
          have HEN : Hid (encStr (stL (tx x0) r y) = .string (strL (stL (tx x0) r y))) := rfl
          rw [HEN.out] at hcl
          generalize strL (stL (tx x0) r y) = X at *
          generalize strL L = Y at *
          go_wp2_with fail
          refine hcl.mono ?_
          rintro e w5 ⟨rfl, rfl⟩
          go_wp2
          go_roundw
          case rel => exact ⟨p + 1, by omega, by go_num, by rw [HE.out], trivial⟩
          case measure => simp [intOf]; omega
        · have k2 : ¬ (m : Int) < (r : Int) := by omega
          have HE : Hid (lonL (tx x0) l (p + 1) = L) := by show _ = _; rw [HD.out, if_neg hmr]
          go_wp2
          go_roundw
          case rel => exact ⟨p + 1, by omega, by go_num, by rw [HE.out], trivial⟩
          case measure => simp [intOf]; omega
      · obtain rfl : p = n' := by omega
        have k1 : ¬ (p : Int) < (p : Int) := by omega
        have hls := lonL_len (tx x0) l p
        rw [HTL.out] at hls
        have hcl := cloneStr_k (strL (lonL (tx x0) l p)) wr (by rw [strL_size]; omega)
        have HSZ : Hid ((strL (lonL (tx x0) l p)).size ≤ 2 ^ 24) := by show _ ≤ _; rw [strL_size]; omega
        rw [← HNS.out] at HF
        by_cases hem : lonL (tx x0) l p = []
        · rw [hem] at hcl HSZ HF ⊢
          have HF2 : Hid (fLongestTwice x0 = (⟨#[]⟩, false)) := by show _ = _; rw [HF.out]; rfl
          have HQ : Hid (strL [] = (⟨#[]⟩ : ByteArray)) := rfl
          rw [HQ.out] at hcl ⊢
          clear hem hls
          go_wp2_with fail
          refine hcl.mono ?_
          rintro e w3 ⟨rfl, hb3⟩
          have HB3 : Hid (Below w.heap.size w w3) := HB2.out.trans (hb3.mono HB2.out.size)
          clear hb3 hcl
          go_wp2
          refine bodyPost_ret (v := .tuple #[.string ⟨#[]⟩, .bool false]) (by simp [results, Try.results11, go_sem]) rfl ?_
          unfold RLongestTwice
          rw [HF2.out]
          exact ⟨rfl, by decide, HB3.out⟩
        · obtain ⟨f1, f2⟩ := strL_full hem
          have HF2 : Hid (fLongestTwice x0 = (strL (lonL (tx x0) l p), true)) := by
            show _ = _
            rw [HF.out]
            congr 1
            simpa using hem
          generalize strL (lonL (tx x0) l p) = Y at *
          clear hem hls
          go_wp2_with fail
          refine hcl.mono ?_
          rintro e w3 ⟨rfl, hb3⟩
          have HB3 : Hid (Below w.heap.size w w3) := HB2.out.trans (hb3.mono HB2.out.size)
          clear hb3 hcl
          go_wp2
          refine bodyPost_ret (v := .tuple #[.string Y, .bool true]) (by simp [results, Try.results11, go_sem]) rfl ?_
          unfold RLongestTwice
          rw [HF2.out]
          exact ⟨rfl, HSZ.out, HB3.out⟩
  · have HF : Hid (fLongestTwice x0 = (⟨#[]⟩, false)) := by show _ = _; unfold fLongestTwice; rw [if_neg h2]
    have hf : fSuffixesOf x0 = ([], false) := by unfold fSuffixesOf; rw [if_neg h2]
    rw [hf]
    clear hr hb hf hcl
    go_wp2
    refine bodyPost_ret (v := .tuple #[.string ⟨#[]⟩, .bool false]) (by simp [results, Try.results11, go_sem]) rfl ?_
    unfold RLongestTwice
    rw [HF.out]
    exact ⟨rfl, by decide, HB.out⟩
set_option maxRecDepth 100000 in
set_option maxHeartbeats 2000000 in
theorem specLongestTwice_k (x0 : ByteArray) (w : World) (h0 : x0.size ≤ 2 ^ 20) :
    Calls Try.prog 12 #[.string x0] w (RLongestTwice x0 w) := by
  by_cases h2 : x0.size ≤ 120
  · have h3 : ¬ (120 : Int) < (x0.size : Int) := by omega
    have HF : Hid (fLongestTwice x0 = (strL (lonL (tx x0) (sufL (tx x0)) x0.size), !(lonL (tx x0) (sufL (tx x0)) x0.size).isEmpty)) := by show _ = _; unfold fLongestTwice; rw [if_pos h2]
    have hcl := l12Suffixes_k x0 w h2
    have HSL : Hid (∀ x ∈ sufL (tx x0), x ≤ x0.size) := suf_le x0
    have HLE : Hid ((sufL (tx x0)).length = x0.size) := by show _ = _; rw [sufL_len, tx_len]
    have HTL : Hid ((tx x0).length = x0.size) := tx_len x0
    generalize sufL (tx x0) = l at *
    go_enter Try.func12, Try.ntmps12
    go_wp2_with fail
    refine hcl.mono ?_
    rintro e w2 ⟨a0, n0, c0, rfl, hr, hb⟩
    have HB2 : Hid (Below w.heap.size w w2) := hb
    have HRL : Hid ((kRow kInt).is false w2 (fun k => w.heap.size ≤ k) [.slice a0 n0 c0] (nts l)) := (kRow kInt).read hr
    have hn0 : n0 = x0.size := by have := row_len hr; rw [nts_len, HLE.out] at this; exact this
    rw [← hn0] at HLE HTL h2
    have HNS : Hid (n0 = x0.size) := hn0
    clear hr hb hcl hn0 h3
    go_wp2_with fail
    go_loopw [5, 6] (fun v kv wr => ∃ p : Nat, 1 ≤ p ∧ (p ≤ n0 ∨ p = 1) ∧ kv = .int .i64 p ∧ v = .string (strL (lonL (tx x0) l p)) ∧ Below w2.heap.size w2 wr) (fun _ kv _ => n0 - (intOf kv).toNat)
    case atStart => exact ⟨1, by omega, .inr rfl, rfl, by rw [lonL_one]; rfl, Below.refl _ _⟩
    case round =>
      obtain ⟨p, hp1, hp, rfl, rfl, hnx⟩ := hrel
      have zw := hnx.size
      by_cases hlt : p < n0
      · obtain ⟨j, rfl⟩ : ∃ j, p = j + 1 := ⟨p - 1, by omega⟩
        obtain ⟨y, hy⟩ : ∃ y, l[j + 1]? = some y := ⟨_, List.getElem?_eq_getElem (by rw [HLE.out]; exact hlt)⟩
        obtain ⟨b, o, rfl, hb, _, A2⟩ := rowI_at (Kd.below HRL.out hnx) (nts_at hy)
        have hys : y ≤ x0.size := HSL.out y (List.mem_of_getElem? hy)
        have hls := lonL_len (tx x0) l (j + 1)
        have HD : Hid (lonL (tx x0) l (j + 1 + 1) = if (lonL (tx x0) l (j + 1)).length < comAt (tx x0) l (j + 1) then stL (tx x0) (comAt (tx x0) l (j + 1)) y else lonL (tx x0) l (j + 1)) := by
          show _ = _
          rw [show lonL (tx x0) l (j + 1 + 1) = if (lonL (tx x0) l (j + 1)).length < comAt (tx x0) l (j + 1) then stL (tx x0) (comAt (tx x0) l (j + 1)) (l.getD (j + 1) 0) else lonL (tx x0) l (j + 1) from rfl, List.getD_eq_getElem?_getD, hy]
          rfl
        obtain ⟨x, hx⟩ : ∃ x, l[j]? = some x := ⟨_, List.getElem?_eq_getElem (by rw [HLE.out]; omega)⟩
        obtain ⟨b', o', e', _, _, A1⟩ := rowI_at (Kd.below HRL.out hnx) (nts_at hx)
        obtain ⟨rfl, rfl⟩ : b = b' ∧ o = o' := by injection e' with e; injection e with e1 e2; exact ⟨e1, e2⟩
        have hxs : x ≤ x0.size := HSL.out x (List.mem_of_getElem? hx)
        have HC2 : Hid (comAt (tx x0) l (j + 1) = com (tx (x0.extract x x0.size)) (tx (x0.extract y x0.size))) := by
          show _ = _
          unfold comAt
          rw [if_neg (by omega), tx_end, tx_end, show j + 1 - 1 = j by omega, List.getD_eq_getElem?_getD, hx, List.getD_eq_getElem?_getD, hy]
          rfl
        have hry : comAt (tx x0) l (j + 1) + y ≤ x0.size := by
          have h := com_le2 (tx (x0.extract x x0.size)) (tx (x0.extract y x0.size))
          rw [← HC2.out, tx_end, List.length_drop, tx_len] at h
          omega
        have hcl : Hid (∀ W, Calls Try.prog 35 #[.string (x0.extract x x0.size), .string (x0.extract y x0.size)] W fun e w' => e = .returned (.int .i64 (comAt (tx x0) l (j + 1) : Nat)) ∧ Below W.heap.size W w') := fun W => by
          have e1 : (x0.extract x x0.size).size ≤ x0.size := by rw [ByteArray.size_extract]; omega
          have e2 : (x0.extract y x0.size).size ≤ x0.size := by rw [ByteArray.size_extract]; omega
          rw [HC2.out]
          exact l12Common_k _ _ W (by omega) (by omega)
        have HEX : Hid (Value.string (x0.extract y (y + comAt (tx x0) l (j + 1))) = .string (strL (stL (tx x0) (comAt (tx x0) l (j + 1)) y))) := by
          show _ = _
          rw [enc_ext x0 y (comAt (tx x0) l (j + 1)) (y + comAt (tx x0) l (j + 1)) (by omega)]
          rfl
        have hsl := strL_size (lonL (tx x0) l (j + 1))
        rw [HTL.out] at hls
        obtain ⟨r, hr⟩ : ∃ r, r = comAt (tx x0) l (j + 1) := ⟨_, rfl⟩
        rw [← hr] at hcl HD hry HEX
        obtain ⟨L, hL⟩ : ∃ L, L = lonL (tx x0) l (j + 1) := ⟨_, rfl⟩
        rw [← hL] at HD hsl hls ⊢
        obtain ⟨m, hm⟩ : ∃ m, m = L.length := ⟨_, rfl⟩
        rw [← hm] at HD hsl hls
        clear hr HC2 hx hy hL hm
        have k0 : (0 : Int) ≤ ((j + 1 : Nat) : Int) := by omega
        have k1 : ((j + 1 : Nat) : Int) < (n0 : Int) := by omega
        have k3 : ((j + 1 : Nat) : Int) - 1 = (j : Int) := by omega
        have k4 : (0 : Int) ≤ (j : Int) := by omega
        have k5 : (x : Int) ≤ (x0.size : Int) := by omega
        have k6 : (y : Int) ≤ (x0.size : Int) := by omega
        have k7 : (j : Int) < (n0 : Int) := by omega
        have k9 : (y : Int) + (r : Int) ≤ (x0.size : Int) := by omega
        have q1 : IntKind.i64.wrap ((j : Int) + 1 - 1) = (j : Int) := by rw [show (j : Int) + 1 - 1 = (j : Int) by omega]; exact wrap_smallC (by omega) (by omega)
        have q2 : IntKind.i64.wrap (j : Int) = (j : Int) := wrap_smallC (by omega) (by omega)
        have q3 : IntKind.i64.wrap ((y : Int) + (r : Int)) = (y : Int) + (r : Int) := wrap_smallC (by omega) (by omega)
        have U1 := fun q => BelowOf.cell A1 q
        have U2 := fun q => BelowOf.cell A2 q
        have hne := belowOf_ne wr
        obtain ⟨Y, hYY⟩ : ∃ Y, Y = strL L := ⟨_, rfl⟩
        have HYY : Hid (Y = strL L) := hYY
        rw [← hYY] at hsl ⊢
        clear hYY
        go_upto_region 8 with fail
        refine region_below (by kernel_rfl) (by kernel_rfl) ?_
        repeat (go_big_quiet_step (first | (go_at_call 35; exact BelowOf.calls (hcl.out _))))
        refine wpQuiet_nil (belowOf_all ?_)
        intro w4 hb4
        have B1 := (hb4.cell (World.block_lt_of_cell? _ _ A1)).trans A1
        have B2 := (hb4.cell (World.block_lt_of_cell? _ _ A2)).trans A2
        have HB4 : Hid (Below w2.heap.size w2 w4) := hnx.trans (hb4.mono zw)
        have V1 := fun q => BelowOf.cell B1 q
        have V2 := fun q => BelowOf.cell B2 q
        have hne4 := belowOf_ne w4
        clear U1 U2 hne A1 A2 hb4 hnx
        by_cases hmr : m < r
        · have k2 : (m : Int) < (r : Int) := by omega
          have HE : Hid (lonL (tx x0) l (j + 1 + 1) = stL (tx x0) r y) := by show _ = _; rw [HD.out, if_pos hmr]
          go_upto_region 10 with fail
          refine region_below (by kernel_rfl) (by kernel_rfl) ?_
          repeat (go_big_quiet_step (first | fail))
          refine wpQuiet_nil (belowOf_all ?_)
          intro w5 hb5
          go_wp2
          go_roundw
          case rel => exact ⟨j + 1 + 1, by omega, .inl (by omega), by go_num, by rw [HE.out]; exact HEX.out, HB4.out.trans (hb5.mono HB4.out.size)⟩
          case measure => simp [intOf]; omega
        · have k2 : ¬ (m : Int) < (r : Int) := by omega
          have HE : Hid (lonL (tx x0) l (j + 1 + 1) = L) := by show _ = _; rw [HD.out, if_neg hmr]
          go_wp2
          go_roundw
          case rel => exact ⟨j + 1 + 1, by omega, .inl (by omega), by go_num, by rw [HE.out, HYY.out], HB4.out⟩
          case measure => simp [intOf]; omega
      · have k1 : ¬ (p : Int) < (n0 : Int) := by omega
        have HB3 : Hid (Below w.heap.size w wr) := HB2.out.trans (hnx.mono HB2.out.size)
        have HPN : Hid (lonL (tx x0) l p = lonL (tx x0) l x0.size) := by
          show _ = _
          have := HNS.out
          rcases hp with hp | rfl
          · rw [show p = x0.size by omega]
          · rcases (show n0 = 0 ∨ n0 = 1 by omega) with e | e
            · rw [← HNS.out, e, lonL_one]; rfl
            · rw [← HNS.out, e]
        have hls := lonL_len (tx x0) l p
        rw [HTL.out] at hls
        have HSZ : Hid ((strL (lonL (tx x0) l p)).size ≤ 2 ^ 24) := by show _ ≤ _; rw [strL_size]; omega
        rw [← HPN.out] at HF
        by_cases hem : lonL (tx x0) l p = []
        · rw [hem] at HSZ HF ⊢
          have HF2 : Hid (fLongestTwice x0 = (⟨#[]⟩, false)) := by show _ = _; rw [HF.out]; rfl
          have HQ : Hid (strL [] = (⟨#[]⟩ : ByteArray)) := rfl
          rw [HQ.out]
          clear hem hls
          go_wp2
          refine bodyPost_ret (v := .tuple #[.string ⟨#[]⟩, .bool false]) (by simp [results, Try.results12, go_sem]) rfl ?_
          unfold RLongestTwice
          rw [HF2.out]
          exact ⟨rfl, by decide, HB3.out⟩
        · obtain ⟨f1, f2⟩ := strL_full hem
          have HF2 : Hid (fLongestTwice x0 = (strL (lonL (tx x0) l p), true)) := by
            show _ = _
            rw [HF.out]
            congr 1
            simpa using hem
          generalize strL (lonL (tx x0) l p) = Y at *
          clear hem hls
          go_wp2
          refine bodyPost_ret (v := .tuple #[.string Y, .bool true]) (by simp [results, Try.results12, go_sem]) rfl ?_
          unfold RLongestTwice
          rw [HF2.out]
          exact ⟨rfl, HSZ.out, HB3.out⟩
  · have h3 : (120 : Int) < (x0.size : Int) := by omega
    have HF : Hid (fLongestTwice x0 = (⟨#[]⟩, false)) := by show _ = _; unfold fLongestTwice; rw [if_neg h2]
    go_enter Try.func12, Try.ntmps12
    go_wp2
    refine bodyPost_ret (v := .tuple #[.string ⟨#[]⟩, .bool false]) (by simp [results, Try.results12, go_sem]) rfl ?_
    unfold RLongestTwice
    rw [HF.out]
    exact ⟨rfl, by decide, Below.refl _ _⟩
end Go.Proofs.Ytkboblfjchkedaa
