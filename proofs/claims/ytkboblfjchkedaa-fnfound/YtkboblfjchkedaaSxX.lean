/- DistinctIn: the program's and the specification's. No condition but that a text fits in memory. -/
import Derived.Test.YtkboblfjchkedaaSxW
namespace Go.Proofs.Ytkboblfjchkedaa
open Go.RowKit Go.Sort
set_option linter.unusedVariables false

/-- How many texts the first p endings begin with that were not met. -/
def disI (t : List UInt8) (l : List Nat) : Nat → Int
  | 0 => 0
  | p + 1 => disI t l p + ((t.length : Int) - (l.getD p 0 : Nat) - (comAt t l p : Nat))
theorem disI_bd (t : List UInt8) (l : List Nat) (ht : t.length ≤ 120) (hl : ∀ x ∈ l, x ≤ t.length) : ∀ p : Nat, -(120 * (p : Int)) ≤ disI t l p ∧ disI t l p ≤ 120 * (p : Int)
  | 0 => by simp [disI]
  | p + 1 => by
    have := disI_bd t l ht hl p
    have h1 := comAt_le t l p
    have h2 : l.getD p 0 ≤ t.length := by
      rw [List.getD_eq_getElem?_getD]
      cases h : l[p]? with
      | none => simp
      | some x => exact hl x (List.mem_of_getElem? h)
    unfold disI
    omega
/-- DistinctIn. -/
def fDistinctIn (s : ByteArray) : Int × Bool := if s.size ≤ 120 then (disI (tx s) (sufL (tx s)) s.size, true) else (0, false)
/-- What DistinctIn answers. -/
def RDistinctIn (x0 : ByteArray) (w : World) (e : Ending) (w' : World) : Prop := e = .returned (.tuple #[.int .i64 (fDistinctIn x0).1, .bool (fDistinctIn x0).2]) ∧ IntOk (fDistinctIn x0).1 ∧ Below w.heap.size w w'
set_option maxRecDepth 100000 in
set_option maxHeartbeats 2000000 in
theorem implDistinctIn_k (x0 : ByteArray) (w : World) (h0 : x0.size ≤ 2 ^ 20) :
    Calls Try.prog 22 #[.string x0] w (RDistinctIn x0 w) := by
  have hcl := implSuffixesOf_k x0 w h0
  go_enter Try.func22, Try.ntmps22
  go_wp2_with fail
  refine hcl.mono ?_
  rintro e w1 ⟨a0, n0, c0, T0, rfl, hr, _, _, hb⟩
  have HB : Hid (Below w.heap.size w w1) := hb
  by_cases h2 : x0.size ≤ 120
  · have HF : Hid (fDistinctIn x0 = (disI (tx x0) (sufL (tx x0)) x0.size, true)) := by show _ = _; unfold fDistinctIn; rw [if_pos h2]
    have hf : fSuffixesOf x0 = (nts (sufL (tx x0)), true) := by unfold fSuffixesOf; rw [if_pos h2]
    rw [hf] at hr ⊢
    have HR : Hid ((kRow kInt).is false w1 T0 [.slice a0 n0 c0] (nts (sufL (tx x0)))) := (kRow kInt).read hr
    have hn0 : n0 = x0.size := by have := row_len hr; rw [suf_len] at this; exact this
    have HSL : Hid (∀ x ∈ sufL (tx x0), x ≤ x0.size) := suf_le x0
    have HBD : Hid (∀ p : Nat, -(120 * (p : Int)) ≤ disI (tx x0) (sufL (tx x0)) p ∧ disI (tx x0) (sufL (tx x0)) p ≤ 120 * (p : Int)) := disI_bd _ _ (by rw [tx_len]; exact h2) (fun x hx => by rw [tx_len]; exact suf_le x0 x hx)
    have hc2 := commonWithAhead_k x0 (sufL (tx x0)) a0 n0 c0 T0 w1 HR.out h2 (suf_le x0) (by omega)
    have HLE : Hid ((sufL (tx x0)).length = x0.size) := by show _ = _; rw [sufL_len, tx_len]
    have HTL : Hid ((tx x0).length = x0.size) := tx_len x0
    generalize sufL (tx x0) = l at *
    have HN0 : Hid (n0 = x0.size) := hn0
    have hn120 : n0 ≤ 120 := by omega
    clear hr hb hf hcl hn0
    go_wp2_with fail
    refine hc2.mono ?_
    rintro e w2 ⟨a', n', c', rfl, hr2, hb2⟩
    have HR2 : Hid ((kRow kInt).is false w2 (fun k => w1.heap.size ≤ k) [.slice a' n' c'] (nts (comL (tx x0) l))) := (kRow kInt).read hr2
    have HRL : Hid ((kRow kInt).is false w2 T0 [.slice a0 n0 c0] (nts l)) := Kd.below HR.out hb2
    have hn' : n' = x0.size := by have := row_len hr2; rw [nts_len, comL_len, HLE.out] at this; exact this
    have HB2 : Hid (Below w.heap.size w w2) := HB.out.trans (hb2.mono HB.out.size)
    have hn0 := HN0.out
    clear HN0
    obtain ⟨n, hn⟩ : ∃ n, n = x0.size := ⟨_, rfl⟩
    rw [← hn] at hn0 hn' HLE HTL h2
    subst hn0 hn'
    have HNS : Hid (n' = x0.size) := hn
    clear hr2 hb2 hc2 hn HR
    go_wp2_with fail
    go_loopw [6, 20] (fun v kv wr => ∃ p : Nat, p ≤ n' ∧ kv = .int .i64 p ∧ v = .int .i64 (disI (tx x0) l p) ∧ wr = w2) (fun _ kv _ => n' - (intOf kv).toNat)
    case atStart => exact ⟨0, Nat.zero_le _, rfl, rfl, rfl⟩
    case round =>
      obtain ⟨p, hp, rfl, rfl, rfl⟩ := hrel
      by_cases hlt : p < n'
      · obtain ⟨y, hy⟩ : ∃ y, l[p]? = some y := ⟨_, List.getElem?_eq_getElem (by rw [HLE.out]; exact hlt)⟩
        obtain ⟨b, o, rfl, hb, _, A2⟩ := rowI_at HRL.out (nts_at hy)
        have hcm : (comL (tx x0) l)[p]? = some (comAt (tx x0) l p) := by simp [comL, HLE.out, hlt]
        obtain ⟨b', o', rfl, hb', _, A1⟩ := rowI_at HR2.out (nts_at hcm)
        have hys : y ≤ x0.size := HSL.out y (List.mem_of_getElem? hy)
        have hcs := comAt_le (tx x0) l p
        have HD : Hid (disI (tx x0) l (p + 1) = disI (tx x0) l p + ((n' : Int) - (y : Int) - (comAt (tx x0) l p : Nat))) := by
          show _ = _
          rw [show disI (tx x0) l (p + 1) = disI (tx x0) l p + (((tx x0).length : Int) - (l.getD p 0 : Nat) - (comAt (tx x0) l p : Nat)) from rfl, HTL.out, List.getD_eq_getElem?_getD, hy]
          rfl
        have hbd := HBD.out p
        rw [HTL.out] at hcs
        rw [← HNS.out] at hys
        generalize comAt (tx x0) l p = r at *
        obtain ⟨z, hz⟩ : ∃ z, z = disI (tx x0) l p := ⟨_, rfl⟩
        rw [← hz] at HD hbd ⊢
        clear hy hz
        have k0 : (0 : Int) ≤ (p : Int) := by omega
        have k1 : (p : Int) < (n' : Int) := by omega
        have k2 : -14400 ≤ z ∧ z ≤ 14400 := by omega
        obtain ⟨k3, k4⟩ := k2
        clear hbd
        have hsz : (x0.size : Int) = (n' : Int) := by rw [HNS.out]
        go_wp2
        go_roundw
        case rel => exact ⟨p + 1, by omega, by go_num, by rw [HD.out], trivial⟩
        case measure => simp [intOf]; omega
      · obtain rfl : p = n' := by omega
        have k1 : ¬ (p : Int) < (p : Int) := by omega
        have HO : Hid (IntOk (disI (tx x0) l p)) := by
          have := HBD.out p
          show IntOk _
          unfold IntOk
          omega
        go_wp2
        refine bodyPost_ret (v := .tuple #[.int .i64 (disI (tx x0) l p), .bool true]) (by simp [results, Try.results22, go_sem]) rfl ?_
        unfold RDistinctIn
        rw [HF.out, ← HNS.out]
        exact ⟨rfl, HO.out, HB2.out⟩
  · have HF : Hid (fDistinctIn x0 = (0, false)) := by show _ = _; unfold fDistinctIn; rw [if_neg h2]
    have hf : fSuffixesOf x0 = ([], false) := by unfold fSuffixesOf; rw [if_neg h2]
    rw [hf]
    clear hr hb hf hcl
    go_wp2
    refine bodyPost_ret (v := .tuple #[.int .i64 0, .bool false]) (by simp [results, Try.results22, go_sem]) rfl ?_
    unfold RDistinctIn
    rw [HF.out]
    exact ⟨rfl, by unfold IntOk; omega, HB.out⟩
set_option maxRecDepth 100000 in
set_option maxHeartbeats 2000000 in
theorem specDistinctIn_k (x0 : ByteArray) (w : World) (h0 : x0.size ≤ 2 ^ 20) :
    Calls Try.prog 23 #[.string x0] w (RDistinctIn x0 w) := by
  by_cases h2 : x0.size ≤ 120
  · have h3 : ¬ (120 : Int) < (x0.size : Int) := by omega
    have HF : Hid (fDistinctIn x0 = (disI (tx x0) (sufL (tx x0)) x0.size, true)) := by show _ = _; unfold fDistinctIn; rw [if_pos h2]
    have hcl := l12Suffixes_k x0 w h2
    have HSL : Hid (∀ x ∈ sufL (tx x0), x ≤ x0.size) := suf_le x0
    have HBD : Hid (∀ p : Nat, -(120 * (p : Int)) ≤ disI (tx x0) (sufL (tx x0)) p ∧ disI (tx x0) (sufL (tx x0)) p ≤ 120 * (p : Int)) := disI_bd _ _ (by rw [tx_len]; exact h2) (fun x hx => by rw [tx_len]; exact suf_le x0 x hx)
    have HLE : Hid ((sufL (tx x0)).length = x0.size) := by show _ = _; rw [sufL_len, tx_len]
    have HTL : Hid ((tx x0).length = x0.size) := tx_len x0
    generalize sufL (tx x0) = l at *
    go_enter Try.func23, Try.ntmps23
    go_wp2_with fail
    refine hcl.mono ?_
    rintro e w2 ⟨a0, n0, c0, rfl, hr, hb⟩
    have HB2 : Hid (Below w.heap.size w w2) := hb
    have HRL : Hid ((kRow kInt).is false w2 (fun k => w.heap.size ≤ k) [.slice a0 n0 c0] (nts l)) := (kRow kInt).read hr
    have hn0 : n0 = x0.size := by have := row_len hr; rw [nts_len, HLE.out] at this; exact this
    rw [← hn0] at HLE HTL h2
    have HNS : Hid (n0 = x0.size) := hn0
    clear hr hb hcl hn0 h3
    go_wp2_with fail
    go_loopw [5, 15] (fun v kv wr => ∃ p : Nat, p ≤ n0 ∧ kv = .int .i64 p ∧ v = .int .i64 (disI (tx x0) l p) ∧ Below w2.heap.size w2 wr) (fun _ kv _ => n0 - (intOf kv).toNat)
    case atStart => exact ⟨0, Nat.zero_le _, rfl, rfl, Below.refl _ _⟩
    case round =>
      obtain ⟨p, hp, rfl, rfl, hnx⟩ := hrel
      have zw := hnx.size
      by_cases hlt : p < n0
      · obtain ⟨y, hy⟩ : ∃ y, l[p]? = some y := ⟨_, List.getElem?_eq_getElem (by rw [HLE.out]; exact hlt)⟩
        obtain ⟨b, o, rfl, hb, _, A2⟩ := rowI_at (Kd.below HRL.out hnx) (nts_at hy)
        have hys : y ≤ x0.size := HSL.out y (List.mem_of_getElem? hy)
        have hcs := comAt_le (tx x0) l p
        have HD : Hid (disI (tx x0) l (p + 1) = disI (tx x0) l p + ((n0 : Int) - (y : Int)) - (comAt (tx x0) l p : Nat)) := by
          show _ = _
          rw [show disI (tx x0) l (p + 1) = disI (tx x0) l p + (((tx x0).length : Int) - (l.getD p 0 : Nat) - (comAt (tx x0) l p : Nat)) from rfl, HTL.out, List.getD_eq_getElem?_getD, hy]
          show _ + (_ - (y : Int) - _) = _
          omega
        have hbd := HBD.out p
        rw [HTL.out] at hcs
        have k0 : (0 : Int) ≤ (p : Int) := by omega
        have k1 : (p : Int) < (n0 : Int) := by omega
        have k6 : (y : Int) ≤ (x0.size : Int) := by omega
        have hsz : (x0.size : Int) = (n0 : Int) := by rw [HNS.out]
        obtain ⟨z, hz⟩ : ∃ z, z = disI (tx x0) l p := ⟨_, rfl⟩
        rw [← hz] at HD hbd ⊢
        clear hz
        have k3 : -14400 ≤ z := by omega
        have k4 : z ≤ 14400 := by omega
        clear hbd
        by_cases hp0 : p = 0
        · have HZ : Hid (comAt (tx x0) l p = 0) := by show _ = _; unfold comAt; rw [if_pos hp0]
          have k8 : ¬ (0 : Int) < (p : Int) := by omega
          clear hp0 hy hcs
          go_wp2
          go_roundw
          case rel => exact ⟨p + 1, by omega, by go_num, by rw [HD.out, HZ.out]; simp, hnx⟩
          case measure => simp [intOf]; omega
        · obtain ⟨j, rfl⟩ : ∃ j, p = j + 1 := ⟨p - 1, by omega⟩
          obtain ⟨x, hx⟩ : ∃ x, l[j]? = some x := ⟨_, List.getElem?_eq_getElem (by rw [HLE.out]; omega)⟩
          obtain ⟨b', o', e', _, _, A1⟩ := rowI_at (Kd.below HRL.out hnx) (nts_at hx)
          obtain ⟨rfl, rfl⟩ : b = b' ∧ o = o' := by injection e' with e; injection e with e1 e2; exact ⟨e1, e2⟩
          have hxs : x ≤ x0.size := HSL.out x (List.mem_of_getElem? hx)
          have HC2 : Hid (comAt (tx x0) l (j + 1) = com (tx (x0.extract x x0.size)) (tx (x0.extract y x0.size))) := by
            show _ = _
            unfold comAt
            rw [if_neg (by omega), tx_end, tx_end, show j + 1 - 1 = j by omega, List.getD_eq_getElem?_getD, hx, List.getD_eq_getElem?_getD, hy]
            rfl
          have hcl : Hid (∀ W, Calls Try.prog 35 #[.string (x0.extract x x0.size), .string (x0.extract y x0.size)] W fun e w' => e = .returned (.int .i64 (comAt (tx x0) l (j + 1) : Nat)) ∧ Below W.heap.size W w') := fun W => by
            have e1 : (x0.extract x x0.size).size ≤ x0.size := by rw [ByteArray.size_extract]; omega
            have e2 : (x0.extract y x0.size).size ≤ x0.size := by rw [ByteArray.size_extract]; omega
            rw [HC2.out]
            exact l12Common_k _ _ W (by omega) (by omega)
          obtain ⟨r, hr⟩ : ∃ r, r = comAt (tx x0) l (j + 1) := ⟨_, rfl⟩
          rw [← hr] at hcl HD hcs
          clear hr HC2 hx hy
          have k3 : ((j + 1 : Nat) : Int) - 1 = (j : Int) := by omega
          have k4 : (0 : Int) ≤ (j : Int) := by omega
          have k5 : (x : Int) ≤ (x0.size : Int) := by omega
          have k7 : (j : Int) < (n0 : Int) := by omega
          have k8 : (0 : Int) < ((j + 1 : Nat) : Int) := by omega
          have q1 : IntKind.i64.wrap ((j : Int) + 1 - 1) = (j : Int) := by rw [show (j : Int) + 1 - 1 = (j : Int) by omega]; exact wrap_smallC (by omega) (by omega)
          have q2 : IntKind.i64.wrap (j : Int) = (j : Int) := wrap_smallC (by omega) (by omega)
          have q3 : IntKind.i64.wrap (z + ((n0 : Int) - (y : Int)) - (r : Int)) = z + ((n0 : Int) - (y : Int)) - (r : Int) := wrap_smallC (by omega) (by omega)
          have U1 := fun q => BelowOf.cell A1 q
          have hne := belowOf_ne wr
          go_upto_region 10 with fail
          refine region_below (by kernel_rfl) (by kernel_rfl) ?_
          repeat (go_big_quiet_step (first | (go_at_call 35; exact BelowOf.calls (hcl.out _))))
          refine wpQuiet_nil (belowOf_all ?_)
          intro w4 hb4
          go_wp2
          go_roundw
          case rel => exact ⟨j + 1 + 1, by omega, by go_num, by rw [HD.out], hnx.trans (hb4.mono zw)⟩
          case measure => simp [intOf]; omega
      · obtain rfl : p = n0 := by omega
        have k1 : ¬ (p : Int) < (p : Int) := by omega
        have HO : Hid (IntOk (disI (tx x0) l p)) := by
          have := HBD.out p
          show IntOk _
          unfold IntOk
          omega
        have HB3 : Hid (Below w.heap.size w wr) := HB2.out.trans (hnx.mono HB2.out.size)
        go_wp2
        refine bodyPost_ret (v := .tuple #[.int .i64 (disI (tx x0) l p), .bool true]) (by simp [results, Try.results23, go_sem]) rfl ?_
        unfold RDistinctIn
        rw [HF.out, ← HNS.out]
        exact ⟨rfl, HO.out, HB3.out⟩
  · have h3 : (120 : Int) < (x0.size : Int) := by omega
    have HF : Hid (fDistinctIn x0 = (0, false)) := by show _ = _; unfold fDistinctIn; rw [if_neg h2]
    go_enter Try.func23, Try.ntmps23
    go_wp2
    refine bodyPost_ret (v := .tuple #[.int .i64 0, .bool false]) (by simp [results, Try.results23, go_sem]) rfl ?_
    unfold RDistinctIn
    rw [HF.out]
    exact ⟨rfl, by unfold IntOk; omega, Below.refl _ _⟩
end Go.Proofs.Ytkboblfjchkedaa
