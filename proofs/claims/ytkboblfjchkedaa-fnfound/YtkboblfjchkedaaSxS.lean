/- All endings in order: the specification's. No condition but that a text fits in memory. -/
import Derived.Test.YtkboblfjchkedaaSxN
import Derived.Test.YtkboblfjchkedaaAp4
import Derived.Test.YtkboblfjchkedaaQb
namespace Go.Proofs.Ytkboblfjchkedaa
open Go.RowKit
set_option linter.unusedVariables false

/-- The bytes of a text. -/
abbrev tx (s : ByteArray) : List UInt8 := s.data.toList
theorem tx_len (s : ByteArray) : (tx s).length = s.size := rfl
theorem tx_is (s : ByteArray) : s.toList = tx s := ByteArray.toList_eq s
theorem tx_ext (s : ByteArray) (a b : Nat) : tx (s.extract a b) = ((tx s).drop a).take (b - a) := by
  simp [tx, ByteArray.data_extract, List.extract_eq_take_drop]
theorem tx_end (s : ByteArray) (a : Nat) : tx (s.extract a s.size) = (tx s).drop a := by
  rw [tx_ext, List.take_of_length_le (by rw [List.length_drop, tx_len]; omega)]
theorem less_end (s : ByteArray) (i j : Nat) : Op.bytesLess (s.extract i s.size).toList (s.extract j s.size).toList = ltE (tx s) i j := by
  rw [tx_is, tx_is, tx_end, tx_end]; rfl
/-- Places as numbers. -/
def nts (l : List Nat) : List Int := l.map (fun k : Nat => (k : Int))
theorem nts_len (l : List Nat) : (nts l).length = l.length := by simp [nts]
theorem nts_at {l : List Nat} {i k : Nat} (h : l[i]? = some k) : (nts l)[i]? = some (k : Int) := by simp [nts, h]
theorem nts_ok {l : List Nat} (h : ∀ k ∈ l, k ≤ 2 ^ 40) : ∀ x ∈ nts l, IntOk x := by
  intro x hx
  obtain ⟨k, hk, rfl⟩ := List.mem_map.1 hx
  have := h k hk
  unfold IntOk
  omega
theorem nts_take (l : List Nat) (k : Nat) : (nts l).take k = nts (l.take k) := by simp [nts, List.map_take]
theorem nts_drop (l : List Nat) (k : Nat) : (nts l).drop k = nts (l.drop k) := by simp [nts, List.map_drop]
theorem nts_inj {l m : List Nat} (h : nts l = nts m) : l = m := by
  refine List.ext_getElem? fun i => ?_
  have := congrArg (fun z => z[i]?) h
  simp only [nts, List.getElem?_map] at this
  cases a : l[i]? <;> cases b : m[i]? <;> simp_all
  exact Int.ofNat.inj this
theorem cnt_ints (l : List Int) : sums kInt.cnt l = l.length := by
  have := sums_const 1 l
  simpa [kInt] using this
theorem row_dropA {w : World} {S : Nat → Prop} {o : Bool} {b off n c : Nat} {l : List Int} (h : (kRow kInt).is o w S [.slice (some ⟨b, off, none⟩) n c] l) {k : Nat} (hk : k ≤ n) : (kRow kInt).is o w S [.slice (some ⟨b, off + k, none⟩) (n - k) (c - k)] (l.drop k) := by
  have := row_drop h hk
  rwa [show off + k * kInt.wd = off + k by show off + k * 1 = _; omega] at this
theorem own_cap {α : Type} {cs : α → List Value} {T : TypeId} {wd : Nat} {w : World} {B : Nat} {a : Option Addr} {n c : Nat} {l : List α} (h : OwnL cs T wd w B (.slice a n c) l) : n = l.length ∧ n ≤ c := by
  obtain ⟨a', c', e, hc⟩ := h.form
  obtain ⟨rfl, rfl, rfl⟩ : a = a' ∧ n = l.length ∧ c = c' := by simpa using e
  exact ⟨rfl, hc⟩

set_option maxRecDepth 100000 in
set_option maxHeartbeats 4000000 in
theorem l12Suffixes_k (s : ByteArray) (w : World) (hs : s.size ≤ 120) : Calls Try.prog 31 #[.string s] w fun e w' => ∃ a n c, e = .returned (.slice a n c) ∧ (kRow kInt).is true w' (fun k => w.heap.size ≤ k) [.slice a n c] (nts (sufL (tx s))) ∧ Below w.heap.size w w' := by
  obtain ⟨N, hN⟩ : ∃ N, N = s.size := ⟨_, rfl⟩
  have HT : Hid ((tx s).length = N) := by show _ = _; rw [tx_len, hN]
  have hN1 : (s.size : Int) = (N : Int) := by rw [hN]
  have h120 : N ≤ 120 := by omega
  have HNS : Hid (N = s.size) := hN
  clear hN hs
  go_enter Try.func31, Try.ntmps31
  go_wp2_with fail
  go_loopw [3, 4] (fun ov iv wr => ∃ m : Nat, m ≤ N ∧ iv = .int .i64 ((N : Int) - 1 - m) ∧ Hid (OwnL inC 3 1 wr w.heap.size ov (nts (sufFrom (tx s) m))) ∧ Below w.heap.size w wr) (fun _ iv _ => (intOf iv + 1).toNat)
  case atStart => exact ⟨0, Nat.zero_le _, by go_num, OwnL.nil _ _ _ _ _, Below.refl _ _⟩
  case round =>
    obtain ⟨m, hm, rfl, HO, hnx⟩ := hrel
    have zw := hnx.size
    obtain ⟨oa, oc, hov, hoc⟩ := HO.out.form
    have HSL : Hid ((nts (sufFrom (tx s) m)).length = m) := by show _ = _; rw [nts_len, sufFrom_len]
    rw [HSL.out] at hov hoc
    subst hov
    by_cases hlt : m < N
    · obtain ⟨i, hi⟩ : ∃ i, i = N - 1 - m := ⟨_, rfl⟩
      have hi1 : (N : Int) - 1 - (m : Int) = (i : Int) := by omega
      have hiN : i < N := by omega
      have HI : Hid (i = (tx s).length - (m + 1)) := by show _ = _; rw [HT.out]; omega
      rw [hi1]
      have i0 : (0 : Int) ≤ (i : Int) := by omega
      have i2 : (i : Int) ≤ (s.size : Int) := by omega
      obtain ⟨F, hF⟩ : ∃ F, F = sufFrom (tx s) m := ⟨_, rfl⟩
      have HFM : Hid (∀ z ∈ F, z < N) := fun z hz => by have := ((sufFrom_mem (t := tx s) (m := m) (by rw [HT.out]; omega)).1 (hF ▸ hz)).2; rw [HT.out] at this; exact this
      have HF : Hid (F = sufFrom (tx s) m) := hF
      rw [← hF] at HO HSL
      have HR : Hid ((kRow kInt).is true wr (fun k => w.heap.size ≤ k) [.slice oa m oc] (nts F)) := own_intK HO.out (by rw [HSL.out]; omega) (nts_ok fun k hk => by have := HFM.out k hk; omega)
      have HLF : Hid (F.length = m) := by have := HSL.out; rwa [nts_len] at this
      have HIM : Hid (i + m + 1 = N) := by show _ = _; omega
      clear hF hi hi1
      obtain ⟨V, rfl⟩ : ∃ V, V = wr := ⟨_, rfl⟩
      go_wp2_with fail
      go_loopw [5] (fun kv wq => ∃ p : Nat, p ≤ m ∧ kv = .int .i64 p ∧ Hid (posE (tx s) i F = p + posE (tx s) i (F.drop p)) ∧ Below V.heap.size V wq) (fun kv _ => m - (intOf kv).toNat)
      case atStart => exact ⟨0, Nat.zero_le _, rfl, by show _ = _; simp, Below.refl _ _⟩
      case round =>
        obtain ⟨p, hp, rfl, HP, hnq⟩ := hrel
        have zq := hnq.size
        by_cases hpm : p < m
        · obtain ⟨y, hy⟩ : ∃ y, F[p]? = some y := ⟨_, List.getElem?_eq_getElem (by rw [HLF.out]; exact hpm)⟩
          have hyN : y < N := HFM.out y (List.mem_of_getElem? hy)
          obtain ⟨b, off, rfl, hb, _, hc⟩ := rowI_at (Kd.below HR.out hnq) (nts_at hy)
          have HD : Hid (posE (tx s) i (F.drop p) = if ltE (tx s) y i = true then posE (tx s) i (F.drop (p + 1)) + 1 else 0) := posE_drop hy
          have p0 : (0 : Int) ≤ (p : Int) := by omega
          have p1 : (p : Int) < (m : Int) := by omega
          have y0 : (0 : Int) ≤ (y : Int) := by omega
          have y1 : (y : Int) ≤ (s.size : Int) := by omega
          have hle := less_end s y i
          go_wp2_with fail
          have U := fun q => BelowOf.cell hc q
          have hne := belowOf_ne wr
          cases hq : ltE (tx s) y i with
          | true =>
            have HE : Hid (posE (tx s) i F = (p + 1) + posE (tx s) i (F.drop (p + 1))) := by show _ = _; rw [HP.out, HD.out, if_pos hq]; omega
            rw [hq] at hle
            refine region_below (by kernel_rfl) (by kernel_rfl) ?_
            repeat (go_big_quiet_step (first | fail))
            refine wpQuiet_nil (belowOf_all ?_)
            intro w2 hb2
            go_wp2
            go_roundw
            case rel => exact ⟨p + 1, by omega, by go_num, HE, hnq.trans (hb2.mono zq)⟩
            case measure => simp [intOf]; omega
          | false =>
          have HE : Hid (posE (tx s) i F = p) := by show _ = _; rw [HP.out, HD.out, if_neg (by rw [hq]; exact Bool.false_ne_true)]; omega
          rw [hq] at hle
          refine region_below (by kernel_rfl) (by kernel_rfl) ?_
          repeat (go_big_quiet_step (first | fail))
          refine wpQuiet_nil (belowOf_all ?_)
          intro w2 hb2
          have HB2 : Hid (Below V.heap.size V w2) := hnq.trans (hb2.mono zq)
          have zv := HB2.out.size
          have p2 : (p : Int) ≤ (oc : Int) := by omega
          have p3 : (p : Int) ≤ (m : Int) := by omega
          have HR2 : Hid ((kRow kInt).is true w2 (fun k => k < w2.heap.size) [.slice (some ⟨b, off, none⟩) m oc] (nts F)) := (kRow kInt).tight (Kd.below HR.out HB2.out) (fun k hk _ => hk)
          have HT2 : Hid ((kRow kInt).is false w2 (fun k => k < w2.heap.size) [.slice (some ⟨b, off, none⟩) p oc] (nts (F.take p))) := by
            show (kRow kInt).is _ _ _ _ _
            rw [← nts_take]
            exact (kRow kInt).read (row_take HR2.out (by omega))
          have HLT : Hid ((nts (F.take p)).length = p) := by show _ = _; rw [nts_len, List.length_take, HLF.out]; omega
          go_wp2_with (at_builtin; refine app_ints rfl _ _ rfl w2.heap.size _ [] rfl (OwnL.nil _ _ _ _ _) _ _ _ _ (nts (F.take p)) rfl HT2.out (by rw [HLT.out]; simp; omega) (Nat.le_refl _) ?_)
          intro v3 w3 ho3 hb3 _
          have HO3 : Hid (OwnL inC 3 1 w3 w2.heap.size v3 (nts (F.take p))) := ho3
          obtain ⟨W3, rfl⟩ : ∃ W3, W3 = w3 := ⟨_, rfl⟩
          have HB3 : Hid (Below w2.heap.size w2 W3) := hb3
          have z3 := hb3.size
          clear ho3 hb3
          go_wp2_with (at_builtin; refine app_int rfl _ _ rfl w2.heap.size _ (nts (F.take p)) rfl (OwnL.below HO3.out (below_a1r _ _)) _ (i : Int) rfl (by simp [World.cell?_alloc_new]) (by rw [HLT.out]; omega) (by simp; omega) ?_)
          intro v4 w4 ho4 hb4 _
          have HO4 : Hid (OwnL inC 3 1 w4 w2.heap.size v4 (nts (F.take p) ++ [(i : Int)])) := ho4
          have HB4 : Hid (Below w2.heap.size w2 w4) := (HB3.out.alloc (by omega) _).trans hb4
          have z4 := HB4.out.size
          have HR4 : Hid ((kRow kInt).is true w4 (fun k => k < w2.heap.size) [.slice (some ⟨b, off, none⟩) m oc] (nts F)) := (kRow kInt).keep HR2.out z4 (fun k _ hk => HB4.out.block k hk)
          clear ho4 hb4
          have HD4 : Hid ((kRow kInt).is false w4 (fun k => k < w2.heap.size) [.slice (some ⟨b, off + p, none⟩) (m - p) (oc - p)] (nts (F.drop p))) := by
            show (kRow kInt).is _ _ _ _ _
            rw [← nts_drop]
            exact (kRow kInt).read (row_dropA HR4.out (by omega))
          have HLD : Hid ((nts (F.drop p)).length = m - p) := by show _ = _; rw [nts_len, List.length_drop, HLF.out]
          have e1 : (m : Int) - (p : Int) = ((m - p : Nat) : Int) := by omega
          have e2 : (oc : Int) - (p : Int) = ((oc - p : Nat) : Int) := by omega
          go_wp2_with (at_builtin; refine app_ints rfl _ _ rfl w2.heap.size _ (nts (F.take p) ++ [(i : Int)]) rfl HO4.out _ _ _ _ (nts (F.drop p)) rfl HD4.out (by rw [HLD.out, List.length_append, HLT.out]; simp; omega) (by omega) ?_)
          intro v5 w5 ho5 hb5 _
          have HO5 : Hid (OwnL inC 3 1 w5 w.heap.size v5 (nts (sufFrom (tx s) (m + 1)))) := by
            show OwnL _ _ _ _ _ _ _
            rw [sufFrom, ← HF.out, ← HI.out, insE_is, HE.out]
            have e : nts (F.take p ++ i :: F.drop p) = nts (F.take p) ++ (i : Int) :: nts (F.drop p) := by simp [nts]
            rw [e]
            exact OwnL.mono ho5 (by omega)
          have HB5 : Hid (Below w.heap.size w w5) := hnx.trans ((HB2.out.trans ((HB4.out.trans hb5).mono zv)).mono zw)
          clear ho5 hb5
          go_wp2
          go_roundw
          case rel => exact ⟨m + 1, by omega, by have := HIM.out; go_num, HO5, HB5.out⟩
          case measure => have := HIM.out; simp only [intOf]; omega
        · have p1 : ¬ (p : Int) < (m : Int) := by omega
          have p1a : decide ((p : Int) < (m : Int)) = false := decide_eq_false p1
          have p1b : decide (p < m) = false := decide_eq_false hpm
          have HE : Hid (posE (tx s) i F = p) := by show _ = _; rw [HP.out, List.drop_of_length_le (by rw [HLF.out]; omega)]; simp [posE]
          have hne := belowOf_ne wr
          have hoo : (oa = none ∧ m = 0 ∧ oc = 0) ∨ ∃ b off, oa = some ⟨b, off, none⟩ := by
            rcases HO.out.2 with ⟨e, e0⟩ | ⟨g, cap, cur, e, _⟩
            · left; simpa using e
            · right; injection e with e1; exact ⟨g, 0, e1⟩
          go_wp2_with fail
          refine region_below (by kernel_rfl) (by kernel_rfl) ?_
          repeat (go_big_quiet_step (first | fail))
          refine wpQuiet_nil (belowOf_all ?_)
          intro w2 hb2
          rcases hoo with ⟨rfl, rfl, rfl⟩ | ⟨b, off, rfl⟩
          · obtain rfl : p = 0 := by omega
            have HB2 : Hid (Below V.heap.size V w2) := hnq.trans (hb2.mono zq)
            have zv := HB2.out.size
            have HF0 : Hid (F = []) := List.eq_nil_of_length_eq_zero HLF.out
            go_wp2_with (at_builtin; refine app_int rfl _ _ rfl w2.heap.size _ [] rfl (OwnL.nil _ _ _ _ _) _ (i : Int) rfl (by simp [World.cell?_alloc_new]) (by simp) (by simp) ?_)
            intro v4 w4 ho4 hb4 _
            have HO4 : Hid (OwnL inC 3 1 w4 w2.heap.size v4 [(i : Int)]) := ho4
            have HB4 : Hid (Below w2.heap.size w2 w4) := ((Below.refl _ _).alloc (by omega) _).trans hb4
            have z4 := HB4.out.size
            clear ho4 hb4
            go_wp2_with (at_builtin; refine app_ints rfl _ _ rfl w2.heap.size _ [(i : Int)] rfl HO4.out _ _ _ (fun _ => True) [] rfl (row_nil _ _ _ _ _ _) (by simp) (by omega) ?_)
            intro v5 w5 ho5 hb5 _
            have HO5 : Hid (OwnL inC 3 1 w5 w.heap.size v5 (nts (sufFrom (tx s) (0 + 1)))) := by
              show OwnL _ _ _ _ _ _ _
              rw [sufFrom, ← HF.out, ← HI.out, HF0.out]
              exact OwnL.mono ho5 (by omega)
            have HB5 : Hid (Below w.heap.size w w5) := hnx.trans ((HB2.out.trans ((HB4.out.trans hb5).mono zv)).mono zw)
            clear ho5 hb5
            go_wp2
            go_roundw
            case rel => exact ⟨0 + 1, by omega, by have := HIM.out; go_num, HO5, HB5.out⟩
            case measure => have := HIM.out; simp only [intOf]; omega
          · have HB2 : Hid (Below V.heap.size V w2) := hnq.trans (hb2.mono zq)
            have zv := HB2.out.size
            have p2 : (p : Int) ≤ (oc : Int) := by omega
            have p3 : (p : Int) ≤ (m : Int) := by omega
            have HR2 : Hid ((kRow kInt).is true w2 (fun k => k < w2.heap.size) [.slice (some ⟨b, off, none⟩) m oc] (nts F)) := (kRow kInt).tight (Kd.below HR.out HB2.out) (fun k hk _ => hk)
            have HT2 : Hid ((kRow kInt).is false w2 (fun k => k < w2.heap.size) [.slice (some ⟨b, off, none⟩) p oc] (nts (F.take p))) := by
              show (kRow kInt).is _ _ _ _ _
              rw [← nts_take]
              exact (kRow kInt).read (row_take HR2.out (by omega))
            have HLT : Hid ((nts (F.take p)).length = p) := by show _ = _; rw [nts_len, List.length_take, HLF.out]; omega
            go_wp2_with (at_builtin; refine app_ints rfl _ _ rfl w2.heap.size _ [] rfl (OwnL.nil _ _ _ _ _) _ _ _ _ (nts (F.take p)) rfl HT2.out (by rw [HLT.out]; simp; omega) (Nat.le_refl _) ?_)
            intro v3 w3 ho3 hb3 _
            have HO3 : Hid (OwnL inC 3 1 w3 w2.heap.size v3 (nts (F.take p))) := ho3
            obtain ⟨W3, rfl⟩ : ∃ W3, W3 = w3 := ⟨_, rfl⟩
            have HB3 : Hid (Below w2.heap.size w2 W3) := hb3
            have z3 := hb3.size
            clear ho3 hb3
            go_wp2_with (at_builtin; refine app_int rfl _ _ rfl w2.heap.size _ (nts (F.take p)) rfl (OwnL.below HO3.out (below_a1r _ _)) _ (i : Int) rfl (by simp [World.cell?_alloc_new]) (by rw [HLT.out]; omega) (by simp; omega) ?_)
            intro v4 w4 ho4 hb4 _
            have HO4 : Hid (OwnL inC 3 1 w4 w2.heap.size v4 (nts (F.take p) ++ [(i : Int)])) := ho4
            have HB4 : Hid (Below w2.heap.size w2 w4) := (HB3.out.alloc (by omega) _).trans hb4
            have z4 := HB4.out.size
            have HR4 : Hid ((kRow kInt).is true w4 (fun k => k < w2.heap.size) [.slice (some ⟨b, off, none⟩) m oc] (nts F)) := (kRow kInt).keep HR2.out z4 (fun k _ hk => HB4.out.block k hk)
            clear ho4 hb4
            have HD4 : Hid (∀ a c, (kRow kInt).is false w4 (fun k => k < w2.heap.size) [.slice a (m - p) c] (nts (F.drop p))) := fun a c => by
              have e : nts (F.drop p) = [] := by rw [List.drop_of_length_le (by rw [HLF.out]; omega)]; rfl
              rw [e, show m - p = 0 by omega]
              exact row_nil _ _ _ _ _ _
            have HLD : Hid ((nts (F.drop p)).length = m - p) := by show _ = _; rw [nts_len, List.length_drop, HLF.out]
            have e1 : (m : Int) - (p : Int) = ((m - p : Nat) : Int) := by omega
            have e2 : (oc : Int) - (p : Int) = ((oc - p : Nat) : Int) := by omega
            rcases Nat.lt_or_ge p oc with hpo | hpo
            · have hpo1 : ¬ (p : Int) = (oc : Int) := by omega
              have hpo2 : ¬ p = oc := by omega
              go_wp2_with (at_builtin; refine app_ints rfl _ _ rfl w2.heap.size _ (nts (F.take p) ++ [(i : Int)]) rfl HO4.out _ _ _ _ (nts (F.drop p)) rfl (HD4.out _ _) (by rw [HLD.out, List.length_append, HLT.out]; simp; omega) (by omega) ?_)
              intro v5 w5 ho5 hb5 _
              have HO5 : Hid (OwnL inC 3 1 w5 w.heap.size v5 (nts (sufFrom (tx s) (m + 1)))) := by
                show OwnL _ _ _ _ _ _ _
                rw [sufFrom, ← HF.out, ← HI.out, insE_is, HE.out]
                have e : nts (F.take p ++ i :: F.drop p) = nts (F.take p) ++ (i : Int) :: nts (F.drop p) := by simp [nts]
                rw [e]
                exact OwnL.mono ho5 (by omega)
              have HB5 : Hid (Below w.heap.size w w5) := hnx.trans ((HB2.out.trans ((HB4.out.trans hb5).mono zv)).mono zw)
              clear ho5 hb5
              go_wp2
              go_roundw
              case rel => exact ⟨m + 1, by omega, by have := HIM.out; go_num, HO5, HB5.out⟩
              case measure => have := HIM.out; simp only [intOf]; omega
            · obtain rfl : p = m := by omega
              obtain rfl : oc = p := by omega
              have HD5 : Hid (∀ a c, (kRow kInt).is false w4 (fun k => k < w2.heap.size) [.slice a 0 c] (nts (F.drop oc))) := fun a c => by
                have := HD4.out a c
                rwa [show oc - oc = 0 by omega] at this
              clear e1 e2
              go_wp2_with (at_builtin; refine app_ints rfl _ _ rfl w2.heap.size _ (nts (F.take oc) ++ [(i : Int)]) rfl HO4.out _ _ _ _ (nts (F.drop oc)) rfl (HD5.out _ _) (by rw [HLD.out, List.length_append, HLT.out]; simp; omega) (by omega) ?_)
              intro v5 w5 ho5 hb5 _
              have HO5 : Hid (OwnL inC 3 1 w5 w.heap.size v5 (nts (sufFrom (tx s) (oc + 1)))) := by
                show OwnL _ _ _ _ _ _ _
                rw [sufFrom, ← HF.out, ← HI.out, insE_is, HE.out]
                have e : nts (F.take oc ++ i :: F.drop oc) = nts (F.take oc) ++ (i : Int) :: nts (F.drop oc) := by simp [nts]
                rw [e]
                exact OwnL.mono ho5 (by omega)
              have HB5 : Hid (Below w.heap.size w w5) := hnx.trans ((HB2.out.trans ((HB4.out.trans hb5).mono zv)).mono zw)
              clear ho5 hb5
              go_wp2
              go_roundw
              case rel => exact ⟨oc + 1, by omega, by have := HIM.out; go_num, HO5, HB5.out⟩
              case measure => have := HIM.out; simp only [intOf]; omega
    · obtain rfl : m = N := by omega
      have i1 : ¬ (0 : Int) ≤ (m : Int) - 1 - (m : Int) := by omega
      have HR : Hid ((kRow kInt).is true wr (fun k => w.heap.size ≤ k) [.slice oa m oc] (nts (sufL (tx s)))) := by
        show (kRow kInt).is _ _ _ _ _
        unfold sufL
        rw [HT.out]
        exact own_intK HO.out (by rw [HSL.out]; omega) (nts_ok fun k hk => by have := ((sufFrom_mem (t := tx s) (by rw [HT.out]; omega)).1 hk).2; rw [HT.out] at this; omega)
      clear HO
      go_wp2
      go_ret
      exact ⟨oa, m, oc, rfl, HR.out, hnx⟩
end Go.Proofs.Ytkboblfjchkedaa
