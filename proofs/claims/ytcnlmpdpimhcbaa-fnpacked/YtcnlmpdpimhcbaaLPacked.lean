/- The law of packed postings, walked. No condition. -/
import Derived.Test.YtcnlmpdpimhcbaaCuQ
namespace Go.Proofs.Ytcnlmpdpimhcbaa
open Go.RowKit
set_option linter.unusedVariables false

theorem unpack_pack {l : List DPosting} (h : (fPackPostings l).2 = true) : fUnpackPostings (fPackPostings l).1 = (l, true) ∧ 2 * l.length ≤ (fPackPostings l).1.size := by
  unfold fPackPostings at h ⊢
  split at h
  · next hc =>
    rw [if_pos hc]
    have hs : (strOfNums (packN (-1) l)).size = (packN (-1) l).length := strOfNums_size _
    have h2 := packN_size l (-1)
    refine ⟨?_, by show _ ≤ (strOfNums (packN (-1) l)).size; omega⟩
    have hp := parse_pack l (packN (-1) l).length 200 (-1) (by omega) hc.2 (by omega) hc.1
    unfold fUnpackPostings
    show (match parseU (strOfNums (packN (-1) l)).size 200 (-1) (packB (-1) l) with
      | some l => if postOk 10001 (-1) l = true then (l, true) else ([], false)
      | none => ([], false)) = _
    rw [hs, hp]
    simp only
    rw [if_pos hc.1]
  · cases h
theorem unpack_no {s : ByteArray} (h : (fUnpackPostings s).2 = false) : (fUnpackPostings s).1 = [] := by
  unfold fUnpackPostings at h ⊢
  split at h
  · split at h
    · cases h
    · next h1 h2 => rw [if_neg h2]
  · rfl
theorem pack_unpack {s : ByteArray} (h : (fUnpackPostings s).2 = true) : fPackPostings (fUnpackPostings s).1 = (s, true) ∧ (fUnpackPostings s).1.length ≤ 200 := by
  unfold fUnpackPostings at h ⊢
  split at h
  · next L h1 =>
    split at h
    · next h2 =>
      obtain ⟨i1, i2⟩ := pack_parse _ _ _ _ _ h1
      rw [if_pos h2]
      refine ⟨?_, i2⟩
      unfold fPackPostings
      rw [if_pos ⟨h2, i2⟩]
      have : strOfNums (packN (-1) L) = s := by
        apply ByteArray.ext
        show (packB (-1) L).toArray = _
        rw [i1]
      rw [this]
    · cases h
  · cases h

set_option maxRecDepth 100000 in
set_option maxHeartbeats 1000000 in
theorem lawPacked_k (x0 x1 : List Int) (a0 a1 : Option Addr) (n0 c0 n1 c1 : Nat) (w : World) (h0 : (kRow kU8).is false w (fun _ => True) [.slice a0 n0 c0] x0) (h1 : (kRow kU8).is false w (fun _ => True) [.slice a1 n1 c1] x1) :
    Calls Try.prog 3 #[.slice a0 n0 c0, .slice a1 n1 c1] w fun e w' => e = .returned (.bool true) ∧ Below w.heap.size w w' := by
  have m0 : n0 ≤ 9223372036854775807 := by obtain ⟨_, _, _, h, _⟩ := row_form h0; rw [row_len h0]; exact h
  have m1 : n1 ≤ 9223372036854775807 := by obtain ⟨_, _, _, h, _⟩ := row_form h1; rw [row_len h1]; exact h
  have H0 : Hid ((kRow kU8).is false w (fun _ => True) [.slice a0 n0 c0] x0) := h0
  have H1 : Hid ((kRow kU8).is false w (fun _ => True) [.slice a1 n1 c1] x1) := h1
  clear h0 h1
  go_enter Try.func3, Try.ntmps3
  obtain ⟨q, hq⟩ : ∃ q, q = wrap64 ((n0 : Int) + (n1 : Int)) := ⟨_, rfl⟩
  by_cases hbig : (1048576 : Int) < q
  · rw [hq] at hbig
    go_wp2
    go_ret
    exact ⟨rfl, Below.refl _ _⟩
  rw [hq] at hbig
  clear hq
  go_wp2_with fail
  refine (drawPack_k w x0 a0 n0 c0 H0.out m0).mono ?_
  rintro e w1 ⟨ra, rn, rc, T, l, rfl, hr, hT, hl, hb⟩
  obtain rfl : rn = l.length := row_len hr
  have HR : Hid ((kRow kPosting).is true w1 T [.slice ra l.length rc] l) := hr
  have HB1 : Hid (Below w.heap.size w w1) := hb
  have HZ : Hid ((kRow kPosting).sz l ≤ 2 ^ 20) := by show l.length + sums kPosting.sz l ≤ _; rw [sz_posts]; omega
  have hps := pack_small hl
  have HUP : Hid ((fPackPostings l).2 = true → fUnpackPostings (fPackPostings l).1 = (l, true) ∧ 2 * l.length ≤ (fPackPostings l).1.size) := unpack_pack
  obtain ⟨y, hy⟩ : ∃ y, y = (fPackPostings l).1 := ⟨_, rfl⟩
  have HY : Hid (y = (fPackPostings l).1) := hy
  obtain ⟨ok, hok⟩ : ∃ y, y = (fPackPostings l).2 := ⟨_, rfl⟩
  have HOK : Hid (ok = (fPackPostings l).2) := hok
  rw [← hy] at hps HUP
  rw [← hok] at HUP
  clear hr hT hb hy hok
  go_wp2_with fail
  refine (implPackPostings_k l _ _ _ _ _ (Kd.read _ HR.out) HZ.out).mono ?_
  rintro e w2 ⟨rfl, _, hb⟩
  rw [← HY.out, ← HOK.out]
  have HB2 : Hid (Below w.heap.size w w2) := HB1.out.trans (hb.mono HB1.out.size)
  have HR2 : Hid ((kRow kPosting).is true w2 T [.slice ra l.length rc] l) := Kd.below HR.out hb
  clear hb HB1 HR
  go_wp2_with fail
  refine (specPackPostings_k l _ _ _ _ _ (Kd.read _ HR2.out) HZ.out).mono ?_
  rintro e w3 ⟨rfl, _, hb⟩
  rw [← HY.out, ← HOK.out]
  have HB3 : Hid (Below w.heap.size w w3) := HB2.out.trans (hb.mono HB2.out.size)
  have HR3 : Hid ((kRow kPosting).is true w3 T [.slice ra l.length rc] l) := Kd.below HR2.out hb
  clear hb HB2 HR2 HY HOK
  cases ok
  · go_wp2_with fail
    refine (drawUnpack_k w3 x1 a1 n1 c1 (Kd.below H1.out HB3.out) m1).mono ?_
    rintro e w5 ⟨s, rfl, hs, hb5⟩
    have HB5 : Hid (Below w.heap.size w w5) := HB3.out.trans (hb5.mono HB3.out.size)
    clear hb5 HB3
    go_wp2_with fail
    refine (implUnpackPostings_k s w5 (by omega)).mono ?_
    rintro e w6 ⟨ua, un, uc, U, rfl, hu, hU, _, hb6⟩
    have HUN : Hid (un = (fUnpackPostings s).1.length) := row_len hu
    have HU6 : Hid ((kRow kPosting).is true w6 U [.slice ua un uc] (fUnpackPostings s).1) := hu
    have HB6 : Hid (Below w.heap.size w w6) := HB5.out.trans (hb6.mono HB5.out.size)
    clear hb6 hu hU HB5
    go_wp2_with fail
    refine (specUnpackPostings_k s w6 (by omega)).mono ?_
    rintro e w7 ⟨va, vn, vc, V, rfl, hv, hV, _, hb7⟩
    have hvn := row_len hv
    obtain rfl : un = vn := by have := HUN.out; omega
    have HV7 : Hid ((kRow kPosting).is true w7 V [.slice va un vc] (fUnpackPostings s).1) := hv
    have HU7 : Hid ((kRow kPosting).is true w7 U [.slice ua un uc] (fUnpackPostings s).1) := Kd.below HU6.out hb7
    have HB7 : Hid (Below w.heap.size w w7) := HB6.out.trans (hb7.mono HB6.out.size)
    have HNO : Hid ((fUnpackPostings s).2 = false → un = 0) := fun h => by have := unpack_no h; rw [HUN.out, this]; rfl
    have HYES : Hid ((fUnpackPostings s).2 = true → fPackPostings (fUnpackPostings s).1 = (s, true) ∧ (fUnpackPostings s).1.length ≤ 200) := pack_unpack
    clear hb7 hv hV HU6 HB6 HUN hvn
    obtain ⟨L, hL⟩ : ∃ L, L = (fUnpackPostings s).1 := ⟨_, rfl⟩
    obtain ⟨o2, ho2⟩ : ∃ o2, o2 = (fUnpackPostings s).2 := ⟨_, rfl⟩
    rw [← hL] at HU7 HV7 HYES
    rw [← ho2] at HNO HYES ⊢
    clear hL ho2
    cases o2
    · obtain rfl : un = 0 := HNO.out rfl
      go_wp2_with fail
      refine (samePostings_k L ua va _ uc vc U V w7 (Kd.read _ HU7.out) (Kd.read _ HV7.out)).mono ?_
      rintro e w8 ⟨rfl, hb8⟩
      have HB8 : Hid (Below w.heap.size w w8) := HB7.out.trans (hb8.mono HB7.out.size)
      clear hb8
      go_wp2
      go_ret
      exact ⟨rfl, HB8.out⟩
    · obtain ⟨hp, hl2⟩ := HYES.out rfl
      have HP : Hid (fPackPostings L = (s, true)) := hp
      have HZ2 : Hid ((kRow kPosting).sz L ≤ 2 ^ 20) := by show L.length + sums kPosting.sz L ≤ _; rw [sz_posts]; omega
      clear hp
      go_wp2_with fail
      refine (samePostings_k L ua va _ uc vc U V w7 (Kd.read _ HU7.out) (Kd.read _ HV7.out)).mono ?_
      rintro e w8 ⟨rfl, hb8⟩
      have HB8 : Hid (Below w.heap.size w w8) := HB7.out.trans (hb8.mono HB7.out.size)
      have HU8 : Hid ((kRow kPosting).is true w8 U [.slice ua un uc] L) := Kd.below HU7.out hb8
      clear hb8 HU7 HV7 HB7
      go_wp2_with fail
      refine (implPackPostings_k L _ _ _ _ _ (Kd.read _ HU8.out) HZ2.out).mono ?_
      rintro e w9 ⟨rfl, _, hb9⟩
      rw [HP.out]
      have HB9 : Hid (Below w.heap.size w w9) := HB8.out.trans (hb9.mono HB8.out.size)
      clear hb9
      go_wp2
      go_ret
      exact ⟨rfl, HB9.out⟩
  · obtain ⟨hup, hsz⟩ := HUP.out rfl
    have HU : Hid (fUnpackPostings y = (l, true)) := hup
    have hlt : ¬ (y.size : Int) < 2 * (l.length : Int) := by omega
    clear hup HUP
    go_wp2_with fail
    refine (implUnpackPostings_k y w3 (by omega)).mono ?_
    rintro e w4 ⟨ta, tn, tc, T4, rfl, ht, hT4, _, hb4⟩
    rw [HU.out] at ht ⊢
    obtain rfl : tn = l.length := row_len ht
    have HT4 : Hid ((kRow kPosting).is true w4 T4 [.slice ta l.length tc] l) := ht
    have HR4 : Hid ((kRow kPosting).is true w4 T [.slice ra l.length rc] l) := Kd.below HR3.out hb4
    have HB4 : Hid (Below w.heap.size w w4) := HB3.out.trans (hb4.mono HB3.out.size)
    clear ht hT4 hb4 HB3 HR3
    go_wp2_with fail
    refine (samePostings_k l ta ra _ tc rc T4 T w4 (Kd.read _ HT4.out) (Kd.read _ HR4.out)).mono ?_
    rintro e wa ⟨rfl, hba⟩
    have HBa : Hid (Below w.heap.size w wa) := HB4.out.trans (hba.mono HB4.out.size)
    clear hba HB4
    go_wp2_with fail
    refine (drawUnpack_k wa x1 a1 n1 c1 (Kd.below H1.out HBa.out) m1).mono ?_
    rintro e w5 ⟨s, rfl, hs, hb5⟩
    have HB5 : Hid (Below w.heap.size w w5) := HBa.out.trans (hb5.mono HBa.out.size)
    clear hb5 HBa
    go_wp2_with fail
    refine (implUnpackPostings_k s w5 (by omega)).mono ?_
    rintro e w6 ⟨ua, un, uc, U, rfl, hu, hU, _, hb6⟩
    have HUN : Hid (un = (fUnpackPostings s).1.length) := row_len hu
    have HU6 : Hid ((kRow kPosting).is true w6 U [.slice ua un uc] (fUnpackPostings s).1) := hu
    have HB6 : Hid (Below w.heap.size w w6) := HB5.out.trans (hb6.mono HB5.out.size)
    clear hb6 hu hU HB5
    go_wp2_with fail
    refine (specUnpackPostings_k s w6 (by omega)).mono ?_
    rintro e w7 ⟨va, vn, vc, V, rfl, hv, hV, _, hb7⟩
    have hvn := row_len hv
    obtain rfl : un = vn := by have := HUN.out; omega
    have HV7 : Hid ((kRow kPosting).is true w7 V [.slice va un vc] (fUnpackPostings s).1) := hv
    have HU7 : Hid ((kRow kPosting).is true w7 U [.slice ua un uc] (fUnpackPostings s).1) := Kd.below HU6.out hb7
    have HB7 : Hid (Below w.heap.size w w7) := HB6.out.trans (hb7.mono HB6.out.size)
    have HNO : Hid ((fUnpackPostings s).2 = false → un = 0) := fun h => by have := unpack_no h; rw [HUN.out, this]; rfl
    have HYES : Hid ((fUnpackPostings s).2 = true → fPackPostings (fUnpackPostings s).1 = (s, true) ∧ (fUnpackPostings s).1.length ≤ 200) := pack_unpack
    clear hb7 hv hV HU6 HB6 HUN hvn
    obtain ⟨L, hL⟩ : ∃ L, L = (fUnpackPostings s).1 := ⟨_, rfl⟩
    obtain ⟨o2, ho2⟩ : ∃ o2, o2 = (fUnpackPostings s).2 := ⟨_, rfl⟩
    rw [← hL] at HU7 HV7 HYES
    rw [← ho2] at HNO HYES ⊢
    clear hL ho2
    cases o2
    · obtain rfl : un = 0 := HNO.out rfl
      go_wp2_with fail
      refine (samePostings_k L ua va _ uc vc U V w7 (Kd.read _ HU7.out) (Kd.read _ HV7.out)).mono ?_
      rintro e w8 ⟨rfl, hb8⟩
      have HB8 : Hid (Below w.heap.size w w8) := HB7.out.trans (hb8.mono HB7.out.size)
      clear hb8
      go_wp2
      go_ret
      exact ⟨rfl, HB8.out⟩
    · obtain ⟨hp, hl2⟩ := HYES.out rfl
      have HP : Hid (fPackPostings L = (s, true)) := hp
      have HZ2 : Hid ((kRow kPosting).sz L ≤ 2 ^ 20) := by show L.length + sums kPosting.sz L ≤ _; rw [sz_posts]; omega
      clear hp
      go_wp2_with fail
      refine (samePostings_k L ua va _ uc vc U V w7 (Kd.read _ HU7.out) (Kd.read _ HV7.out)).mono ?_
      rintro e w8 ⟨rfl, hb8⟩
      have HB8 : Hid (Below w.heap.size w w8) := HB7.out.trans (hb8.mono HB7.out.size)
      have HU8 : Hid ((kRow kPosting).is true w8 U [.slice ua un uc] L) := Kd.below HU7.out hb8
      clear hb8 HU7 HV7 HB7
      go_wp2_with fail
      refine (implPackPostings_k L _ _ _ _ _ (Kd.read _ HU8.out) HZ2.out).mono ?_
      rintro e w9 ⟨rfl, _, hb9⟩
      rw [HP.out]
      have HB9 : Hid (Below w.heap.size w w9) := HB8.out.trans (hb9.mono HB8.out.size)
      clear hb9
      go_wp2
      go_ret
      exact ⟨rfl, HB9.out⟩
end Go.Proofs.Ytcnlmpdpimhcbaa
