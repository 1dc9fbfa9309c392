/- Postings as bytes: the program's. No condition. -/
import Derived.Test.YtcnlmpdpimhcbaaSeS
import Derived.Test.YtcnlmpdpimhcbaaPoI
import Derived.Test.YtcnlmpdpimhcbaaAp2
namespace Go.Proofs.Ytcnlmpdpimhcbaa
open Go.RowKit
set_option linter.unusedVariables false

theorem cell_a1i (w : World) (v : Value) (T : TypeId) : (w.alloc (.cells #[v] T)).cell? ⟨w.heap.size, 0, none⟩ = some v := by simp [World.cell?_alloc_new]

set_option maxRecDepth 100000 in
set_option maxHeartbeats 1000000 in
theorem appendSevens_k (B : Nat) (v : Value) (l : List Int) (n : Int) (w : World) (h0 : 0 ≤ n) (h1 : n < 16384) (hl : l.length ≤ 2 ^ 20) (hB : B ≤ w.heap.size) (ho : OwnL (fun y => [.int .u8 y]) 5 1 w B v l) :
    Calls Try.prog 63 #[v, .int .i64 n] w fun e w' => ∃ v', e = .returned v' ∧ OwnL (fun y => [.int .u8 y]) 5 1 w' B v' (l ++ sev n) ∧ Below B w w' ∧ GrewO w w' v v' := by
  have HO0 : Hid (OwnL (fun y => [.int .u8 y]) 5 1 w B v l) := ho
  clear ho
  go_enter Try.func63, Try.ntmps63
  go_wp2_with fail
  go_loopw [0, 1] (fun ov iv wr => ∃ (m : Int) (acc : List Int), iv = .int .i64 m ∧ 0 ≤ m ∧ m < 16384 ∧ acc.length ≤ 2 ∧ Hid (acc ++ sev m = sev n) ∧ Hid (acc = [] ∨ m < 128) ∧ Hid (OwnL (fun y => [.int .u8 y]) 5 1 wr B ov (l ++ acc)) ∧ Hid (GrewO w wr v ov) ∧ Below B w wr) (fun _ iv _ => (intOf iv).toNat)
  case atStart => exact ⟨n, [], rfl, h0, h1, by decide, rfl, .inl rfl, by show OwnL _ _ _ _ _ _ _; rw [List.append_nil]; exact HO0.out, GrewO.refl _ _, Below.refl _ _⟩
  case round =>
    obtain ⟨m, acc, rfl, m0, m1, ha, HI, HJ, HO, HGR, hnx⟩ := hrel
    obtain ⟨oa, oc, hov, _⟩ := HO.out.form
    subst hov
    obtain ⟨q, hq⟩ : ∃ q, q = (l ++ acc).length := ⟨_, rfl⟩
    have HQ : Hid (q = l.length + acc.length) := by show _ = _; rw [hq, List.length_append]
    rw [← hq] at HO HGR ⊢
    clear hq
    have zw := hnx.size
    by_cases h2 : 128 ≤ m
    · have he : acc = [] := by rcases HJ.out with h | h; exact h; omega
      subst he
      have HI2 : Hid ([m % 128 + 128] ++ sev (m / 128) = sev n) := by
        have := HI.out
        rw [sev, if_pos h2] at this
        show _ = _
        rw [sev, if_neg (by omega)]
        exact this
      obtain ⟨r, hr⟩ : ∃ r, r = m % 128 := ⟨_, rfl⟩
      rw [← hr] at HI2
      have htm : m.tmod 128 = r := by rw [hr]; exact Int.tmod_eq_emod_of_nonneg m0
      have htd : m.tdiv 128 = m / 128 := Int.tdiv_eq_ediv_of_nonneg m0
      have r0 : 0 ≤ r := by omega
      have r1 : r < 128 := by omega
      clear hr HI HJ
      go_wp2_with (at_builtin; refine app_byte rfl _ _ rfl B _ (l ++ []) rfl (OwnL.below HO.out (below_a1' _ _)) _ (r + 128) rfl (cell_a1i _ _ _) (by have := HQ.out; rw [List.length_append]; simp at this ⊢; omega) (by simp; omega) ?_)
      intro v3 w3 ho3 hb3 hz3
      have HO3 : Hid (OwnL (fun y => [.int .u8 y]) 5 1 w3 B v3 (l ++ [r + 128])) := ho3
      have HB3 : Hid (Below B w w3) := (hnx.alloc (by omega) _).trans hb3
      have HGR3 : Hid (GrewO w w3 v v3) := (HGR.out.trans (GrewO.below _ (below_a1' _ _))).trans hz3.o
      clear ho3 hb3 hz3
      go_wp2
      go_roundw
      case rel => exact ⟨m / 128, [r + 128], by go_num, by omega, by omega, by simp, HI2, .inr (by omega), HO3, HGR3, HB3.out⟩
      case measure => simp [intOf]; omega
    · have HS : Hid (acc ++ [m] = sev n) := by
        have := HI.out
        rw [sev, if_neg h2] at this
        exact this
      clear HI HJ
      go_wp2_with (at_builtin; refine app_byte rfl _ _ rfl B _ (l ++ acc) rfl (OwnL.below HO.out (below_a1' _ _)) _ m rfl (cell_a1i _ _ _) (by rw [List.length_append]; omega) (by simp; omega) ?_)
      intro v3 w3 ho3 hb3 hz3
      have HO3 : Hid (OwnL (fun y => [.int .u8 y]) 5 1 w3 B v3 (l ++ sev n)) := by show OwnL _ _ _ _ _ _ _; rw [← HS.out]; exact ho3
      have HB3 : Hid (Below B w w3) := (hnx.alloc (by omega) _).trans hb3
      have HGR3 : Hid (GrewO w w3 v v3) := (HGR.out.trans (GrewO.below _ (below_a1' _ _))).trans hz3.o
      clear ho3 hb3 hz3
      go_wp2
      go_ret
      exact ⟨_, rfl, HO3.out, HB3.out, HGR3.out⟩
set_option maxRecDepth 100000 in
set_option maxHeartbeats 4000000 in
theorem implPackPostings_k (x0 : List DPosting) (a0 : Option Addr) (n0 c0 : Nat) (S0 : Nat → Prop) (w : World) (h0 : (kRow kPosting).is false w S0 [.slice a0 n0 c0] x0) (z0 : (kRow kPosting).sz x0 ≤ 2 ^ 20) :
    Calls Try.prog 15 #[.slice a0 n0 c0] w (RPackPostings x0 w) := by
  have hn := row_len h0
  have HN : Hid (n0 = x0.length) := hn
  have H : Hid ((kRow kPosting).is false w S0 [.slice a0 n0 c0] x0) := h0
  have hp := packN_len x0 (-1)
  have n20 : n0 ≤ 2 ^ 20 := by have : (kRow kPosting).sz x0 = x0.length + sums kPosting.sz x0 := rfl; omega
  have HP : Hid ((packN (-1) x0).length ≤ 4 * n0) := by rw [hn]; exact hp
  have HK : Hid _ := arePostings_k x0 a0 n0 c0 S0 10001 w h0
  obtain ⟨F, hF⟩ : ∃ F, F = fPackPostings x0 := ⟨_, rfl⟩
  have HF0 : Hid (F = fPackPostings x0) := hF
  unfold RPackPostings
  rw [← hF]
  clear hn hp h0 z0 hF
  have hno : ∀ W, Below w.heap.size w W → F = (⟨#[]⟩, false) → (Ending.returned (.tuple #[.string ⟨#[]⟩, .bool false]) = .returned (.tuple #[.string F.1, .bool F.2]) ∧ F.1.size ≤ 2 ^ 24 ∧ Below w.heap.size w W) := fun W hb e => by
    rw [e]
    exact ⟨rfl, by decide, hb⟩
  have HNO : Hid _ := hno
  clear hno
  by_cases h2 : (200 : Int) < (n0 : Int)
  · have HF : Hid (F = (⟨#[]⟩, false)) := by show _ = _; rw [HF0.out]; unfold fPackPostings; rw [if_neg (by rw [← HN.out]; omega)]
    go_enter Try.func15, Try.ntmps15
    go_wp2
    exact bodyPost_ret (v := .tuple #[.string ⟨#[]⟩, .bool false]) (by simp [results, Try.results15, go_sem]) rfl (HNO.out _ (Below.refl _ _) HF.out)
  go_enter Try.func15, Try.ntmps15
  go_wp2_with fail
  refine Calls.mono HK.out ?_
  rintro e w1 ⟨rfl, hb1⟩
  have HB1 : Hid (Below w.heap.size w w1) := hb1
  have zw1 := hb1.size
  clear hb1 HK
  cases ho : postOk 10001 (-1) x0 with
  | false =>
    have HF : Hid (F = (⟨#[]⟩, false)) := by show _ = _; rw [HF0.out]; unfold fPackPostings; rw [if_neg (by rw [ho]; simp)]
    clear ho
    go_wp2
    exact bodyPost_ret (v := .tuple #[.string ⟨#[]⟩, .bool false]) (by simp [results, Try.results15, go_sem]) rfl (HNO.out _ HB1.out HF.out)
  | true =>
    have HF : Hid (F = (strOfNums (packN (-1) x0), true)) := by show _ = _; rw [HF0.out]; unfold fPackPostings; rw [if_pos ⟨ho, by rw [← HN.out]; omega⟩]
    have HO : Hid (postOk 10001 (-1) x0 = true) := ho
    obtain ⟨G, hG⟩ : ∃ G, G = packN (-1) x0 := ⟨_, rfl⟩
    have HG : Hid (G = packN (-1) x0) := hG
    rw [← hG] at HF HP
    clear ho HNO HF0 hG
    go_wp2_with fail
    go_loopw [4, 5, 18] (fun ov lv iv wr => ∃ (k : Nat) (last : Int) (acc : List Int), k ≤ n0 ∧ lv = .int .i64 last ∧ iv = .int .i64 k ∧ -1 ≤ last ∧ last ≤ 10000 ∧ acc.length ≤ 4 * k ∧ Hid (OwnL (fun y => [.int .u8 y]) 5 1 wr w1.heap.size ov acc) ∧ Hid (acc ++ packN last (x0.drop k) = G) ∧ Hid (postOk 10001 last (x0.drop k) = true) ∧ Below w1.heap.size w1 wr) (fun _ _ iv _ => n0 - (intOf iv).toNat)
    case atStart => exact ⟨0, -1, [], Nat.zero_le _, rfl, rfl, by omega, by omega, by simp, OwnL.nil _ _ _ _ _, HG.out.symm, HO, Below.refl _ _⟩
    case round =>
      obtain ⟨k, last, acc, hk, rfl, rfl, l0, l1, ha, HA, HI, HJ, hnx⟩ := hrel
      have zw := hnx.size
      obtain ⟨oa, oc, hov, _⟩ := HA.out.form
      subst hov
      obtain ⟨q, hq⟩ : ∃ q, q = acc.length := ⟨_, rfl⟩
      have HQ : Hid (q = acc.length) := hq
      rw [← hq] at HA ⊢
      clear hq
      by_cases hlt : k < n0
      · obtain ⟨x, hx⟩ : ∃ x, x0[k]? = some x := ⟨_, List.getElem?_eq_getElem (by rw [← HN.out]; exact hlt)⟩
        obtain ⟨b, off, B, C, rfl, hb, _, hi, _, hc⟩ := row_at (Kd.below H.out (HB1.out.trans (hnx.mono zw1))) hx
        obtain ⟨t, m⟩ := x
        obtain ⟨rfl, g0, g1⟩ := kPosting_open hi
        have A0 : wr.cell? ⟨b, off + k * 2, none⟩ = some (.int .i64 t) := (hc 0 _ rfl).1
        have A1 : wr.cell? ⟨b, off + k * 2 + 1, none⟩ = some (.int .i64 m) := (hc 1 _ rfl).1
        have i0 : (0 : Int) ≤ (k : Int) := by omega
        have i1 : (k : Int) < (n0 : Int) := by omega
        have hdr : x0.drop k = (t, m) :: x0.drop (k + 1) := by
          rw [List.drop_eq_getElem_cons (by rw [← HN.out]; exact hlt)]
          congr 1
          exact (List.getElem?_eq_some_iff.1 hx).2
        have hj := HJ.out
        rw [hdr, postOk, Bool.and_eq_true, decide_eq_true_eq] at hj
        obtain ⟨⟨j1, j2, j3, j4⟩, j5⟩ := hj
        have HJ1 : Hid (postOk 10001 t (x0.drop (k + 1)) = true) := j5
        have HI1 : Hid (acc ++ (sev (t - last - 1) ++ sev m ++ packN t (x0.drop (k + 1))) = G) := by have := HI.out; rw [hdr, packN] at this; exact this
        have z1 := sev_len (t - last - 1)
        have z2 := sev_len m
        clear hc hi hx hdr HI HJ j5
        go_wp2_with fail
        refine (appendSevens_k w1.heap.size _ acc (t - last - 1) _ (by omega) (by omega) (by omega) (by simp; omega) (OwnL.below HA.out (below_a1' _ _))).mono ?_
        rintro e w2 ⟨v2, rfl, ho2, hb2, hg2⟩
        obtain ⟨oa2, oc2, hov2, _⟩ := ho2.form
        subst hov2
        have hne : (Value.slice oa q oc).ownBlock ≠ some wr.heap.size := HA.out.ne (.inr (Nat.le_refl _))
        have E0 : w2.cell? ⟨wr.heap.size, 0, none⟩ = some (.int .i64 t) := hg2.cell (by simp [go_sem]) hne
        have E1 : w2.cell? ⟨wr.heap.size, 1, none⟩ = some (.int .i64 m) := hg2.cell (by simp [go_sem]) hne
        have zw2 := hb2.size
        have zw2' : wr.heap.size < w2.heap.size := by have := hg2.kept.size; simp at this; omega
        have hne2 : (Value.slice oa2 (acc ++ sev (t - last - 1)).length oc2).ownBlock ≠ some wr.heap.size := fun e => by
          rcases hg2.moved with h | ⟨g, h, hz⟩
          · exact hne (h ▸ e)
          · rw [h] at e
            injection e with e
            simp at hz
            omega
        have HA2 : Hid (OwnL (fun y => [.int .u8 y]) 5 1 w2 w1.heap.size (.slice oa2 (acc ++ sev (t - last - 1)).length oc2) (acc ++ sev (t - last - 1))) := ho2
        have HB2 : Hid (Below w1.heap.size w1 w2) := (hnx.alloc (by omega) _).trans hb2
        have HNE2 : Hid ((Value.slice oa2 (acc ++ sev (t - last - 1)).length oc2).ownBlock ≠ some wr.heap.size) := hne2
        have hl2 : (acc ++ sev (t - last - 1)).length ≤ 4 * k + 2 := by rw [List.length_append]; omega
        obtain ⟨q2, hq2⟩ : ∃ q2, q2 = (acc ++ sev (t - last - 1)).length := ⟨_, rfl⟩
        rw [← hq2] at HA2 HNE2 hl2 ⊢
        have HQ2 : Hid (q2 = (acc ++ sev (t - last - 1)).length) := hq2
        clear hne hne2 ho2 hb2 hg2 A0 A1 hq2
        go_wp2_with fail
        refine (appendSevens_k w1.heap.size _ (acc ++ sev (t - last - 1)) m _ (by omega) (by omega) (by rw [← HQ2.out]; omega) (by omega) HA2.out).mono ?_
        rintro e w3 ⟨v3, rfl, ho3, hb3, hg3⟩
        have F0 : w3.cell? ⟨wr.heap.size, 0, none⟩ = some (.int .i64 t) := hg3.cell E0 HNE2.out
        have HA3 : Hid (OwnL (fun y => [.int .u8 y]) 5 1 w3 w1.heap.size v3 (acc ++ sev (t - last - 1) ++ sev m)) := ho3
        have HB3 : Hid (Below w1.heap.size w1 w3) := HB2.out.trans hb3
        clear ho3 hb3 hg3 E0 E1
        go_wp2
        go_roundw
        case rel => exact ⟨k + 1, t, acc ++ sev (t - last - 1) ++ sev m, by omega, rfl, by go_num, by omega, by omega, by rw [List.length_append, ← HQ2.out]; omega, HA3, by show _ = _; rw [← HI1.out]; simp, HJ1, HB3.out⟩
        case measure => simp [intOf]; omega
      · have HE : Hid (acc = G) := by
          have := HI.out
          rw [show k = x0.length by rw [← HN.out]; omega, List.drop_length, packN, List.append_nil] at this
          exact this
        have hcv := conv_own HA.out
        go_wp2
        refine bodyPost_ret (v := .tuple #[.string (strOfNums acc), .bool true]) (by simp [results, Try.results15, go_sem]) rfl ?_
        rw [HF.out, HE.out]
        exact ⟨rfl, by show (strOfNums G).size ≤ _; rw [strOf_size]; have := HP.out; omega, HB1.out.trans (hnx.mono zw1)⟩
end Go.Proofs.Ytcnlmpdpimhcbaa
