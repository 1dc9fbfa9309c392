/- Postings as bytes: the specification's. No condition. -/
import Derived.Test.YtcnlmpdpimhcbaaSeM
import Derived.Test.YtcnlmpdpimhcbaaPoS
namespace Go.Proofs.Ytcnlmpdpimhcbaa
open Go.RowKit
set_option linter.unusedVariables false

/-- The bytes of postings, last being the text ahead. -/
def packN : Int → List DPosting → List Int
  | _, [] => []
  | last, (t, m) :: r => sev (t - last - 1) ++ sev m ++ packN t r
theorem packN_len : ∀ (l : List DPosting) (last : Int), (packN last l).length ≤ 4 * l.length
  | [], _ => by simp [packN]
  | (t, m) :: r, last => by
    have h1 := packN_len r t
    have h2 := sev_len (t - last - 1)
    have h3 := sev_len m
    simp only [packN, List.length_append, List.length_cons]
    omega
/-- PackPostings. -/
def fPackPostings (l : List DPosting) : ByteArray × Bool := if postOk 10001 (-1) l = true ∧ l.length ≤ 200 then (strOfNums (packN (-1) l), true) else (⟨#[]⟩, false)
/-- What PackPostings answers. -/
def RPackPostings (x0 : List DPosting) (w : World) (e : Ending) (w' : World) : Prop := e = .returned (.tuple #[.string (fPackPostings x0).1, .bool (fPackPostings x0).2]) ∧ (fPackPostings x0).1.size ≤ 2 ^ 24 ∧ Below w.heap.size w w'

set_option maxRecDepth 100000 in
set_option maxHeartbeats 4000000 in
theorem l10Pack_k (l : List DPosting) (a : Option Addr) (n c : Nat) (S : Nat → Prop) (w : World) (h : (kRow kPosting).is false w S [.slice a n c] l) (hok : postOk 10001 (-1) l = true) (hl : l.length ≤ 201) :
    Calls Try.prog 65 #[.slice a n c] w fun e w' => e = .returned (.string (strOfNums (packN (-1) l))) ∧ Below w.heap.size w w' := by
  have hnl := row_len h
  have hmx : n ≤ 201 := by rw [hnl]; exact hl
  have HNL : Hid (n = l.length) := hnl
  have H : Hid ((kRow kPosting).is false w S [.slice a n c] l) := h
  obtain ⟨G, hG⟩ : ∃ G, G = packN (-1) l := ⟨_, rfl⟩
  have HG : Hid (G = packN (-1) l) := hG
  have HOK : Hid (postOk 10001 (-1) l = true) := hok
  have HPL : Hid (G.length ≤ 4 * n) := by show _ ≤ _; rw [hG, hnl]; exact packN_len l _
  rw [← hG]
  clear h hnl hG hok hl
  go_enter Try.func65, Try.ntmps65
  go_wp2_with fail
  go_loopw [3, 4, 9] (fun sv lv iv wr => ∃ (k : Nat) (last : Int) (acc : List Int), k ≤ n ∧ sv = .string (strOfNums acc) ∧ lv = .int .i64 last ∧ iv = .int .i64 k ∧ -1 ≤ last ∧ last ≤ 10000 ∧ acc.length ≤ 4 * k ∧ Hid (acc ++ packN last (l.drop k) = G) ∧ Hid (postOk 10001 last (l.drop k) = true) ∧ Below w.heap.size w wr) (fun _ _ iv _ => n - (intOf iv).toNat)
  case atStart => exact ⟨0, -1, [], Nat.zero_le _, rfl, rfl, rfl, by omega, by omega, by simp, HG.out.symm, HOK, Below.refl _ _⟩
  case round =>
    obtain ⟨k, last, acc, hk, rfl, rfl, rfl, l0, l1, ha, HI, HJ, hnx⟩ := hrel
    have zw := hnx.size
    by_cases hlt : k < n
    · obtain ⟨x, hx⟩ : ∃ x, l[k]? = some x := ⟨_, List.getElem?_eq_getElem (by rw [← HNL.out]; exact hlt)⟩
      obtain ⟨b, off, B, C, rfl, hb, _, hi, _, hc⟩ := row_at (Kd.below H.out hnx) hx
      obtain ⟨t, m⟩ := x
      obtain ⟨rfl, g0, g1⟩ := kPosting_open hi
      have A0 : wr.cell? ⟨b, off + k * 2, none⟩ = some (.int .i64 t) := (hc 0 _ rfl).1
      have A1 : wr.cell? ⟨b, off + k * 2 + 1, none⟩ = some (.int .i64 m) := (hc 1 _ rfl).1
      have i0 : (0 : Int) ≤ (k : Int) := by omega
      have i1 : (k : Int) < (n : Int) := by omega
      have hdr : l.drop k = (t, m) :: l.drop (k + 1) := by
        rw [List.drop_eq_getElem_cons (by rw [← HNL.out]; exact hlt)]
        congr 1
        exact (List.getElem?_eq_some_iff.1 hx).2
      have hj := HJ.out
      rw [hdr, postOk, Bool.and_eq_true, decide_eq_true_eq] at hj
      obtain ⟨⟨j1, j2, j3, j4⟩, j5⟩ := hj
      have HJ1 : Hid (postOk 10001 t (l.drop (k + 1)) = true) := j5
      have HI1 : Hid (acc ++ (sev (t - last - 1) ++ sev m ++ packN t (l.drop (k + 1))) = G) := by have := HI.out; rw [hdr, packN] at this; exact this
      clear hc hi hx hdr HI HJ j5
      obtain ⟨d, hd⟩ : ∃ d, d = t - last - 1 := ⟨_, rfl⟩
      have d0 : 0 ≤ d := by omega
      have d1 : d < 16384 := by omega
      have e1 : IntKind.wrap .i64 (t - last) = d + 1 := by rw [show t - last = d + 1 by omega]; simp [IntKind.wrap, IntKind.bits, IntKind.signed]; omega
      have e2 : IntKind.wrap .i64 (d + 1 - 1) = d := by rw [show d + 1 - 1 = d by omega]; simp [IntKind.wrap, IntKind.bits, IntKind.signed]; omega
      have e3 : IntKind.wrap .i64 d = d := by simp [IntKind.wrap, IntKind.bits, IntKind.signed]; omega
      rw [← hd] at HI1
      have HD : Hid (d = t - last - 1) := hd
      have z1 := sev_len d
      have z2 := sev_len m
      have hA1 := fun W => add_nums (sev d) (sev m) W (by omega) (by omega)
      have hA2 := fun W => add_nums acc (sev d ++ sev m) W (by omega) (by rw [List.length_append]; omega)
      have HM0 : Hid (0 ≤ m ∧ m < 16384) := ⟨by omega, by omega⟩
      obtain ⟨O, hO⟩ : ∃ O : Obj, O = .cells #[.int .i64 t, .int .i64 m] 84 := ⟨_, rfl⟩
      have hal : Below wr.heap.size wr (wr.alloc O) := (Below.refl _ _).alloc (Nat.le_refl _) _
      have E0 : (wr.alloc O).cell? ⟨wr.heap.size, 0, none⟩ = some (.int .i64 t) := by rw [hO]; simp [go_sem]
      have E1 : (wr.alloc O).cell? ⟨wr.heap.size, 1, none⟩ = some (.int .i64 m) := by rw [hO]; simp [go_sem]
      have HSK : Hid (∀ w', Below (wr.alloc O).heap.size (wr.alloc O) w' → w'.cell? ⟨wr.heap.size, 0, none⟩ = some (.int .i64 t) ∧ w'.cell? ⟨wr.heap.size, 1, none⟩ = some (.int .i64 m)) := fun w' h => ⟨cell_later h E0, cell_later h E1⟩
      have HWR : Hid (∀ w', Below (wr.alloc O).heap.size (wr.alloc O) w' → Below w.heap.size w w') := fun w' h => hnx.trans ((hal.mono zw).trans (h.mono (by simp; omega)))
      clear hd
      go_wp2_with fail
      rw [← hO]
      clear hO
      go_region_held3 (fun w' => w'.cell? ⟨wr.heap.size, 0, none⟩ = some (.int .i64 t) ∧ w'.cell? ⟨wr.heap.size, 1, none⟩ = some (.int .i64 m))
        (first | exact HSK.out _ (Below.refl _ _) | exact HSK.out _ (Below.refl _ _).drew | exact HSK.out _ hB1 | exact HSK.out _ hB1.drew | exact HSK.out _ hB2)
        (first | (go_at_call_of 114 (Value.int .i64 d); refine (l10Num_k d _ d0 d1).mono ?_; rintro e w1 ⟨rfl, hb1⟩; have hB1 : Below (wr.alloc O).heap.size (wr.alloc O) w1 := (Below.refl _ _).drew.trans hb1) | (go_at_call_of 114 (Value.int .i64 m); refine (l10Num_k m _ HM0.out.1 HM0.out.2).mono ?_; rintro e w2 ⟨rfl, hb2⟩; have hB2 : Below (wr.alloc O).heap.size (wr.alloc O) w2 := hB1.trans (hb2.mono hB1.size)))
      go_wp2
      go_roundw
      case rel => exact ⟨k + 1, t, acc ++ (sev d ++ sev m), by omega, rfl, rfl, by go_num, by omega, by omega, by simp only [List.length_append]; omega, by show _ = _; rw [← HI1.out]; simp, HJ1, HWR.out _ hB2⟩
      case measure => simp [intOf]; omega
    · have HF : Hid (acc = G) := by
        have := HI.out
        rw [show k = l.length by rw [← HNL.out]; omega, List.drop_length, packN, List.append_nil] at this
        exact this
      go_wp2
      go_ret
      exact ⟨by rw [HF.out]; rfl, hnx⟩
set_option maxRecDepth 100000 in
set_option maxHeartbeats 2000000 in
theorem specPackPostings_k (x0 : List DPosting) (a0 : Option Addr) (n0 c0 : Nat) (S0 : Nat → Prop) (w : World) (h0 : (kRow kPosting).is false w S0 [.slice a0 n0 c0] x0) (z0 : (kRow kPosting).sz x0 ≤ 2 ^ 20) :
    Calls Try.prog 16 #[.slice a0 n0 c0] w (RPackPostings x0 w) := by
  have hn := row_len h0
  have HN : Hid (n0 = x0.length) := hn
  have H : Hid ((kRow kPosting).is false w S0 [.slice a0 n0 c0] x0) := h0
  have hp := packN_len x0 (-1)
  have n20 : n0 ≤ 2 ^ 20 := by have : (kRow kPosting).sz x0 = x0.length + sums kPosting.sz x0 := rfl; omega
  have HP : Hid ((packN (-1) x0).length ≤ 4 * n0) := by rw [hn]; exact hp
  have hk := l10List_k x0 a0 n0 c0 S0 10001 10000 w h0 (by rfl)
  rw [show (10000 : Int) = 10001 - 1 by rfl, postSp_ok] at hk
  have HK : Hid _ := hk
  obtain ⟨F, hF⟩ : ∃ F, F = fPackPostings x0 := ⟨_, rfl⟩
  have HF0 : Hid (F = fPackPostings x0) := hF
  unfold RPackPostings
  rw [← hF]
  clear hk hn hp h0 z0 hF
  have hno : ∀ W, Below w.heap.size w W → F = (⟨#[]⟩, false) → (Ending.returned (.tuple #[.string ⟨#[]⟩, .bool false]) = .returned (.tuple #[.string F.1, .bool F.2]) ∧ F.1.size ≤ 2 ^ 24 ∧ Below w.heap.size w W) := fun W hb e => by
    rw [e]
    exact ⟨rfl, by decide, hb⟩
  have HNO : Hid _ := hno
  clear hno
  go_enter Try.func16, Try.ntmps16
  go_wp2_with fail
  refine Calls.mono HK.out ?_
  rintro e w1 ⟨rfl, hb1⟩
  have HB1 : Hid (Below w.heap.size w w1) := hb1
  clear hb1 HK
  cases ho : postOk 10001 (-1) x0 with
  | false =>
    have HF : Hid (F = (⟨#[]⟩, false)) := by show _ = _; rw [HF0.out]; unfold fPackPostings; rw [if_neg (by rw [ho]; simp)]
    clear ho
    go_wp2
    exact bodyPost_ret (v := .tuple #[.string ⟨#[]⟩, .bool false]) (by simp [results, Try.results16, go_sem]) rfl (HNO.out _ HB1.out HF.out)
  | true =>
    by_cases h2 : (200 : Int) < (n0 : Int)
    · have HF : Hid (F = (⟨#[]⟩, false)) := by show _ = _; rw [HF0.out]; unfold fPackPostings; rw [if_neg (by rw [← HN.out]; omega)]
      clear ho
      go_wp2
      exact bodyPost_ret (v := .tuple #[.string ⟨#[]⟩, .bool false]) (by simp [results, Try.results16, go_sem]) rfl (HNO.out _ HB1.out HF.out)
    · have HF : Hid (F = (strOfNums (packN (-1) x0), true)) := by show _ = _; rw [HF0.out]; unfold fPackPostings; rw [if_pos ⟨ho, by rw [← HN.out]; omega⟩]
      have HO : Hid (postOk 10001 (-1) x0 = true) := ho
      have hl : x0.length ≤ 201 := by rw [← HN.out]; omega
      clear ho
      go_wp2_with fail
      refine (l10Pack_k x0 a0 n0 c0 S0 _ (Kd.below H.out HB1.out) HO.out hl).mono ?_
      rintro e w2 ⟨rfl, hb2⟩
      have HB2 : Hid (Below w.heap.size w w2) := HB1.out.trans (hb2.mono HB1.out.size)
      clear hb2
      go_wp2
      refine bodyPost_ret (v := .tuple #[.string (strOfNums (packN (-1) x0)), .bool true]) (by simp [results, Try.results16, go_sem]) rfl ?_
      rw [HF.out]
      exact ⟨rfl, by show (strOfNums (packN (-1) x0)).size ≤ _; rw [strOf_size]; have := HP.out; omega, HB2.out⟩
end Go.Proofs.Ytcnlmpdpimhcbaa
