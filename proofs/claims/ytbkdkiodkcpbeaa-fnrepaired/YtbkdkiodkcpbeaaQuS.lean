/- What copies weigh that a function tells: the program's. No condition but that rows fit in memory. -/
import Derived.Test.YtbkdkiodkcpbeaaQuR
namespace Go.Proofs.Ytbkdkiodkcpbeaa
open Go.RowKit
set_option linter.unusedVariables false

def wts (l : List DCopy) (k : Nat) : List Int := (l.take k).map (·.1)
theorem wts_next {l : List DCopy} {k : Nat} (h : k < l.length) : wts l (k + 1) = wts l k ++ [(cp l k).1] := by
  unfold wts
  rw [List.take_add_one, cp_at h, List.map_append]
  rfl
theorem wts_len {l : List DCopy} {k : Nat} (h : k ≤ l.length) : (wts l k).length = k := by unfold wts; rw [List.length_map, List.length_take]; omega
set_option maxRecDepth 100000 in
set_option maxHeartbeats 2000000 in
theorem weightsText_k (l : List DCopy) (a : Option Addr) (n c : Nat) (S : Nat → Prop) (w : World) (h : (kRow kCopy).is false w S [.slice a n c] l) (hok : okTil l n = true) (h7 : n ≤ 7) :
    Calls Try.prog 84 #[.slice a n c] w fun e w' => e = .returned (.string (wtT l)) ∧ Below w.heap.size w w' := by
  have HNL : Hid (n = l.length) := row_len h
  have H : Hid ((kRow kCopy).is false w S [.slice a n c] l) := h
  have HK : Hid (okTil l n = true) := hok
  clear h hok
  go_enter Try.func84, Try.ntmps84
  go_wp2_with fail
  go_loopw [3, 8] (fun v iv wr => ∃ k : Nat, k ≤ n ∧ iv = .int .i64 k ∧ Hid (OwnL ruC 21 1 wr w.heap.size v (wts l k)) ∧ Below w.heap.size w wr) (fun _ iv _ => n - (intOf iv).toNat)
  case atStart => exact ⟨0, Nat.zero_le _, rfl, OwnL.nil _ _ _ _ _, Below.refl _ _⟩
  case round =>
    obtain ⟨k, hk, rfl, HO, hB⟩ := hrel
    have zw := hB.size
    by_cases hlt : k < n
    · obtain ⟨b, o, rfl, hb, j1, j2, j3, A0, A1, A2⟩ := rowC_at (Kd.below H.out hB) hlt
      have HW := wts_next (l := l) (k := k) (by rw [← HNL.out]; exact hlt)
      have HL : Hid ((wts l k).length = k) := wts_len (by rw [← HNL.out]; exact hk)
      obtain ⟨q1, q2, _⟩ := cpAt_ok (okTil_at HK.out hlt)
      have HWH : Hid (wts l (k + 1) = wts l k ++ [(cp l k).1]) := HW
      clear HW
      obtain ⟨d, hd⟩ : ∃ d, d = cp l k := ⟨_, rfl⟩
      rw [← hd] at A0 A1 A2 j1 j2 j3 HWH q1 q2
      clear hd
      obtain ⟨d1, d2, d3⟩ := d
      simp only at A0 A1 A2 q1 q2
      have i0 : (k : Int) < (n : Int) := by omega
      have i1 : (0 : Int) ≤ (k : Int) := by omega
      go_wp2_with (at_builtin; go_loud (refine app_rune rfl _ _ rfl w.heap.size _ (wts l k) rfl (OwnL.below HO.out (below_a2q _ _ _)) _ d1 rfl (by simp [go_sem]) (by rw [HL.out]; omega) (by simp; omega) ?_))
      intro v' w4 hO4 hb4 hG
      have HO4 : Hid (OwnL ruC 21 1 w4 w.heap.size v' (wts l (k + 1))) := by show OwnL _ _ _ _ _ _ _; rw [HWH.out]; exact hO4
      have HB4 : Hid (Below w.heap.size w w4) := (hB.trans ((below_a2q _ _ _).mono zw)).trans hb4
      clear hO4 hb4 hG
      go_wp2
      go_roundw
      case rel => exact ⟨k + 1, by omega, by go_num, HO4, HB4.out⟩
      case measure => simp [intOf]; omega
    · obtain rfl : k = n := by omega
      have i0 : ¬ (k : Int) < (k : Int) := by omega
      have HL : Hid ((wts l k).length = k) := wts_len (by rw [← HNL.out]; exact hk)
      have HE : Hid (runesBytes (wts l k) = wtT l) := by
        show _ = _
        unfold wtT
        rw [runes_plain, show wts l k = l.map (·.1) by unfold wts; rw [HNL.out, List.take_length]]
        intro x hx
        obtain ⟨i, hi⟩ := List.mem_iff_getElem?.1 hx
        unfold wts at hi
        rw [List.getElem?_map, List.getElem?_take] at hi
        split at hi
        · next e =>
          rw [cp_at (show i < l.length by rw [← HNL.out]; exact e)] at hi
          obtain ⟨q1, q2, _⟩ := cpAt_ok (okTil_at HK.out e)
          simp at hi
          omega
        · cases hi
      obtain ⟨av, cv, hv, hcv⟩ := HO.out.form
      subst hv
      have hcon := conv_runes HO.out
      rw [HE.out] at hcon
      go_wp2
      go_ret
      exact ⟨rfl, hB⟩
set_option maxRecDepth 100000 in
set_option maxHeartbeats 2000000 in
theorem weigh_k (l : List DCopy) (a : Option Addr) (n c : Nat) (S : Nat → Prop) (F : FuncId) (cs : Array Value) (p : Nat → Bool) (w : World) (eg : ∀ args W, (callFunc F args).run Try.prog W = .ok (.enter F args) W) (h : (kRow kCopy).is false w S [.slice a n c] l) (hok : okTil l n = true) (h7 : n ≤ 7)
    (hF : Hid (∀ W (k : Nat), Below w.heap.size w W → k < n → Calls Try.prog F (#[.int .i64 k] ++ cs) W fun e w' => e = .returned (.bool (p k)) ∧ Below W.heap.size W w')) :
    Calls Try.prog 61 #[.slice a n c, .func (.func F) #[] cs] w fun e w' => e = .returned (.int .i64 (ws p l n)) ∧ Below w.heap.size w w' := by
  have HNL : Hid (n = l.length) := row_len h
  have hcl := weightsText_k l a n c S w h hok h7
  have HK : Hid (okTil l n = true) := hok
  have HAT : Hid (∀ k (hk : k < (wtT l).size), (((wtT l)[k]'hk).toNat : Int) = (cp l k).1 ∧ ((wtT l)[k]'hk).toNat < 128) := fun k hk => wtT_at (by rw [← HNL.out]; exact hok) hk
  have HSZ : Hid ((wtT l).size = n) := by show _ = _; rw [wtT_size, HNL.out]
  generalize wtT l = s at *
  clear h hok
  go_enter Try.func61, Try.ntmps61
  go_wp2_with fail
  refine hcl.mono ?_
  rintro e w3 ⟨rfl, hb3⟩
  have HB3 : Hid (Below w.heap.size w w3) := hb3
  clear hcl hb3
  obtain ⟨g, hg⟩ : ∃ g, g = w3.heap.size := ⟨_, rfl⟩
  have HG : Hid (g = w3.heap.size) := hg
  have HI0 : Hid ((w3.iter s 0).heap[g]? = some (.stringIter s 0)) := by show _ = _; rw [hg]; exact World.iter_heap _ _ _
  have HZ0 : Hid ((w3.iter s 0).heap.size = g + 1) := by show _ = _; rw [hg]; simp [World.iter]
  have HX0 : Hid (Below w.heap.size w (w3.iter s 0)) := HB3.out.alloc (HB3.out.size) _
  have hgw : w.heap.size ≤ g := by have := HB3.out.size; omega
  go_wp2_with fail
  rw [← hg]
  obtain ⟨W4, hW4⟩ : ∃ W4, W4 = w3.iter s 0 := ⟨_, rfl⟩
  rw [← hW4] at HI0 HZ0 HX0 ⊢
  clear hg hW4 HG HB3
  go_loopw [5] (fun v wr => ∃ k : Nat, k ≤ n ∧ g < wr.heap.size ∧ v = .int .i64 (ws p l k) ∧ Hid (wr.heap[g]? = some (.stringIter s k)) ∧ Hid (Below w.heap.size w wr)) (fun _ wr => n - wr.iterPos g)
  case atStart => exact ⟨0, Nat.zero_le _, by have := HZ0.out; omega, rfl, HI0, HX0⟩
  case round =>
    obtain ⟨k, hk, hgr, rfl, HI, HX⟩ := hrel
    have hps : wr.iterPos g = k := iterPos_of HI.out
    have HPS : Hid (wr.iterPos g = k) := hps
    clear hps
    obtain ⟨z, hz⟩ : ∃ z, z = ws p l k := ⟨_, rfl⟩
    have HZ : Hid (z = ws p l k) := hz
    have hbd := ws_bd (p := p) (okTil_le HK.out hk)
    rw [← hz] at hbd ⊢
    obtain ⟨z0, z1⟩ := hbd
    have z2 : z ≤ 70 := by omega
    clear hz z1
    by_cases hlt : k < s.size
    · have hkn : k < n := by rw [← HSZ.out]; exact hlt
      obtain ⟨y1, y2⟩ := HAT.out k hlt
      have hN := fun ty => nextA_at (P := Try.prog) ty HI.out hlt y2
      obtain ⟨q1, q2, _⟩ := cpAt_ok (okTil_at HK.out hkn)
      obtain ⟨y, hy⟩ : ∃ y, y = (s[k]'hlt).toNat := ⟨_, rfl⟩
      rw [← hy] at hN y1 y2
      have HWS : Hid (ws p l (k + 1) = if p k = true then z + (y : Int) else z) := by show (if _ then _ else _) = _; rw [y1, HZ.out]
      clear hy
      rw [← y1] at q1 q2
      clear y1
      obtain ⟨W5, hW5⟩ : ∃ W5, W5 = turnA wr g s (k + 1) := ⟨_, rfl⟩
      have HI5 : Hid (W5.heap[g]? = some (.stringIter s (k + 1))) := by show _ = _; rw [hW5]; exact turnA_at s (k + 1) hgr
      have hz5 : W5.heap.size = wr.heap.size := by rw [hW5]; exact turnA_size _ _ _ _
      have hg5 : g < W5.heap.size := by omega
      have hk5 : KeptO (fun k => k = g) wr W5 := by rw [hW5]; exact turnA_kept _ _ _ _
      have HX5 : Hid (Below w.heap.size w W5) := HX.out.trans (hk5.below HX.out.size (fun q hq e => by omega))
      rw [← hW5] at hN
      clear hW5 hz5 hk5 HX HI
      have hcf := hF.out W5 k HX5.out hkn
      go_wp2_with fail
      refine hcf.mono ?_
      rintro e w6 ⟨rfl, hb6⟩
      have HI6 : Hid (w6.heap[g]? = some (.stringIter s (k + 1))) := (hb6.block g hg5).trans HI5.out
      have HX6 : Hid (Below w.heap.size w w6) := HX5.out.trans (hb6.mono HX5.out.size)
      have hg6 : g < w6.heap.size := by have := hb6.size; omega
      have hms : n - w6.iterPos g < n - wr.iterPos g := by rw [iterPos_of HI6.out, HPS.out]; omega
      have HMS : Hid (n - w6.iterPos g < n - wr.iterPos g) := hms
      clear hcf hb6 hN HI5 HX5 hms
      cases hp : p k with
      | true =>
        have HW : Hid (ws p l (k + 1) = z + (y : Int)) := by have := HWS.out; rw [hp, if_pos rfl] at this; exact this
        go_wp2
        go_roundw
        case rel => exact ⟨k + 1, by omega, hg6, by rw [HW.out], HI6, HX6⟩
        case measure => exact HMS.out
      | false =>
        have HW : Hid (ws p l (k + 1) = z) := by have := HWS.out; rw [hp, if_neg (by simp)] at this; exact this
        go_wp2
        go_roundw
        case rel => exact ⟨k + 1, by omega, hg6, by rw [HW.out], HI6, HX6⟩
        case measure => exact HMS.out
    · have hN := fun ty => nextA_end (P := Try.prog) ty HI.out hlt
      obtain rfl : k = n := by have := HSZ.out; omega
      go_wp2
      go_ret
      exact ⟨by rw [HZ.out]; rfl, HX.out⟩
end Go.Proofs.Ytbkdkiodkcpbeaa
