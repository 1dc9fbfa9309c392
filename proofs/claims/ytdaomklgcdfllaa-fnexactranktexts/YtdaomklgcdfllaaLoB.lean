/- An entry looked for by halving: slices.BinarySearchFunc. No condition but that the words rise. -/
import Derived.Test.YtdaomklgcdfllaaLoI
namespace Go.Proofs.Ytdaomklgcdfllaa
open Go.RowKit
set_option linter.unusedVariables false

set_option maxRecDepth 100000 in
set_option maxHeartbeats 4000000 in
theorem search_k (es : List DEntry) (s : ByteArray) (a : Option Addr) (n c : Nat) (S : Nat → Prop) (w : World) (h : (kRow kEntry).is false w S [.slice a n c] es) (hr : Rises es) (hn30 : n ≤ 2 ^ 30) :
    Calls Try.prog 108 #[.slice a n c, .string s, .func (.func 109) #[] #[]] w fun e w' => ∃ (k : Nat) (b : Bool), e = .returned (.tuple #[.int .i64 k, .bool b]) ∧ ((b = true ∧ ∃ l, es[k]? = some (s, l)) ∨ (b = false ∧ findL s es = [])) ∧ Below w.heap.size w w' := by
  have HN : Hid (n = es.length) := row_len h
  have HR : Hid (Rises es) := hr
  have HRW : Hid ((kRow kEntry).is false w S [.slice a n c] es) := h
  clear h hr
  go_enter Try.func108, Try.ntmps108
  go_wp2_with fail
  go_loopw [9, 10] (fun lv hv wr => ∃ lo hi : Nat, lv = .int .i64 lo ∧ hv = .int .i64 hi ∧ lo ≤ hi ∧ hi ≤ n ∧ Hid (Nar s es lo hi) ∧ Below w.heap.size w wr) (fun lv hv _ => (intOf hv).toNat - (intOf lv).toNat)
  case atStart => exact ⟨0, n, rfl, rfl, Nat.zero_le _, Nat.le_refl _, ⟨fun i x l hi => by omega, fun i x l hi hx => by have := (List.getElem?_eq_some_iff.1 hx).1; rw [← HN.out] at this; omega⟩, Below.refl _ _⟩
  case round =>
    obtain ⟨lo, hi, rfl, rfl, hlh, hin, HI, hnx⟩ := hrel
    have zw := hnx.size
    by_cases hlt : lo < hi
    · obtain ⟨m, hm⟩ : ∃ m, m = (lo + hi) / 2 := ⟨_, rfl⟩
      have em : ((lo : Int) + (hi : Int)) / 2 = (m : Int) := by omega
      have hmn : m < n := by omega
      have hm1 : lo ≤ m := by omega
      have hm2 : m < hi := by omega
      obtain ⟨⟨x, l⟩, hx⟩ : ∃ x, es[m]? = some x := ⟨_, List.getElem?_eq_getElem (by rw [← HN.out]; exact hmn)⟩
      obtain ⟨b, off, B, C, rfl, hb, _, hi', _, hc⟩ := row_at (Kd.below HRW.out hnx) hx
      obtain ⟨la, lc, TL, rfl, gx, gl, hl, _⟩ := kEntry_open hi'
      have A0 : wr.cell? ⟨b, off + m * 2, none⟩ = some (.string x) := (hc 0 _ rfl).1
      have A1 : wr.cell? ⟨b, off + m * 2 + 1, none⟩ = some (.slice la l.length lc) := (hc 1 _ rfl).1
      have i0 : (0 : Int) ≤ (m : Int) := by omega
      have i1 : (m : Int) < (n : Int) := by omega
      have HX : Hid (es[m]? = some (x, l)) := hx
      have hcl := listOf1_k x s la l.length lc wr
      have hcz := cmpB_less x s
      clear hi' hl hc hx hm
      cases hw : lessB x s with
      | true =>
        have c1 : cmpB x s < 0 := hcz.2 hw
        have HI2 : Hid (Nar s es (m + 1) hi) := HI.out.up HR.out HX.out hw
        clear hw hcz HI
        generalize cmpB x s = z at *
        go_wp2_with fail
        refine hcl.mono ?_
        rintro e w1 ⟨rfl, hb1⟩
        go_wp2
        go_roundw
        case rel => exact ⟨m + 1, hi, by rfl, rfl, by omega, hin, HI2, hnx.trans (hb1.mono zw)⟩
        case measure => simp only [intOf]; omega
      | false =>
        have c1 : ¬ cmpB x s < 0 := fun h => by rw [hcz.1 h] at hw; cases hw
        have HI2 : Hid (Nar s es lo m) := HI.out.down HR.out HX.out hw
        clear hw hcz HI
        generalize cmpB x s = z at *
        go_wp2_with fail
        refine hcl.mono ?_
        rintro e w1 ⟨rfl, hb1⟩
        go_wp2
        go_roundw
        case rel => exact ⟨lo, m, rfl, rfl, by omega, by omega, HI2, hnx.trans (hb1.mono zw)⟩
        case measure => simp only [intOf]; omega
    · obtain rfl : hi = lo := by omega
      by_cases hl' : hi < n
      · obtain ⟨⟨x, l⟩, hx⟩ : ∃ x, es[hi]? = some x := ⟨_, List.getElem?_eq_getElem (by rw [← HN.out]; exact hl')⟩
        obtain ⟨b, off, B, C, rfl, hb, _, hi', _, hc⟩ := row_at (Kd.below HRW.out hnx) hx
        obtain ⟨la, lc, TL, rfl, gx, gl, hl, _⟩ := kEntry_open hi'
        have A0 : wr.cell? ⟨b, off + hi * 2, none⟩ = some (.string x) := (hc 0 _ rfl).1
        have A1 : wr.cell? ⟨b, off + hi * 2 + 1, none⟩ = some (.slice la l.length lc) := (hc 1 _ rfl).1
        have i0 : (0 : Int) ≤ (hi : Int) := by omega
        have i1 : (hi : Int) < (n : Int) := by omega
        have HX : Hid (es[hi]? = some (x, l)) := hx
        have HF : Hid (findL s es = if x = s then l else []) := HI.out.found HR.out hx
        have hcl := listOf1_k x s la l.length lc wr
        have hcz := cmpB_zero x s
        clear hi' hl hc hx
        by_cases hw : x = s
        · have c1 : (cmpB x s == 0) = true := by rw [beq_iff_eq]; exact hcz.2 hw
          have HX2 : Hid (es[hi]? = some (s, l)) := by have := HX.out; rw [hw] at this; exact this
          clear hw hcz HI HF
          generalize cmpB x s = z at *
          go_wp2_with fail
          refine hcl.mono ?_
          rintro e w1 ⟨rfl, hb1⟩
          go_wp2
          refine bodyPost_ret (v := .tuple #[.int .i64 (hi : Int), .bool true]) (by simp [results, Try.results108, go_sem]) rfl ?_
          exact ⟨hi, true, rfl, .inl ⟨rfl, l, HX2.out⟩, hnx.trans (hb1.mono zw)⟩
        · have c1 : (cmpB x s == 0) = false := by rw [beq_eq_false_iff_ne]; exact fun h => hw (hcz.1 h)
          have HF2 : Hid (findL s es = []) := by have := HF.out; rw [if_neg hw] at this; exact this
          clear hw hcz HI HF
          generalize cmpB x s = z at *
          go_wp2_with fail
          refine hcl.mono ?_
          rintro e w1 ⟨rfl, hb1⟩
          go_wp2
          refine bodyPost_ret (v := .tuple #[.int .i64 (hi : Int), .bool false]) (by simp [results, Try.results108, go_sem]) rfl ?_
          exact ⟨hi, false, rfl, .inr ⟨rfl, HF2.out⟩, hnx.trans (hb1.mono zw)⟩
      · have HF2 : Hid (findL s es = []) := HI.out.none (by rw [← HN.out]; omega)
        have i1 : ¬ (hi : Int) < (n : Int) := by omega
        go_wp2
        refine bodyPost_ret (v := .tuple #[.int .i64 (hi : Int), .bool false]) (by simp [results, Try.results108, go_sem]) rfl ?_
        exact ⟨hi, .inl ⟨rfl, HF2.out, hnx⟩⟩
end Go.Proofs.Ytdaomklgcdfllaa
