/- Words that are good: the specification's. No condition but that they fit in memory. -/
import Derived.Test.YtikgcgfigcolmaaWgM
import Derived.Test.YtikgcgfigcolmaaWdS
import Derived.Test.YtikgcgfigcolmaaPoS
namespace Go.Proofs.Ytikgcgfigcolmaa
open Go.RowKit
set_option linter.unusedVariables false

/-- What GoodWords answers. -/
def RGoodWords (x0 : DWords) (w : World) (e : Ending) (w' : World) : Prop := e = .returned (.bool (fGoodWords x0)) ∧ Below w.heap.size w w'

theorem szEnt {es : List DEntry} {i : Nat} {x : ByteArray} {l : List DPosting} (h : es[i]? = some (x, l)) : x.size ≤ (kRow kEntry).sz es := by
  have h1 := sums_ge kEntry.sz es i (x, l) h
  have h2 : kEntry.sz (x, l) = x.size + (l.length + sums kPosting.sz l) := rfl
  have h3 : (kRow kEntry).sz es = es.length + sums kEntry.sz es := rfl
  omega

set_option maxRecDepth 100000 in
set_option maxHeartbeats 8000000 in
theorem specGoodWords_k (x0 : DWords) (C0 : List Value) (S0 : Nat → Prop) (w : World) (h0 : kWords.is false w S0 C0 x0) (z0 : kWords.sz x0 ≤ 2 ^ 20) :
    Calls Try.prog 22 #[.agg C0.toArray] w (RGoodWords x0 w) := by
  obtain ⟨tx, es⟩ := x0
  obtain ⟨a, c, T, rfl, g0, hmx, hr, _⟩ := kWords_open h0
  have hz : (kRow kEntry).sz es ≤ 2 ^ 20 := by have : kWords.sz (tx, es) = 0 + (kRow kEntry).sz es := rfl; omega
  obtain ⟨tv, htv⟩ : ∃ tv, tv = IntKind.wrap .i64 (tx - 1) := ⟨_, rfl⟩
  obtain ⟨tl, htl⟩ : ∃ tl, tl = (decide (0 ≤ tx ∧ tx ≤ 40) && decide (es.length ≤ 200)) := ⟨_, rfl⟩
  obtain ⟨q, hq⟩ : ∃ q, q = fGoodWords (tx, es) := ⟨_, rfl⟩
  have HQ : Hid ((entSp tv true ⟨#[]⟩ es && tl) = q) := by
    show _ = _
    rw [hq, fGoodWords, htl]
    by_cases c1 : 0 ≤ tx ∧ tx ≤ 40
    · have e1 : tv = tx - 1 := by rw [htv]; simp [IntKind.wrap, IntKind.bits, IntKind.signed]; omega
      rw [e1, entSp_ok]
      cases entOk tx ⟨#[]⟩ es <;> cases decide (0 ≤ tx ∧ tx ≤ 40) <;> cases decide (es.length ≤ 200) <;> rfl
    · rw [decide_eq_false c1]
      cases entSp tv true ⟨#[]⟩ es <;> rfl
  have HTL : Hid (tl = (decide (0 ≤ tx ∧ tx ≤ 40) && decide (es.length ≤ 200))) := htl
  have HTV : Hid (IntKind.wrap .i64 (tx - 1) = tv) := htv.symm
  have HRW : Hid ((kRow kEntry).is false w T [.slice a es.length c] es) := hr
  have HZ : Hid ((kRow kEntry).sz es ≤ 2 ^ 20) := hz
  unfold RGoodWords
  rw [← hq]
  obtain ⟨n, hn⟩ : ∃ n, n = es.length := ⟨_, rfl⟩
  have HN : Hid (n = es.length) := hn
  rw [← hn] at HRW ⊢
  have hmx' : n ≤ 9223372036854775807 := by rw [hn]; exact hmx
  clear h0 z0 hz htv htl hq hr hmx hn
  show Calls Try.prog 22 #[.agg #[.int .i64 tx, .slice a n c]] w _
  go_enter Try.func22, Try.ntmps22
  go_wp2_with fail
  obtain ⟨W0, hW0⟩ : ∃ W0, W0 = w.alloc (.cells #[.int .i64 tx, .slice a n c] 27) := ⟨_, rfl⟩
  rw [← hW0]
  have b0 : Below w.heap.size w W0 := by rw [hW0]; exact below_a1 _ _
  have X0 : W0.cell? ⟨w.heap.size, 0, none⟩ = some (.int .i64 tx) := by rw [hW0]; simp [go_sem]
  have X1 : W0.cell? ⟨w.heap.size, 1, none⟩ = some (.slice a n c) := by rw [hW0]; simp [go_sem]
  have zW0 : w.heap.size < W0.heap.size := by rw [hW0]; simp
  clear hW0
  go_loopw [8] (fun iv wr => ∃ (k : Nat) (last : ByteArray), k ≤ n ∧ iv = .int .i64 k ∧ Hid ((entSp tv (decide (k = 0)) last (es.drop k) && tl) = q) ∧ Hid (∀ x l, 0 < k → es[k - 1]? = some (x, l) → x = last) ∧ Below W0.heap.size W0 wr) (fun iv _ => n - (intOf iv).toNat)
  case atStart => exact ⟨0, ⟨#[]⟩, Nat.zero_le _, rfl, HQ, fun x l h => by omega, Below.refl _ _⟩
  case round =>
    obtain ⟨k, last, hk, rfl, HI, HP, hnx⟩ := hrel
    have zw := hnx.size
    have Y0 := cell_later hnx X0
    have Y1 := cell_later hnx X1
    by_cases hlt : k < n
    · obtain ⟨⟨x, l⟩, hx⟩ : ∃ x, es[k]? = some x := ⟨_, List.getElem?_eq_getElem (by rw [← HN.out]; exact hlt)⟩
      have hrow := Kd.below HRW.out (b0.trans (hnx.mono (by omega)))
      obtain ⟨b, off, B, C, rfl, hb, _, hi, _, hc⟩ := row_at hrow hx
      obtain ⟨la, lc, TL, rfl, gx, gl, hl, _⟩ := kEntry_open hi
      obtain ⟨ln, hln⟩ : ∃ ln, ln = l.length := ⟨_, rfl⟩
      have HLN : Hid (ln = l.length) := hln
      rw [← hln] at hl hc
      clear hln
      have A0 : wr.cell? ⟨b, off + k * 2, none⟩ = some (.string x) := (hc 0 _ rfl).1
      have A1 : wr.cell? ⟨b, off + k * 2 + 1, none⟩ = some (.slice la ln lc) := (hc 1 _ rfl).1
      have i0 : (0 : Int) ≤ (k : Int) := by omega
      have i1 : (k : Int) < (n : Int) := by omega
      have hdr : es.drop k = (x, l) :: es.drop (k + 1) := by
        rw [List.drop_eq_getElem_cons (by rw [← HN.out]; exact hlt)]
        congr 1
        exact (List.getElem?_eq_some_iff.1 hx).2
      have HI1 : Hid ((isWordB x && !l.isEmpty && postSp tv true 0 l && (decide (k = 0) || lessB last x) && entSp tv false x (es.drop (k + 1)) && tl) = q) := by have := HI.out; rw [hdr, entSp] at this; exact this
      have HX : Hid (es[k]? = some (x, l)) := hx
      have HXS : Hid (x.size ≤ 2 ^ 20) := Nat.le_trans (szEnt hx) HZ.out
      obtain ⟨O, hO⟩ : ∃ O : Obj, O = .cells #[.string x, .slice la ln lc] 85 := ⟨_, rfl⟩
      have hal : Below wr.heap.size wr (wr.alloc O) := below_a1 _ _
      have E0 : (wr.alloc O).cell? ⟨wr.heap.size, 0, none⟩ = some (.string x) := by rw [hO]; simp [go_sem]
      have E1 : (wr.alloc O).cell? ⟨wr.heap.size, 1, none⟩ = some (.slice la ln lc) := by rw [hO]; simp [go_sem]
      have HL : Hid ((kRow kPosting).is false (wr.alloc O) TL [.slice la ln lc] l) := Kd.below hl hal
      have HWR : Hid (∀ w', Below (wr.alloc O).heap.size (wr.alloc O) w' → Below W0.heap.size W0 w') := fun w' h => hnx.trans ((hal.mono zw).trans (h.mono (by simp; omega)))
      clear hdr HI hi hl
      by_cases c3 : k = 0
      · have HK : Hid (decide (k = 0) = true) := decide_eq_true c3
        have e3 : decide ((0 : Int) < (k : Int)) = false := by simp; omega
        have e3' : decide (0 < k) = false := by simp; omega
        have HSK : Hid (∀ w', Below (wr.alloc O).heap.size (wr.alloc O) w' → w'.cell? ⟨w.heap.size, 0, none⟩ = some (.int .i64 tx) ∧ w'.cell? ⟨w.heap.size, 1, none⟩ = some (.slice (some ⟨b, off, none⟩) n c) ∧ w'.cell? ⟨wr.heap.size, 0, none⟩ = some (.string x) ∧ w'.cell? ⟨wr.heap.size, 1, none⟩ = some (.slice la ln lc)) := fun w' h =>
          ⟨cell_later h (cell_later hal Y0), cell_later h (cell_later hal Y1), cell_later h E0, cell_later h E1⟩
        clear c3 hc hrow hx
        cases w1 : isWordB x with
        | true =>
          have HW1 : Hid (∀ W, Calls Try.prog 57 #[.string x] W fun e w' => e = .returned (.bool true) ∧ Below W.heap.size W w') := fun W => by have := l10Word_k x W HXS.out; rw [w1] at this; exact this
          by_cases w2 : ln = 0
          · have w2e : l.length = 0 := by rw [← HLN.out]; exact w2
            have HF : Hid (q = false) := by have := HI1.out; rw [w1, isEmpty_len, decide_eq_true w2e] at this; exact this.symm
            clear HI1
            clear w2e
            subst w2
            go_wp2_with fail
            rw [← hO]
            clear hO
            obtain ⟨y0, y1, y2, y3⟩ := HSK.out _ (Below.refl _ _)
            refine wp_region_any (by kernel_rfl) ?_
            change wpAny _ _ _ _ _ _ _ (World.drew _)
            refine wpAny_take (i := 0) (v := ?v1) rfl (by kernel_rfl) (by kernel_rfl) (by kernel_rfl) (fun _ _ _ h => h) (Or.inl ⟨by kernel_rfl, ?h1⟩) ?r1
            case h1 => intro w; go_simp; try (with_reducible rfl)
            refine wpAny_ready (rs := [1]) (by kernel_rfl) (by simp) ?_
            refine AllReady.cons rfl (fun K hK => ?_) ?_
            · go_simp
              refine hK _ _ ?_
              clear hK K
              refine wpAny_ready (rs := [2]) (by kernel_rfl) (by simp) ?_
              refine AllReady.cons rfl (fun K hK => ?_) ?_
              · go_simp
                go_wp2_with ((go_at_call 57; refine (HW1.out _).mono ?_; rintro e w1 ⟨rfl, hb1⟩; have hB1 : Below (wr.alloc O).heap.size (wr.alloc O) w1 := (Below.refl _ _).drew.trans hb1; obtain ⟨p0, p1, p2, p3⟩ := HSK.out _ hB1))
                refine wpAny_take (i := 3) (v := ?v2) rfl (by kernel_rfl) (by kernel_rfl) (by kernel_rfl) (fun _ _ _ h => h) (Or.inl ⟨by kernel_rfl, ?h2⟩) ?r2
                case h2 => intro w; go_simp; try (with_reducible rfl)
                refine wpAny_take (i := 4) (v := ?v3) rfl (by kernel_rfl) (by kernel_rfl) (by kernel_rfl) (fun _ _ _ h => h) (Or.inl ⟨by kernel_rfl, ?h3⟩) ?r3
                case h3 => intro w; go_simp; try (with_reducible rfl)
                refine wpAny_take (i := 5) (v := ?v4) rfl (by kernel_rfl) (by kernel_rfl) (by kernel_rfl) (fun _ _ _ h => h) (Or.inl ⟨by kernel_rfl, ?h4⟩) ?r4
                case h4 => intro w; go_simp; try (with_reducible rfl)
                refine wpAny_ready (rs := [6]) (by kernel_rfl) (by simp) ?_
                refine AllReady.cons rfl (fun K hK => ?_) ?_
                · go_simp
                  refine hK _ _ ?_
                  clear hK K
                  refine wpAny_take (i := 7) (v := ?v5) rfl (by kernel_rfl) (by kernel_rfl) (by kernel_rfl) (fun _ _ _ h => h) (Or.inl ⟨by kernel_rfl, ?h5⟩) ?r5
                  case h5 => intro w; go_simp; try (with_reducible rfl)
                  refine wpAny_take (i := 8) (v := ?v6) rfl (by kernel_rfl) (by kernel_rfl) (by kernel_rfl) (fun _ _ _ h => h) (Or.inl ⟨by kernel_rfl, ?h6⟩) ?r6
                  case h6 => intro w; go_simp; try (with_reducible rfl)
                  refine wpAny_take (i := 9) (v := ?v7) rfl (by kernel_rfl) (by kernel_rfl) (by kernel_rfl) (fun _ _ _ h => h) (Or.inl ⟨by kernel_rfl, ?h7⟩) ?r7
                  case h7 => intro w; go_simp; try (with_reducible rfl)
                  refine wpAny_take (i := 10) (v := ?v8) rfl (by kernel_rfl) (by kernel_rfl) (by kernel_rfl) (fun _ _ _ h => h) (Or.inl ⟨by kernel_rfl, ?h8⟩) ?r8
                  case h8 => intro w; go_simp; try (with_reducible rfl)
                  refine wpAny_take (i := 11) (v := undef) rfl (by kernel_rfl) (by kernel_rfl) (by kernel_rfl) (fun _ _ _ h => h) (Or.inr ⟨by kernel_rfl, rfl⟩) ?_
                  go_simp
                  refine wpAny_take (i := 12) (v := undef) rfl (by kernel_rfl) (by kernel_rfl) (by kernel_rfl) (fun _ _ _ h => h) (Or.inr ⟨by kernel_rfl, rfl⟩) ?_
                  go_simp
                  refine wpAny_take (i := 13) (v := undef) rfl (by kernel_rfl) (by kernel_rfl) (by kernel_rfl) (fun _ _ _ h => h) (Or.inr ⟨by kernel_rfl, rfl⟩) ?_
                  go_simp
                  refine wpAny_take (i := 14) (v := undef) rfl (by kernel_rfl) (by kernel_rfl) (by kernel_rfl) (fun _ _ _ h => h) (Or.inr ⟨by kernel_rfl, rfl⟩) ?_
                  go_simp
                  refine wpAny_take (i := 15) (v := undef) rfl (by kernel_rfl) (by kernel_rfl) (by kernel_rfl) (fun _ _ _ h => h) (Or.inr ⟨by kernel_rfl, rfl⟩) ?_
                  go_simp
                  refine wpAny_take (i := 16) (v := undef) rfl (by kernel_rfl) (by kernel_rfl) (by kernel_rfl) (fun _ _ _ h => h) (Or.inr ⟨by kernel_rfl, rfl⟩) ?_
                  go_simp
                  refine wpAny_take (i := 17) (v := ?v9) rfl (by kernel_rfl) (by kernel_rfl) (by kernel_rfl) (fun _ _ _ h => h) (Or.inl ⟨by kernel_rfl, ?h9⟩) ?r9
                  case h9 => intro w; go_simp; try (with_reducible rfl)
                  refine wpAny_take (i := 18) (v := ?v10) rfl (by kernel_rfl) (by kernel_rfl) (by kernel_rfl) (fun _ _ _ h => h) (Or.inl ⟨by kernel_rfl, ?h10⟩) ?r10
                  case h10 => intro w; go_simp; try (with_reducible rfl)
                  refine wpAny_take (i := 19) (v := undef) rfl (by kernel_rfl) (by kernel_rfl) (by kernel_rfl) (fun _ _ _ h => h) (Or.inr ⟨by kernel_rfl, rfl⟩) ?_
                  go_simp
                  refine wpAny_take (i := 20) (v := undef) rfl (by kernel_rfl) (by kernel_rfl) (by kernel_rfl) (fun _ _ _ h => h) (Or.inr ⟨by kernel_rfl, rfl⟩) ?_
                  go_simp
                  refine wpAny_take (i := 21) (v := undef) rfl (by kernel_rfl) (by kernel_rfl) (by kernel_rfl) (fun _ _ _ h => h) (Or.inr ⟨by kernel_rfl, rfl⟩) ?_
                  go_simp
                  refine wpAny_take (i := 22) (v := undef) rfl (by kernel_rfl) (by kernel_rfl) (by kernel_rfl) (fun _ _ _ h => h) (Or.inr ⟨by kernel_rfl, rfl⟩) ?_
                  go_simp
                  refine wpAny_take (i := 23) (v := undef) rfl (by kernel_rfl) (by kernel_rfl) (by kernel_rfl) (fun _ _ _ h => h) (Or.inr ⟨by kernel_rfl, rfl⟩) ?_
                  go_simp
                  refine wpAny_take (i := 24) (v := undef) rfl (by kernel_rfl) (by kernel_rfl) (by kernel_rfl) (fun _ _ _ h => h) (Or.inr ⟨by kernel_rfl, rfl⟩) ?_
                  go_simp
                  refine wpAny_take (i := 25) (v := undef) rfl (by kernel_rfl) (by kernel_rfl) (by kernel_rfl) (fun _ _ _ h => h) (Or.inr ⟨by kernel_rfl, rfl⟩) ?_
                  go_simp
                  refine wpAny_take (i := 26) (v := undef) rfl (by kernel_rfl) (by kernel_rfl) (by kernel_rfl) (fun _ _ _ h => h) (Or.inr ⟨by kernel_rfl, rfl⟩) ?_
                  go_simp
                  refine wpAny_take (i := 27) (v := undef) rfl (by kernel_rfl) (by kernel_rfl) (by kernel_rfl) (fun _ _ _ h => h) (Or.inr ⟨by kernel_rfl, rfl⟩) ?_
                  go_simp
                  refine wpAny_take (i := 28) (v := undef) rfl (by kernel_rfl) (by kernel_rfl) (by kernel_rfl) (fun _ _ _ h => h) (Or.inr ⟨by kernel_rfl, rfl⟩) ?_
                  go_simp
                  refine wpAny_take (i := 29) (v := undef) rfl (by kernel_rfl) (by kernel_rfl) (by kernel_rfl) (fun _ _ _ h => h) (Or.inr ⟨by kernel_rfl, rfl⟩) ?_
                  go_simp
                  refine wpAny_take (i := 30) (v := undef) rfl (by kernel_rfl) (by kernel_rfl) (by kernel_rfl) (fun _ _ _ h => h) (Or.inr ⟨by kernel_rfl, rfl⟩) ?_
                  go_simp
                  refine wpAny_take (i := 31) (v := undef) rfl (by kernel_rfl) (by kernel_rfl) (by kernel_rfl) (fun _ _ _ h => h) (Or.inr ⟨by kernel_rfl, rfl⟩) ?_
                  go_simp
                  refine wpAny_take (i := 32) (v := undef) rfl (by kernel_rfl) (by kernel_rfl) (by kernel_rfl) (fun _ _ _ h => h) (Or.inr ⟨by kernel_rfl, rfl⟩) ?_
                  go_simp
                  refine wpAny_take (i := 33) (v := ?v11) rfl (by kernel_rfl) (by kernel_rfl) (by kernel_rfl) (fun _ _ _ h => h) (Or.inl ⟨by kernel_rfl, ?h11⟩) ?r11
                  case h11 => intro w; go_simp; try (with_reducible rfl)
                  refine wpAny_done (by kernel_rfl) ?_ _
                  go_wp2
                  go_ret
                  exact ⟨by rw [HF.out]; rfl, b0.trans ((HWR.out _ hB1).mono (by omega))⟩
                exact AllReady.nil
              exact AllReady.nil
            exact AllReady.nil
          · have w2' : ((ln : Int) == 0) = false := by rw [beq_eq_false_iff_ne]; omega
            cases w3 : postSp tv true 0 l with
            | true =>
              have HW3 : Hid (∀ W, (kRow kPosting).is false W TL [.slice la ln lc] l → Calls Try.prog 58 #[.slice la ln lc, .int .i64 tx] W fun e w' => e = .returned (.bool true) ∧ Below W.heap.size W w') := fun W h => by have := l10List_k l la _ lc TL tx tv W h HTV.out; rw [w3] at this; exact this
              have HI2 : Hid ((entSp tv false x (es.drop (k + 1)) && tl) = q) := by have := HI1.out; rw [w1, w3, isEmpty_len, decide_eq_false (by rw [← HLN.out]; exact w2), HK.out] at this; exact this
              clear HI1 w1 w2 w3
              go_wp2_with fail
              rw [← hO]
              clear hO
              obtain ⟨y0, y1, y2, y3⟩ := HSK.out _ (Below.refl _ _)
              refine wp_region_any (by kernel_rfl) ?_
              change wpAny _ _ _ _ _ _ _ (World.drew _)
              refine wpAny_take (i := 0) (v := ?v12) rfl (by kernel_rfl) (by kernel_rfl) (by kernel_rfl) (fun _ _ _ h => h) (Or.inl ⟨by kernel_rfl, ?h12⟩) ?r12
              case h12 => intro w; go_simp; try (with_reducible rfl)
              refine wpAny_ready (rs := [1]) (by kernel_rfl) (by simp) ?_
              refine AllReady.cons rfl (fun K hK => ?_) ?_
              · go_simp
                refine hK _ _ ?_
                clear hK K
                refine wpAny_ready (rs := [2]) (by kernel_rfl) (by simp) ?_
                refine AllReady.cons rfl (fun K hK => ?_) ?_
                · go_simp
                  go_wp2_with ((go_at_call 57; refine (HW1.out _).mono ?_; rintro e w1 ⟨rfl, hb1⟩; have hB1 : Below (wr.alloc O).heap.size (wr.alloc O) w1 := (Below.refl _ _).drew.trans hb1; obtain ⟨p0, p1, p2, p3⟩ := HSK.out _ hB1))
                  refine wpAny_take (i := 3) (v := ?v13) rfl (by kernel_rfl) (by kernel_rfl) (by kernel_rfl) (fun _ _ _ h => h) (Or.inl ⟨by kernel_rfl, ?h13⟩) ?r13
                  case h13 => intro w; go_simp; try (with_reducible rfl)
                  refine wpAny_take (i := 4) (v := ?v14) rfl (by kernel_rfl) (by kernel_rfl) (by kernel_rfl) (fun _ _ _ h => h) (Or.inl ⟨by kernel_rfl, ?h14⟩) ?r14
                  case h14 => intro w; go_simp; try (with_reducible rfl)
                  refine wpAny_take (i := 5) (v := ?v15) rfl (by kernel_rfl) (by kernel_rfl) (by kernel_rfl) (fun _ _ _ h => h) (Or.inl ⟨by kernel_rfl, ?h15⟩) ?r15
                  case h15 => intro w; go_simp; try (with_reducible rfl)
                  refine wpAny_ready (rs := [6]) (by kernel_rfl) (by simp) ?_
                  refine AllReady.cons rfl (fun K hK => ?_) ?_
                  · go_simp
                    refine hK _ _ ?_
                    clear hK K
                    refine wpAny_take (i := 7) (v := ?v16) rfl (by kernel_rfl) (by kernel_rfl) (by kernel_rfl) (fun _ _ _ h => h) (Or.inl ⟨by kernel_rfl, ?h16⟩) ?r16
                    case h16 => intro w; go_simp; try (with_reducible rfl)
                    refine wpAny_take (i := 8) (v := ?v17) rfl (by kernel_rfl) (by kernel_rfl) (by kernel_rfl) (fun _ _ _ h => h) (Or.inl ⟨by kernel_rfl, ?h17⟩) ?r17
                    case h17 => intro w; go_simp; try (with_reducible rfl)
                    refine wpAny_take (i := 9) (v := ?v18) rfl (by kernel_rfl) (by kernel_rfl) (by kernel_rfl) (fun _ _ _ h => h) (Or.inl ⟨by kernel_rfl, ?h18⟩) ?r18
                    case h18 => intro w; go_simp; try (with_reducible rfl)
                    refine wpAny_take (i := 10) (v := ?v19) rfl (by kernel_rfl) (by kernel_rfl) (by kernel_rfl) (fun _ _ _ h => h) (Or.inl ⟨by kernel_rfl, ?h19⟩) ?r19
                    case h19 => intro w; go_simp; try (with_reducible rfl)
                    refine wpAny_take (i := 11) (v := ?v20) rfl (by kernel_rfl) (by kernel_rfl) (by kernel_rfl) (fun _ _ _ h => h) (Or.inl ⟨by kernel_rfl, ?h20⟩) ?r20
                    case h20 => intro w; go_simp; try (with_reducible rfl)
                    refine wpAny_take (i := 13) (v := ?v21) rfl (by kernel_rfl) (by kernel_rfl) (by kernel_rfl) (fun _ _ _ h => h) (Or.inl ⟨by kernel_rfl, ?h21⟩) ?r21
                    case h21 => intro w; go_simp; try (with_reducible rfl)
                    refine wpAny_ready (rs := [12, 14]) (by kernel_rfl) (by simp) ?_
                    refine AllReady.cons rfl (fun K hK => ?_) ?_
                    · go_simp
                      refine hK _ _ ?_
                      clear hK K
                      refine wpAny_ready (rs := [14]) (by kernel_rfl) (by simp) ?_
                      refine AllReady.cons rfl (fun K hK => ?_) ?_
                      · go_simp
                        refine hK _ _ ?_
                        clear hK K
                        refine wpAny_ready (rs := [15]) (by kernel_rfl) (by simp) ?_
                        refine AllReady.cons rfl (fun K hK => ?_) ?_
                        · go_simp
                          go_wp2_with ((go_at_call 58; refine (HW3.out _ (Kd.below HL.out hB1)).mono ?_; rintro e w2 ⟨rfl, hb2⟩; have hB2 : Below (wr.alloc O).heap.size (wr.alloc O) w2 := hB1.trans (hb2.mono hB1.size); obtain ⟨r0, r1, r2, r3⟩ := HSK.out _ hB2))
                          refine wpAny_take (i := 16) (v := ?v22) rfl (by kernel_rfl) (by kernel_rfl) (by kernel_rfl) (fun _ _ _ h => h) (Or.inl ⟨by kernel_rfl, ?h22⟩) ?r22
                          case h22 => intro w; go_simp; try (with_reducible rfl)
                          refine wpAny_take (i := 17) (v := ?v23) rfl (by kernel_rfl) (by kernel_rfl) (by kernel_rfl) (fun _ _ _ h => h) (Or.inl ⟨by kernel_rfl, ?h23⟩) ?r23
                          case h23 => intro w; go_simp; try (with_reducible rfl)
                          refine wpAny_take (i := 18) (v := ?v24) rfl (by kernel_rfl) (by kernel_rfl) (by kernel_rfl) (fun _ _ _ h => h) (Or.inl ⟨by kernel_rfl, ?h24⟩) ?r24
                          case h24 => intro w; go_simp; try (with_reducible rfl)
                          refine wpAny_take (i := 19) (v := ?v25) rfl (by kernel_rfl) (by kernel_rfl) (by kernel_rfl) (fun _ _ _ h => h) (Or.inl ⟨by kernel_rfl, ?h25⟩) ?r25
                          case h25 => intro w; go_simp; try (with_reducible rfl)
                          refine wpAny_take (i := 20) (v := ?v26) rfl (by kernel_rfl) (by kernel_rfl) (by kernel_rfl) (fun _ _ _ h => h) (Or.inl ⟨by kernel_rfl, ?h26⟩) ?r26
                          case h26 => intro w; go_simp; try (with_reducible rfl)
                          refine wpAny_take (i := 21) (v := ?v27) rfl (by kernel_rfl) (by kernel_rfl) (by kernel_rfl) (fun _ _ _ h => h) (Or.inl ⟨by kernel_rfl, ?h27⟩) ?r27
                          case h27 => intro w; go_simp; try (with_reducible rfl)
                          refine wpAny_take (i := 22) (v := undef) rfl (by kernel_rfl) (by kernel_rfl) (by kernel_rfl) (fun _ _ _ h => h) (Or.inr ⟨by kernel_rfl, rfl⟩) ?_
                          go_simp
                          refine wpAny_take (i := 23) (v := undef) rfl (by kernel_rfl) (by kernel_rfl) (by kernel_rfl) (fun _ _ _ h => h) (Or.inr ⟨by kernel_rfl, rfl⟩) ?_
                          go_simp
                          refine wpAny_take (i := 24) (v := undef) rfl (by kernel_rfl) (by kernel_rfl) (by kernel_rfl) (fun _ _ _ h => h) (Or.inr ⟨by kernel_rfl, rfl⟩) ?_
                          go_simp
                          refine wpAny_take (i := 25) (v := undef) rfl (by kernel_rfl) (by kernel_rfl) (by kernel_rfl) (fun _ _ _ h => h) (Or.inr ⟨by kernel_rfl, rfl⟩) ?_
                          go_simp
                          refine wpAny_take (i := 26) (v := undef) rfl (by kernel_rfl) (by kernel_rfl) (by kernel_rfl) (fun _ _ _ h => h) (Or.inr ⟨by kernel_rfl, rfl⟩) ?_
                          go_simp
                          refine wpAny_take (i := 27) (v := undef) rfl (by kernel_rfl) (by kernel_rfl) (by kernel_rfl) (fun _ _ _ h => h) (Or.inr ⟨by kernel_rfl, rfl⟩) ?_
                          go_simp
                          refine wpAny_take (i := 28) (v := undef) rfl (by kernel_rfl) (by kernel_rfl) (by kernel_rfl) (fun _ _ _ h => h) (Or.inr ⟨by kernel_rfl, rfl⟩) ?_
                          go_simp
                          refine wpAny_take (i := 29) (v := undef) rfl (by kernel_rfl) (by kernel_rfl) (by kernel_rfl) (fun _ _ _ h => h) (Or.inr ⟨by kernel_rfl, rfl⟩) ?_
                          go_simp
                          refine wpAny_take (i := 30) (v := undef) rfl (by kernel_rfl) (by kernel_rfl) (by kernel_rfl) (fun _ _ _ h => h) (Or.inr ⟨by kernel_rfl, rfl⟩) ?_
                          go_simp
                          refine wpAny_take (i := 31) (v := undef) rfl (by kernel_rfl) (by kernel_rfl) (by kernel_rfl) (fun _ _ _ h => h) (Or.inr ⟨by kernel_rfl, rfl⟩) ?_
                          go_simp
                          refine wpAny_take (i := 32) (v := ?v28) rfl (by kernel_rfl) (by kernel_rfl) (by kernel_rfl) (fun _ _ _ h => h) (Or.inl ⟨by kernel_rfl, ?h28⟩) ?r28
                          case h28 => intro w; go_simp; try (with_reducible rfl)
                          refine wpAny_take (i := 33) (v := ?v29) rfl (by kernel_rfl) (by kernel_rfl) (by kernel_rfl) (fun _ _ _ h => h) (Or.inl ⟨by kernel_rfl, ?h29⟩) ?r29
                          case h29 => intro w; go_simp; try (with_reducible rfl)
                          refine wpAny_done (by kernel_rfl) ?_ _
                          go_wp2
                          go_roundw
                          case rel => exact ⟨k + 1, x, by omega, by go_num, by rw [decide_eq_false (by omega)]; exact HI2, fun x' l' _ h => by have h1 := HX.out; rw [show k + 1 - 1 = k by omega, h1] at h; cases h; rfl, HWR.out _ hB2⟩
                          case measure => simp [intOf]; omega
                        exact AllReady.nil
                      exact AllReady.nil
                    refine AllReady.cons rfl (fun K hK => ?_) ?_
                    · go_simp
                      refine hK _ _ ?_
                      clear hK K
                      refine wpAny_ready (rs := [12]) (by kernel_rfl) (by simp) ?_
                      refine AllReady.cons rfl (fun K hK => ?_) ?_
                      · go_simp
                        refine hK _ _ ?_
                        clear hK K
                        refine wpAny_ready (rs := [15]) (by kernel_rfl) (by simp) ?_
                        refine AllReady.cons rfl (fun K hK => ?_) ?_
                        · go_simp
                          go_wp2_with ((go_at_call 58; refine (HW3.out _ (Kd.below HL.out hB1)).mono ?_; rintro e w2 ⟨rfl, hb2⟩; have hB2 : Below (wr.alloc O).heap.size (wr.alloc O) w2 := hB1.trans (hb2.mono hB1.size); obtain ⟨r0, r1, r2, r3⟩ := HSK.out _ hB2))
                          refine wpAny_take (i := 16) (v := ?v30) rfl (by kernel_rfl) (by kernel_rfl) (by kernel_rfl) (fun _ _ _ h => h) (Or.inl ⟨by kernel_rfl, ?h30⟩) ?r30
                          case h30 => intro w; go_simp; try (with_reducible rfl)
                          refine wpAny_take (i := 17) (v := ?v31) rfl (by kernel_rfl) (by kernel_rfl) (by kernel_rfl) (fun _ _ _ h => h) (Or.inl ⟨by kernel_rfl, ?h31⟩) ?r31
                          case h31 => intro w; go_simp; try (with_reducible rfl)
                          refine wpAny_take (i := 18) (v := ?v32) rfl (by kernel_rfl) (by kernel_rfl) (by kernel_rfl) (fun _ _ _ h => h) (Or.inl ⟨by kernel_rfl, ?h32⟩) ?r32
                          case h32 => intro w; go_simp; try (with_reducible rfl)
                          refine wpAny_take (i := 19) (v := ?v33) rfl (by kernel_rfl) (by kernel_rfl) (by kernel_rfl) (fun _ _ _ h => h) (Or.inl ⟨by kernel_rfl, ?h33⟩) ?r33
                          case h33 => intro w; go_simp; try (with_reducible rfl)
                          refine wpAny_take (i := 20) (v := ?v34) rfl (by kernel_rfl) (by kernel_rfl) (by kernel_rfl) (fun _ _ _ h => h) (Or.inl ⟨by kernel_rfl, ?h34⟩) ?r34
                          case h34 => intro w; go_simp; try (with_reducible rfl)
                          refine wpAny_take (i := 21) (v := ?v35) rfl (by kernel_rfl) (by kernel_rfl) (by kernel_rfl) (fun _ _ _ h => h) (Or.inl ⟨by kernel_rfl, ?h35⟩) ?r35
                          case h35 => intro w; go_simp; try (with_reducible rfl)
                          refine wpAny_take (i := 22) (v := undef) rfl (by kernel_rfl) (by kernel_rfl) (by kernel_rfl) (fun _ _ _ h => h) (Or.inr ⟨by kernel_rfl, rfl⟩) ?_
                          go_simp
                          refine wpAny_take (i := 23) (v := undef) rfl (by kernel_rfl) (by kernel_rfl) (by kernel_rfl) (fun _ _ _ h => h) (Or.inr ⟨by kernel_rfl, rfl⟩) ?_
                          go_simp
                          refine wpAny_take (i := 24) (v := undef) rfl (by kernel_rfl) (by kernel_rfl) (by kernel_rfl) (fun _ _ _ h => h) (Or.inr ⟨by kernel_rfl, rfl⟩) ?_
                          go_simp
                          refine wpAny_take (i := 25) (v := undef) rfl (by kernel_rfl) (by kernel_rfl) (by kernel_rfl) (fun _ _ _ h => h) (Or.inr ⟨by kernel_rfl, rfl⟩) ?_
                          go_simp
                          refine wpAny_take (i := 26) (v := undef) rfl (by kernel_rfl) (by kernel_rfl) (by kernel_rfl) (fun _ _ _ h => h) (Or.inr ⟨by kernel_rfl, rfl⟩) ?_
                          go_simp
                          refine wpAny_take (i := 27) (v := undef) rfl (by kernel_rfl) (by kernel_rfl) (by kernel_rfl) (fun _ _ _ h => h) (Or.inr ⟨by kernel_rfl, rfl⟩) ?_
                          go_simp
                          refine wpAny_take (i := 28) (v := undef) rfl (by kernel_rfl) (by kernel_rfl) (by kernel_rfl) (fun _ _ _ h => h) (Or.inr ⟨by kernel_rfl, rfl⟩) ?_
                          go_simp
                          refine wpAny_take (i := 29) (v := undef) rfl (by kernel_rfl) (by kernel_rfl) (by kernel_rfl) (fun _ _ _ h => h) (Or.inr ⟨by kernel_rfl, rfl⟩) ?_
                          go_simp
                          refine wpAny_take (i := 30) (v := undef) rfl (by kernel_rfl) (by kernel_rfl) (by kernel_rfl) (fun _ _ _ h => h) (Or.inr ⟨by kernel_rfl, rfl⟩) ?_
                          go_simp
                          refine wpAny_take (i := 31) (v := undef) rfl (by kernel_rfl) (by kernel_rfl) (by kernel_rfl) (fun _ _ _ h => h) (Or.inr ⟨by kernel_rfl, rfl⟩) ?_
                          go_simp
                          refine wpAny_take (i := 32) (v := ?v36) rfl (by kernel_rfl) (by kernel_rfl) (by kernel_rfl) (fun _ _ _ h => h) (Or.inl ⟨by kernel_rfl, ?h36⟩) ?r36
                          case h36 => intro w; go_simp; try (with_reducible rfl)
                          refine wpAny_take (i := 33) (v := ?v37) rfl (by kernel_rfl) (by kernel_rfl) (by kernel_rfl) (fun _ _ _ h => h) (Or.inl ⟨by kernel_rfl, ?h37⟩) ?r37
                          case h37 => intro w; go_simp; try (with_reducible rfl)
                          refine wpAny_done (by kernel_rfl) ?_ _
                          go_wp2
                          go_roundw
                          case rel => exact ⟨k + 1, x, by omega, by go_num, by rw [decide_eq_false (by omega)]; exact HI2, fun x' l' _ h => by have h1 := HX.out; rw [show k + 1 - 1 = k by omega, h1] at h; cases h; rfl, HWR.out _ hB2⟩
                          case measure => simp [intOf]; omega
                        exact AllReady.nil
                      exact AllReady.nil
                    exact AllReady.nil
                  exact AllReady.nil
                exact AllReady.nil
              exact AllReady.nil
            | false =>
              have HW3 : Hid (∀ W, (kRow kPosting).is false W TL [.slice la ln lc] l → Calls Try.prog 58 #[.slice la ln lc, .int .i64 tx] W fun e w' => e = .returned (.bool false) ∧ Below W.heap.size W w') := fun W h => by have := l10List_k l la _ lc TL tx tv W h HTV.out; rw [w3] at this; exact this
              have HF : Hid (q = false) := by have := HI1.out; rw [w1, w3, isEmpty_len, decide_eq_false (by rw [← HLN.out]; exact w2)] at this; exact this.symm
              clear HI1
              go_wp2_with fail
              rw [← hO]
              clear hO
              obtain ⟨y0, y1, y2, y3⟩ := HSK.out _ (Below.refl _ _)
              refine wp_region_any (by kernel_rfl) ?_
              change wpAny _ _ _ _ _ _ _ (World.drew _)
              refine wpAny_take (i := 0) (v := ?v38) rfl (by kernel_rfl) (by kernel_rfl) (by kernel_rfl) (fun _ _ _ h => h) (Or.inl ⟨by kernel_rfl, ?h38⟩) ?r38
              case h38 => intro w; go_simp; try (with_reducible rfl)
              refine wpAny_ready (rs := [1]) (by kernel_rfl) (by simp) ?_
              refine AllReady.cons rfl (fun K hK => ?_) ?_
              · go_simp
                refine hK _ _ ?_
                clear hK K
                refine wpAny_ready (rs := [2]) (by kernel_rfl) (by simp) ?_
                refine AllReady.cons rfl (fun K hK => ?_) ?_
                · go_simp
                  go_wp2_with ((go_at_call 57; refine (HW1.out _).mono ?_; rintro e w1 ⟨rfl, hb1⟩; have hB1 : Below (wr.alloc O).heap.size (wr.alloc O) w1 := (Below.refl _ _).drew.trans hb1; obtain ⟨p0, p1, p2, p3⟩ := HSK.out _ hB1))
                  refine wpAny_take (i := 3) (v := ?v39) rfl (by kernel_rfl) (by kernel_rfl) (by kernel_rfl) (fun _ _ _ h => h) (Or.inl ⟨by kernel_rfl, ?h39⟩) ?r39
                  case h39 => intro w; go_simp; try (with_reducible rfl)
                  refine wpAny_take (i := 4) (v := ?v40) rfl (by kernel_rfl) (by kernel_rfl) (by kernel_rfl) (fun _ _ _ h => h) (Or.inl ⟨by kernel_rfl, ?h40⟩) ?r40
                  case h40 => intro w; go_simp; try (with_reducible rfl)
                  refine wpAny_take (i := 5) (v := ?v41) rfl (by kernel_rfl) (by kernel_rfl) (by kernel_rfl) (fun _ _ _ h => h) (Or.inl ⟨by kernel_rfl, ?h41⟩) ?r41
                  case h41 => intro w; go_simp; try (with_reducible rfl)
                  refine wpAny_ready (rs := [6]) (by kernel_rfl) (by simp) ?_
                  refine AllReady.cons rfl (fun K hK => ?_) ?_
                  · go_simp
                    refine hK _ _ ?_
                    clear hK K
                    refine wpAny_take (i := 7) (v := ?v42) rfl (by kernel_rfl) (by kernel_rfl) (by kernel_rfl) (fun _ _ _ h => h) (Or.inl ⟨by kernel_rfl, ?h42⟩) ?r42
                    case h42 => intro w; go_simp; try (with_reducible rfl)
                    refine wpAny_take (i := 8) (v := ?v43) rfl (by kernel_rfl) (by kernel_rfl) (by kernel_rfl) (fun _ _ _ h => h) (Or.inl ⟨by kernel_rfl, ?h43⟩) ?r43
                    case h43 => intro w; go_simp; try (with_reducible rfl)
                    refine wpAny_take (i := 9) (v := ?v44) rfl (by kernel_rfl) (by kernel_rfl) (by kernel_rfl) (fun _ _ _ h => h) (Or.inl ⟨by kernel_rfl, ?h44⟩) ?r44
                    case h44 => intro w; go_simp; try (with_reducible rfl)
                    refine wpAny_take (i := 10) (v := ?v45) rfl (by kernel_rfl) (by kernel_rfl) (by kernel_rfl) (fun _ _ _ h => h) (Or.inl ⟨by kernel_rfl, ?h45⟩) ?r45
                    case h45 => intro w; go_simp; try (with_reducible rfl)
                    refine wpAny_take (i := 11) (v := ?v46) rfl (by kernel_rfl) (by kernel_rfl) (by kernel_rfl) (fun _ _ _ h => h) (Or.inl ⟨by kernel_rfl, ?h46⟩) ?r46
                    case h46 => intro w; go_simp; try (with_reducible rfl)
                    refine wpAny_take (i := 13) (v := ?v47) rfl (by kernel_rfl) (by kernel_rfl) (by kernel_rfl) (fun _ _ _ h => h) (Or.inl ⟨by kernel_rfl, ?h47⟩) ?r47
                    case h47 => intro w; go_simp; try (with_reducible rfl)
                    refine wpAny_ready (rs := [12, 14]) (by kernel_rfl) (by simp) ?_
                    refine AllReady.cons rfl (fun K hK => ?_) ?_
                    · go_simp
                      refine hK _ _ ?_
                      clear hK K
                      refine wpAny_ready (rs := [14]) (by kernel_rfl) (by simp) ?_
                      refine AllReady.cons rfl (fun K hK => ?_) ?_
                      · go_simp
                        refine hK _ _ ?_
                        clear hK K
                        refine wpAny_ready (rs := [15]) (by kernel_rfl) (by simp) ?_
                        refine AllReady.cons rfl (fun K hK => ?_) ?_
                        · go_simp
                          go_wp2_with ((go_at_call 58; refine (HW3.out _ (Kd.below HL.out hB1)).mono ?_; rintro e w2 ⟨rfl, hb2⟩; have hB2 : Below (wr.alloc O).heap.size (wr.alloc O) w2 := hB1.trans (hb2.mono hB1.size); obtain ⟨r0, r1, r2, r3⟩ := HSK.out _ hB2))
                          refine wpAny_take (i := 16) (v := ?v48) rfl (by kernel_rfl) (by kernel_rfl) (by kernel_rfl) (fun _ _ _ h => h) (Or.inl ⟨by kernel_rfl, ?h48⟩) ?r48
                          case h48 => intro w; go_simp; try (with_reducible rfl)
                          refine wpAny_take (i := 17) (v := ?v49) rfl (by kernel_rfl) (by kernel_rfl) (by kernel_rfl) (fun _ _ _ h => h) (Or.inl ⟨by kernel_rfl, ?h49⟩) ?r49
                          case h49 => intro w; go_simp; try (with_reducible rfl)
                          refine wpAny_take (i := 18) (v := ?v50) rfl (by kernel_rfl) (by kernel_rfl) (by kernel_rfl) (fun _ _ _ h => h) (Or.inl ⟨by kernel_rfl, ?h50⟩) ?r50
                          case h50 => intro w; go_simp; try (with_reducible rfl)
                          refine wpAny_take (i := 19) (v := undef) rfl (by kernel_rfl) (by kernel_rfl) (by kernel_rfl) (fun _ _ _ h => h) (Or.inr ⟨by kernel_rfl, rfl⟩) ?_
                          go_simp
                          refine wpAny_take (i := 20) (v := undef) rfl (by kernel_rfl) (by kernel_rfl) (by kernel_rfl) (fun _ _ _ h => h) (Or.inr ⟨by kernel_rfl, rfl⟩) ?_
                          go_simp
                          refine wpAny_take (i := 21) (v := undef) rfl (by kernel_rfl) (by kernel_rfl) (by kernel_rfl) (fun _ _ _ h => h) (Or.inr ⟨by kernel_rfl, rfl⟩) ?_
                          go_simp
                          refine wpAny_take (i := 22) (v := undef) rfl (by kernel_rfl) (by kernel_rfl) (by kernel_rfl) (fun _ _ _ h => h) (Or.inr ⟨by kernel_rfl, rfl⟩) ?_
                          go_simp
                          refine wpAny_take (i := 23) (v := undef) rfl (by kernel_rfl) (by kernel_rfl) (by kernel_rfl) (fun _ _ _ h => h) (Or.inr ⟨by kernel_rfl, rfl⟩) ?_
                          go_simp
                          refine wpAny_take (i := 24) (v := undef) rfl (by kernel_rfl) (by kernel_rfl) (by kernel_rfl) (fun _ _ _ h => h) (Or.inr ⟨by kernel_rfl, rfl⟩) ?_
                          go_simp
                          refine wpAny_take (i := 25) (v := undef) rfl (by kernel_rfl) (by kernel_rfl) (by kernel_rfl) (fun _ _ _ h => h) (Or.inr ⟨by kernel_rfl, rfl⟩) ?_
                          go_simp
                          refine wpAny_take (i := 26) (v := undef) rfl (by kernel_rfl) (by kernel_rfl) (by kernel_rfl) (fun _ _ _ h => h) (Or.inr ⟨by kernel_rfl, rfl⟩) ?_
                          go_simp
                          refine wpAny_take (i := 27) (v := undef) rfl (by kernel_rfl) (by kernel_rfl) (by kernel_rfl) (fun _ _ _ h => h) (Or.inr ⟨by kernel_rfl, rfl⟩) ?_
                          go_simp
                          refine wpAny_take (i := 28) (v := undef) rfl (by kernel_rfl) (by kernel_rfl) (by kernel_rfl) (fun _ _ _ h => h) (Or.inr ⟨by kernel_rfl, rfl⟩) ?_
                          go_simp
                          refine wpAny_take (i := 29) (v := undef) rfl (by kernel_rfl) (by kernel_rfl) (by kernel_rfl) (fun _ _ _ h => h) (Or.inr ⟨by kernel_rfl, rfl⟩) ?_
                          go_simp
                          refine wpAny_take (i := 30) (v := undef) rfl (by kernel_rfl) (by kernel_rfl) (by kernel_rfl) (fun _ _ _ h => h) (Or.inr ⟨by kernel_rfl, rfl⟩) ?_
                          go_simp
                          refine wpAny_take (i := 31) (v := undef) rfl (by kernel_rfl) (by kernel_rfl) (by kernel_rfl) (fun _ _ _ h => h) (Or.inr ⟨by kernel_rfl, rfl⟩) ?_
                          go_simp
                          refine wpAny_take (i := 32) (v := undef) rfl (by kernel_rfl) (by kernel_rfl) (by kernel_rfl) (fun _ _ _ h => h) (Or.inr ⟨by kernel_rfl, rfl⟩) ?_
                          go_simp
                          refine wpAny_take (i := 33) (v := ?v51) rfl (by kernel_rfl) (by kernel_rfl) (by kernel_rfl) (fun _ _ _ h => h) (Or.inl ⟨by kernel_rfl, ?h51⟩) ?r51
                          case h51 => intro w; go_simp; try (with_reducible rfl)
                          refine wpAny_done (by kernel_rfl) ?_ _
                          go_wp2
                          go_ret
                          exact ⟨by rw [HF.out]; rfl, b0.trans ((HWR.out _ hB2).mono (by omega))⟩
                        exact AllReady.nil
                      exact AllReady.nil
                    refine AllReady.cons rfl (fun K hK => ?_) ?_
                    · go_simp
                      refine hK _ _ ?_
                      clear hK K
                      refine wpAny_ready (rs := [12]) (by kernel_rfl) (by simp) ?_
                      refine AllReady.cons rfl (fun K hK => ?_) ?_
                      · go_simp
                        refine hK _ _ ?_
                        clear hK K
                        refine wpAny_ready (rs := [15]) (by kernel_rfl) (by simp) ?_
                        refine AllReady.cons rfl (fun K hK => ?_) ?_
                        · go_simp
                          go_wp2_with ((go_at_call 58; refine (HW3.out _ (Kd.below HL.out hB1)).mono ?_; rintro e w2 ⟨rfl, hb2⟩; have hB2 : Below (wr.alloc O).heap.size (wr.alloc O) w2 := hB1.trans (hb2.mono hB1.size); obtain ⟨r0, r1, r2, r3⟩ := HSK.out _ hB2))
                          refine wpAny_take (i := 16) (v := ?v52) rfl (by kernel_rfl) (by kernel_rfl) (by kernel_rfl) (fun _ _ _ h => h) (Or.inl ⟨by kernel_rfl, ?h52⟩) ?r52
                          case h52 => intro w; go_simp; try (with_reducible rfl)
                          refine wpAny_take (i := 17) (v := ?v53) rfl (by kernel_rfl) (by kernel_rfl) (by kernel_rfl) (fun _ _ _ h => h) (Or.inl ⟨by kernel_rfl, ?h53⟩) ?r53
                          case h53 => intro w; go_simp; try (with_reducible rfl)
                          refine wpAny_take (i := 18) (v := ?v54) rfl (by kernel_rfl) (by kernel_rfl) (by kernel_rfl) (fun _ _ _ h => h) (Or.inl ⟨by kernel_rfl, ?h54⟩) ?r54
                          case h54 => intro w; go_simp; try (with_reducible rfl)
                          refine wpAny_take (i := 19) (v := undef) rfl (by kernel_rfl) (by kernel_rfl) (by kernel_rfl) (fun _ _ _ h => h) (Or.inr ⟨by kernel_rfl, rfl⟩) ?_
                          go_simp
                          refine wpAny_take (i := 20) (v := undef) rfl (by kernel_rfl) (by kernel_rfl) (by kernel_rfl) (fun _ _ _ h => h) (Or.inr ⟨by kernel_rfl, rfl⟩) ?_
                          go_simp
                          refine wpAny_take (i := 21) (v := undef) rfl (by kernel_rfl) (by kernel_rfl) (by kernel_rfl) (fun _ _ _ h => h) (Or.inr ⟨by kernel_rfl, rfl⟩) ?_
                          go_simp
                          refine wpAny_take (i := 22) (v := undef) rfl (by kernel_rfl) (by kernel_rfl) (by kernel_rfl) (fun _ _ _ h => h) (Or.inr ⟨by kernel_rfl, rfl⟩) ?_
                          go_simp
                          refine wpAny_take (i := 23) (v := undef) rfl (by kernel_rfl) (by kernel_rfl) (by kernel_rfl) (fun _ _ _ h => h) (Or.inr ⟨by kernel_rfl, rfl⟩) ?_
                          go_simp
                          refine wpAny_take (i := 24) (v := undef) rfl (by kernel_rfl) (by kernel_rfl) (by kernel_rfl) (fun _ _ _ h => h) (Or.inr ⟨by kernel_rfl, rfl⟩) ?_
                          go_simp
                          refine wpAny_take (i := 25) (v := undef) rfl (by kernel_rfl) (by kernel_rfl) (by kernel_rfl) (fun _ _ _ h => h) (Or.inr ⟨by kernel_rfl, rfl⟩) ?_
                          go_simp
                          refine wpAny_take (i := 26) (v := undef) rfl (by kernel_rfl) (by kernel_rfl) (by kernel_rfl) (fun _ _ _ h => h) (Or.inr ⟨by kernel_rfl, rfl⟩) ?_
                          go_simp
                          refine wpAny_take (i := 27) (v := undef) rfl (by kernel_rfl) (by kernel_rfl) (by kernel_rfl) (fun _ _ _ h => h) (Or.inr ⟨by kernel_rfl, rfl⟩) ?_
                          go_simp
                          refine wpAny_take (i := 28) (v := undef) rfl (by kernel_rfl) (by kernel_rfl) (by kernel_rfl) (fun _ _ _ h => h) (Or.inr ⟨by kernel_rfl, rfl⟩) ?_
                          go_simp
                          refine wpAny_take (i := 29) (v := undef) rfl (by kernel_rfl) (by kernel_rfl) (by kernel_rfl) (fun _ _ _ h => h) (Or.inr ⟨by kernel_rfl, rfl⟩) ?_
                          go_simp
                          refine wpAny_take (i := 30) (v := undef) rfl (by kernel_rfl) (by kernel_rfl) (by kernel_rfl) (fun _ _ _ h => h) (Or.inr ⟨by kernel_rfl, rfl⟩) ?_
                          go_simp
                          refine wpAny_take (i := 31) (v := undef) rfl (by kernel_rfl) (by kernel_rfl) (by kernel_rfl) (fun _ _ _ h => h) (Or.inr ⟨by kernel_rfl, rfl⟩) ?_
                          go_simp
                          refine wpAny_take (i := 32) (v := undef) rfl (by kernel_rfl) (by kernel_rfl) (by kernel_rfl) (fun _ _ _ h => h) (Or.inr ⟨by kernel_rfl, rfl⟩) ?_
                          go_simp
                          refine wpAny_take (i := 33) (v := ?v55) rfl (by kernel_rfl) (by kernel_rfl) (by kernel_rfl) (fun _ _ _ h => h) (Or.inl ⟨by kernel_rfl, ?h55⟩) ?r55
                          case h55 => intro w; go_simp; try (with_reducible rfl)
                          refine wpAny_done (by kernel_rfl) ?_ _
                          go_wp2
                          go_ret
                          exact ⟨by rw [HF.out]; rfl, b0.trans ((HWR.out _ hB2).mono (by omega))⟩
                        exact AllReady.nil
                      exact AllReady.nil
                    exact AllReady.nil
                  exact AllReady.nil
                exact AllReady.nil
              exact AllReady.nil
        | false =>
          have HW1 : Hid (∀ W, Calls Try.prog 57 #[.string x] W fun e w' => e = .returned (.bool false) ∧ Below W.heap.size W w') := fun W => by have := l10Word_k x W HXS.out; rw [w1] at this; exact this
          have HF : Hid (q = false) := by have := HI1.out; rw [w1] at this; exact this.symm
          clear HI1
          go_wp2_with fail
          rw [← hO]
          clear hO
          obtain ⟨y0, y1, y2, y3⟩ := HSK.out _ (Below.refl _ _)
          refine wp_region_any (by kernel_rfl) ?_
          change wpAny _ _ _ _ _ _ _ (World.drew _)
          refine wpAny_take (i := 0) (v := ?v56) rfl (by kernel_rfl) (by kernel_rfl) (by kernel_rfl) (fun _ _ _ h => h) (Or.inl ⟨by kernel_rfl, ?h56⟩) ?r56
          case h56 => intro w; go_simp; try (with_reducible rfl)
          refine wpAny_ready (rs := [1]) (by kernel_rfl) (by simp) ?_
          refine AllReady.cons rfl (fun K hK => ?_) ?_
          · go_simp
            refine hK _ _ ?_
            clear hK K
            refine wpAny_ready (rs := [2]) (by kernel_rfl) (by simp) ?_
            refine AllReady.cons rfl (fun K hK => ?_) ?_
            · go_simp
              go_wp2_with ((go_at_call 57; refine (HW1.out _).mono ?_; rintro e w1 ⟨rfl, hb1⟩; have hB1 : Below (wr.alloc O).heap.size (wr.alloc O) w1 := (Below.refl _ _).drew.trans hb1; obtain ⟨p0, p1, p2, p3⟩ := HSK.out _ hB1))
              refine wpAny_take (i := 3) (v := ?v57) rfl (by kernel_rfl) (by kernel_rfl) (by kernel_rfl) (fun _ _ _ h => h) (Or.inl ⟨by kernel_rfl, ?h57⟩) ?r57
              case h57 => intro w; go_simp; try (with_reducible rfl)
              refine wpAny_take (i := 4) (v := ?v58) rfl (by kernel_rfl) (by kernel_rfl) (by kernel_rfl) (fun _ _ _ h => h) (Or.inl ⟨by kernel_rfl, ?h58⟩) ?r58
              case h58 => intro w; go_simp; try (with_reducible rfl)
              refine wpAny_take (i := 5) (v := undef) rfl (by kernel_rfl) (by kernel_rfl) (by kernel_rfl) (fun _ _ _ h => h) (Or.inr ⟨by kernel_rfl, rfl⟩) ?_
              go_simp
              refine wpAny_take (i := 6) (v := undef) rfl (by kernel_rfl) (by kernel_rfl) (by kernel_rfl) (fun _ _ _ h => h) (Or.inr ⟨by kernel_rfl, rfl⟩) ?_
              go_simp
              refine wpAny_take (i := 7) (v := undef) rfl (by kernel_rfl) (by kernel_rfl) (by kernel_rfl) (fun _ _ _ h => h) (Or.inr ⟨by kernel_rfl, rfl⟩) ?_
              go_simp
              refine wpAny_take (i := 8) (v := undef) rfl (by kernel_rfl) (by kernel_rfl) (by kernel_rfl) (fun _ _ _ h => h) (Or.inr ⟨by kernel_rfl, rfl⟩) ?_
              go_simp
              refine wpAny_take (i := 9) (v := ?v59) rfl (by kernel_rfl) (by kernel_rfl) (by kernel_rfl) (fun _ _ _ h => h) (Or.inl ⟨by kernel_rfl, ?h59⟩) ?r59
              case h59 => intro w; go_simp; try (with_reducible rfl)
              refine wpAny_take (i := 10) (v := ?v60) rfl (by kernel_rfl) (by kernel_rfl) (by kernel_rfl) (fun _ _ _ h => h) (Or.inl ⟨by kernel_rfl, ?h60⟩) ?r60
              case h60 => intro w; go_simp; try (with_reducible rfl)
              refine wpAny_take (i := 11) (v := undef) rfl (by kernel_rfl) (by kernel_rfl) (by kernel_rfl) (fun _ _ _ h => h) (Or.inr ⟨by kernel_rfl, rfl⟩) ?_
              go_simp
              refine wpAny_take (i := 12) (v := undef) rfl (by kernel_rfl) (by kernel_rfl) (by kernel_rfl) (fun _ _ _ h => h) (Or.inr ⟨by kernel_rfl, rfl⟩) ?_
              go_simp
              refine wpAny_take (i := 13) (v := undef) rfl (by kernel_rfl) (by kernel_rfl) (by kernel_rfl) (fun _ _ _ h => h) (Or.inr ⟨by kernel_rfl, rfl⟩) ?_
              go_simp
              refine wpAny_take (i := 14) (v := undef) rfl (by kernel_rfl) (by kernel_rfl) (by kernel_rfl) (fun _ _ _ h => h) (Or.inr ⟨by kernel_rfl, rfl⟩) ?_
              go_simp
              refine wpAny_take (i := 15) (v := undef) rfl (by kernel_rfl) (by kernel_rfl) (by kernel_rfl) (fun _ _ _ h => h) (Or.inr ⟨by kernel_rfl, rfl⟩) ?_
              go_simp
              refine wpAny_take (i := 16) (v := undef) rfl (by kernel_rfl) (by kernel_rfl) (by kernel_rfl) (fun _ _ _ h => h) (Or.inr ⟨by kernel_rfl, rfl⟩) ?_
              go_simp
              refine wpAny_take (i := 17) (v := ?v61) rfl (by kernel_rfl) (by kernel_rfl) (by kernel_rfl) (fun _ _ _ h => h) (Or.inl ⟨by kernel_rfl, ?h61⟩) ?r61
              case h61 => intro w; go_simp; try (with_reducible rfl)
              refine wpAny_take (i := 18) (v := ?v62) rfl (by kernel_rfl) (by kernel_rfl) (by kernel_rfl) (fun _ _ _ h => h) (Or.inl ⟨by kernel_rfl, ?h62⟩) ?r62
              case h62 => intro w; go_simp; try (with_reducible rfl)
              refine wpAny_take (i := 19) (v := undef) rfl (by kernel_rfl) (by kernel_rfl) (by kernel_rfl) (fun _ _ _ h => h) (Or.inr ⟨by kernel_rfl, rfl⟩) ?_
              go_simp
              refine wpAny_take (i := 20) (v := undef) rfl (by kernel_rfl) (by kernel_rfl) (by kernel_rfl) (fun _ _ _ h => h) (Or.inr ⟨by kernel_rfl, rfl⟩) ?_
              go_simp
              refine wpAny_take (i := 21) (v := undef) rfl (by kernel_rfl) (by kernel_rfl) (by kernel_rfl) (fun _ _ _ h => h) (Or.inr ⟨by kernel_rfl, rfl⟩) ?_
              go_simp
              refine wpAny_take (i := 22) (v := undef) rfl (by kernel_rfl) (by kernel_rfl) (by kernel_rfl) (fun _ _ _ h => h) (Or.inr ⟨by kernel_rfl, rfl⟩) ?_
              go_simp
              refine wpAny_take (i := 23) (v := undef) rfl (by kernel_rfl) (by kernel_rfl) (by kernel_rfl) (fun _ _ _ h => h) (Or.inr ⟨by kernel_rfl, rfl⟩) ?_
              go_simp
              refine wpAny_take (i := 24) (v := undef) rfl (by kernel_rfl) (by kernel_rfl) (by kernel_rfl) (fun _ _ _ h => h) (Or.inr ⟨by kernel_rfl, rfl⟩) ?_
              go_simp
              refine wpAny_take (i := 25) (v := undef) rfl (by kernel_rfl) (by kernel_rfl) (by kernel_rfl) (fun _ _ _ h => h) (Or.inr ⟨by kernel_rfl, rfl⟩) ?_
              go_simp
              refine wpAny_take (i := 26) (v := undef) rfl (by kernel_rfl) (by kernel_rfl) (by kernel_rfl) (fun _ _ _ h => h) (Or.inr ⟨by kernel_rfl, rfl⟩) ?_
              go_simp
              refine wpAny_take (i := 27) (v := undef) rfl (by kernel_rfl) (by kernel_rfl) (by kernel_rfl) (fun _ _ _ h => h) (Or.inr ⟨by kernel_rfl, rfl⟩) ?_
              go_simp
              refine wpAny_take (i := 28) (v := undef) rfl (by kernel_rfl) (by kernel_rfl) (by kernel_rfl) (fun _ _ _ h => h) (Or.inr ⟨by kernel_rfl, rfl⟩) ?_
              go_simp
              refine wpAny_take (i := 29) (v := undef) rfl (by kernel_rfl) (by kernel_rfl) (by kernel_rfl) (fun _ _ _ h => h) (Or.inr ⟨by kernel_rfl, rfl⟩) ?_
              go_simp
              refine wpAny_take (i := 30) (v := undef) rfl (by kernel_rfl) (by kernel_rfl) (by kernel_rfl) (fun _ _ _ h => h) (Or.inr ⟨by kernel_rfl, rfl⟩) ?_
              go_simp
              refine wpAny_take (i := 31) (v := undef) rfl (by kernel_rfl) (by kernel_rfl) (by kernel_rfl) (fun _ _ _ h => h) (Or.inr ⟨by kernel_rfl, rfl⟩) ?_
              go_simp
              refine wpAny_take (i := 32) (v := undef) rfl (by kernel_rfl) (by kernel_rfl) (by kernel_rfl) (fun _ _ _ h => h) (Or.inr ⟨by kernel_rfl, rfl⟩) ?_
              go_simp
              refine wpAny_take (i := 33) (v := ?v63) rfl (by kernel_rfl) (by kernel_rfl) (by kernel_rfl) (fun _ _ _ h => h) (Or.inl ⟨by kernel_rfl, ?h63⟩) ?r63
              case h63 => intro w; go_simp; try (with_reducible rfl)
              refine wpAny_done (by kernel_rfl) ?_ _
              go_wp2
              go_ret
              exact ⟨by rw [HF.out]; rfl, b0.trans ((HWR.out _ hB1).mono (by omega))⟩
            exact AllReady.nil
          exact AllReady.nil
      · obtain ⟨ip, hip⟩ : ∃ ip, k = ip + 1 := ⟨k - 1, by omega⟩
        obtain ⟨⟨x', l'⟩, hx'⟩ : ∃ x, es[ip]? = some x := ⟨_, List.getElem?_eq_getElem (by rw [← HN.out]; omega)⟩
        obtain ⟨b2, off2, B2, C2, e2, hb2, _, hi2, _, hc2⟩ := row_at hrow hx'
        obtain ⟨rfl, rfl⟩ : b = b2 ∧ off = off2 := by simpa using e2
        obtain ⟨_, _, _, rfl, _, _, _, _⟩ := kEntry_open hi2
        have F0 : wr.cell? ⟨b, off + ip * 2, none⟩ = some (.string x') := (hc2 0 _ rfl).1
        have hl' : x' = last := HP.out x' l' (by omega) (by rw [hip, show ip + 1 - 1 = ip by omega]; exact hx')
        subst hl'
        have e3' : (0 : Int) < (k : Int) := by omega
        have e3'' : 0 < k := by omega
        have e4' : (k : Int) - 1 = (ip : Int) := by omega
        have e5' : (0 : Int) ≤ (ip : Int) := by omega
        have e7' : IntKind.wrap .i64 (ip : Int) = (ip : Int) := by simp [IntKind.wrap, IntKind.bits, IntKind.signed]; omega
        have e6' : (ip : Int) < (n : Int) := by omega
        have HK : Hid (decide (k = 0) = false) := decide_eq_false c3
        have HSK : Hid (∀ w', Below (wr.alloc O).heap.size (wr.alloc O) w' → w'.cell? ⟨w.heap.size, 0, none⟩ = some (.int .i64 tx) ∧ w'.cell? ⟨w.heap.size, 1, none⟩ = some (.slice (some ⟨b, off, none⟩) n c) ∧ w'.cell? ⟨wr.heap.size, 0, none⟩ = some (.string x) ∧ w'.cell? ⟨wr.heap.size, 1, none⟩ = some (.slice la ln lc) ∧ w'.cell? ⟨b, off + ip * 2, none⟩ = some (.string x')) := fun w' h =>
          ⟨cell_later h (cell_later hal Y0), cell_later h (cell_later hal Y1), cell_later h E0, cell_later h E1, cell_later h (cell_later hal F0)⟩
        clear hip hc2 hi2 hx' e2 c3 hc hrow hx
        cases w1 : isWordB x with
        | true =>
          have HW1 : Hid (∀ W, Calls Try.prog 57 #[.string x] W fun e w' => e = .returned (.bool true) ∧ Below W.heap.size W w') := fun W => by have := l10Word_k x W HXS.out; rw [w1] at this; exact this
          by_cases w2 : ln = 0
          · have w2e : l.length = 0 := by rw [← HLN.out]; exact w2
            have HF : Hid (q = false) := by have := HI1.out; rw [w1, isEmpty_len, decide_eq_true w2e] at this; exact this.symm
            clear HI1
            clear w2e
            subst w2
            go_wp2_with fail
            rw [← hO]
            clear hO
            obtain ⟨y0, y1, y2, y3, y4⟩ := HSK.out _ (Below.refl _ _)
            refine wp_region_any (by kernel_rfl) ?_
            change wpAny _ _ _ _ _ _ _ (World.drew _)
            refine wpAny_take (i := 0) (v := ?v64) rfl (by kernel_rfl) (by kernel_rfl) (by kernel_rfl) (fun _ _ _ h => h) (Or.inl ⟨by kernel_rfl, ?h64⟩) ?r64
            case h64 => intro w; go_simp; try (with_reducible rfl)
            refine wpAny_ready (rs := [1]) (by kernel_rfl) (by simp) ?_
            refine AllReady.cons rfl (fun K hK => ?_) ?_
            · go_simp
              refine hK _ _ ?_
              clear hK K
              refine wpAny_ready (rs := [2]) (by kernel_rfl) (by simp) ?_
              refine AllReady.cons rfl (fun K hK => ?_) ?_
              · go_simp
                go_wp2_with ((go_at_call 57; refine (HW1.out _).mono ?_; rintro e w1 ⟨rfl, hb1⟩; have hB1 : Below (wr.alloc O).heap.size (wr.alloc O) w1 := (Below.refl _ _).drew.trans hb1; obtain ⟨p0, p1, p2, p3, p4⟩ := HSK.out _ hB1))
                refine wpAny_take (i := 3) (v := ?v65) rfl (by kernel_rfl) (by kernel_rfl) (by kernel_rfl) (fun _ _ _ h => h) (Or.inl ⟨by kernel_rfl, ?h65⟩) ?r65
                case h65 => intro w; go_simp; try (with_reducible rfl)
                refine wpAny_take (i := 4) (v := ?v66) rfl (by kernel_rfl) (by kernel_rfl) (by kernel_rfl) (fun _ _ _ h => h) (Or.inl ⟨by kernel_rfl, ?h66⟩) ?r66
                case h66 => intro w; go_simp; try (with_reducible rfl)
                refine wpAny_take (i := 5) (v := ?v67) rfl (by kernel_rfl) (by kernel_rfl) (by kernel_rfl) (fun _ _ _ h => h) (Or.inl ⟨by kernel_rfl, ?h67⟩) ?r67
                case h67 => intro w; go_simp; try (with_reducible rfl)
                refine wpAny_ready (rs := [6]) (by kernel_rfl) (by simp) ?_
                refine AllReady.cons rfl (fun K hK => ?_) ?_
                · go_simp
                  refine hK _ _ ?_
                  clear hK K
                  refine wpAny_take (i := 7) (v := ?v68) rfl (by kernel_rfl) (by kernel_rfl) (by kernel_rfl) (fun _ _ _ h => h) (Or.inl ⟨by kernel_rfl, ?h68⟩) ?r68
                  case h68 => intro w; go_simp; try (with_reducible rfl)
                  refine wpAny_take (i := 8) (v := ?v69) rfl (by kernel_rfl) (by kernel_rfl) (by kernel_rfl) (fun _ _ _ h => h) (Or.inl ⟨by kernel_rfl, ?h69⟩) ?r69
                  case h69 => intro w; go_simp; try (with_reducible rfl)
                  refine wpAny_take (i := 9) (v := ?v70) rfl (by kernel_rfl) (by kernel_rfl) (by kernel_rfl) (fun _ _ _ h => h) (Or.inl ⟨by kernel_rfl, ?h70⟩) ?r70
                  case h70 => intro w; go_simp; try (with_reducible rfl)
                  refine wpAny_take (i := 10) (v := ?v71) rfl (by kernel_rfl) (by kernel_rfl) (by kernel_rfl) (fun _ _ _ h => h) (Or.inl ⟨by kernel_rfl, ?h71⟩) ?r71
                  case h71 => intro w; go_simp; try (with_reducible rfl)
                  refine wpAny_take (i := 11) (v := undef) rfl (by kernel_rfl) (by kernel_rfl) (by kernel_rfl) (fun _ _ _ h => h) (Or.inr ⟨by kernel_rfl, rfl⟩) ?_
                  go_simp
                  refine wpAny_take (i := 12) (v := undef) rfl (by kernel_rfl) (by kernel_rfl) (by kernel_rfl) (fun _ _ _ h => h) (Or.inr ⟨by kernel_rfl, rfl⟩) ?_
                  go_simp
                  refine wpAny_take (i := 13) (v := undef) rfl (by kernel_rfl) (by kernel_rfl) (by kernel_rfl) (fun _ _ _ h => h) (Or.inr ⟨by kernel_rfl, rfl⟩) ?_
                  go_simp
                  refine wpAny_take (i := 14) (v := undef) rfl (by kernel_rfl) (by kernel_rfl) (by kernel_rfl) (fun _ _ _ h => h) (Or.inr ⟨by kernel_rfl, rfl⟩) ?_
                  go_simp
                  refine wpAny_take (i := 15) (v := undef) rfl (by kernel_rfl) (by kernel_rfl) (by kernel_rfl) (fun _ _ _ h => h) (Or.inr ⟨by kernel_rfl, rfl⟩) ?_
                  go_simp
                  refine wpAny_take (i := 16) (v := undef) rfl (by kernel_rfl) (by kernel_rfl) (by kernel_rfl) (fun _ _ _ h => h) (Or.inr ⟨by kernel_rfl, rfl⟩) ?_
                  go_simp
                  refine wpAny_take (i := 17) (v := ?v72) rfl (by kernel_rfl) (by kernel_rfl) (by kernel_rfl) (fun _ _ _ h => h) (Or.inl ⟨by kernel_rfl, ?h72⟩) ?r72
                  case h72 => intro w; go_simp; try (with_reducible rfl)
                  refine wpAny_take (i := 18) (v := ?v73) rfl (by kernel_rfl) (by kernel_rfl) (by kernel_rfl) (fun _ _ _ h => h) (Or.inl ⟨by kernel_rfl, ?h73⟩) ?r73
                  case h73 => intro w; go_simp; try (with_reducible rfl)
                  refine wpAny_take (i := 19) (v := undef) rfl (by kernel_rfl) (by kernel_rfl) (by kernel_rfl) (fun _ _ _ h => h) (Or.inr ⟨by kernel_rfl, rfl⟩) ?_
                  go_simp
                  refine wpAny_take (i := 20) (v := undef) rfl (by kernel_rfl) (by kernel_rfl) (by kernel_rfl) (fun _ _ _ h => h) (Or.inr ⟨by kernel_rfl, rfl⟩) ?_
                  go_simp
                  refine wpAny_take (i := 21) (v := undef) rfl (by kernel_rfl) (by kernel_rfl) (by kernel_rfl) (fun _ _ _ h => h) (Or.inr ⟨by kernel_rfl, rfl⟩) ?_
                  go_simp
                  refine wpAny_take (i := 22) (v := undef) rfl (by kernel_rfl) (by kernel_rfl) (by kernel_rfl) (fun _ _ _ h => h) (Or.inr ⟨by kernel_rfl, rfl⟩) ?_
                  go_simp
                  refine wpAny_take (i := 23) (v := undef) rfl (by kernel_rfl) (by kernel_rfl) (by kernel_rfl) (fun _ _ _ h => h) (Or.inr ⟨by kernel_rfl, rfl⟩) ?_
                  go_simp
                  refine wpAny_take (i := 24) (v := undef) rfl (by kernel_rfl) (by kernel_rfl) (by kernel_rfl) (fun _ _ _ h => h) (Or.inr ⟨by kernel_rfl, rfl⟩) ?_
                  go_simp
                  refine wpAny_take (i := 25) (v := undef) rfl (by kernel_rfl) (by kernel_rfl) (by kernel_rfl) (fun _ _ _ h => h) (Or.inr ⟨by kernel_rfl, rfl⟩) ?_
                  go_simp
                  refine wpAny_take (i := 26) (v := undef) rfl (by kernel_rfl) (by kernel_rfl) (by kernel_rfl) (fun _ _ _ h => h) (Or.inr ⟨by kernel_rfl, rfl⟩) ?_
                  go_simp
                  refine wpAny_take (i := 27) (v := undef) rfl (by kernel_rfl) (by kernel_rfl) (by kernel_rfl) (fun _ _ _ h => h) (Or.inr ⟨by kernel_rfl, rfl⟩) ?_
                  go_simp
                  refine wpAny_take (i := 28) (v := undef) rfl (by kernel_rfl) (by kernel_rfl) (by kernel_rfl) (fun _ _ _ h => h) (Or.inr ⟨by kernel_rfl, rfl⟩) ?_
                  go_simp
                  refine wpAny_take (i := 29) (v := undef) rfl (by kernel_rfl) (by kernel_rfl) (by kernel_rfl) (fun _ _ _ h => h) (Or.inr ⟨by kernel_rfl, rfl⟩) ?_
                  go_simp
                  refine wpAny_take (i := 30) (v := undef) rfl (by kernel_rfl) (by kernel_rfl) (by kernel_rfl) (fun _ _ _ h => h) (Or.inr ⟨by kernel_rfl, rfl⟩) ?_
                  go_simp
                  refine wpAny_take (i := 31) (v := undef) rfl (by kernel_rfl) (by kernel_rfl) (by kernel_rfl) (fun _ _ _ h => h) (Or.inr ⟨by kernel_rfl, rfl⟩) ?_
                  go_simp
                  refine wpAny_take (i := 32) (v := undef) rfl (by kernel_rfl) (by kernel_rfl) (by kernel_rfl) (fun _ _ _ h => h) (Or.inr ⟨by kernel_rfl, rfl⟩) ?_
                  go_simp
                  refine wpAny_take (i := 33) (v := ?v74) rfl (by kernel_rfl) (by kernel_rfl) (by kernel_rfl) (fun _ _ _ h => h) (Or.inl ⟨by kernel_rfl, ?h74⟩) ?r74
                  case h74 => intro w; go_simp; try (with_reducible rfl)
                  refine wpAny_done (by kernel_rfl) ?_ _
                  go_wp2
                  go_ret
                  exact ⟨by rw [HF.out]; rfl, b0.trans ((HWR.out _ hB1).mono (by omega))⟩
                exact AllReady.nil
              exact AllReady.nil
            exact AllReady.nil
          · have w2' : ((ln : Int) == 0) = false := by rw [beq_eq_false_iff_ne]; omega
            cases w3 : postSp tv true 0 l with
            | true =>
              have HW3 : Hid (∀ W, (kRow kPosting).is false W TL [.slice la ln lc] l → Calls Try.prog 58 #[.slice la ln lc, .int .i64 tx] W fun e w' => e = .returned (.bool true) ∧ Below W.heap.size W w') := fun W h => by have := l10List_k l la _ lc TL tx tv W h HTV.out; rw [w3] at this; exact this
              cases w4 : lessB x' x with
              | true =>
                have w4' : Op.bytesLess x'.toList x.toList = true := w4
                have HI2 : Hid ((entSp tv false x (es.drop (k + 1)) && tl) = q) := by have := HI1.out; rw [w1, w3, w4, isEmpty_len, decide_eq_false (by rw [← HLN.out]; exact w2), HK.out] at this; exact this
                clear HI1 w1 w2 w3 w4
                go_wp2_with fail
                rw [← hO]
                clear hO
                go_region_held3 (fun w' => w'.cell? ⟨w.heap.size, 0, none⟩ = some (.int .i64 tx) ∧ w'.cell? ⟨w.heap.size, 1, none⟩ = some (.slice (some ⟨b, off, none⟩) n c) ∧ w'.cell? ⟨wr.heap.size, 0, none⟩ = some (.string x) ∧ w'.cell? ⟨wr.heap.size, 1, none⟩ = some (.slice la ln lc) ∧ w'.cell? ⟨b, off + ip * 2, none⟩ = some (.string x'))
                  (first | exact HSK.out _ (Below.refl _ _) | exact HSK.out _ (Below.refl _ _).drew | exact HSK.out _ hB1 | exact HSK.out _ hB1.drew | exact HSK.out _ hB2)
                  (first | (go_at_call 57; refine (HW1.out _).mono ?_; rintro e w1 ⟨rfl, hb1⟩; have hB1 : Below (wr.alloc O).heap.size (wr.alloc O) w1 := (Below.refl _ _).drew.trans hb1) | (go_at_call 58; refine (HW3.out _ (Kd.below HL.out hB1)).mono ?_; rintro e w2 ⟨rfl, hb2⟩; have hB2 : Below (wr.alloc O).heap.size (wr.alloc O) w2 := hB1.trans (hb2.mono hB1.size)))
                go_wp2
                go_roundw
                case rel => exact ⟨k + 1, x, by omega, by go_num, by rw [decide_eq_false (by omega)]; exact HI2, fun x' l' _ h => by have h1 := HX.out; rw [show k + 1 - 1 = k by omega, h1] at h; cases h; rfl, HWR.out _ hB2⟩
                case measure => simp [intOf]; omega
              | false =>
                have w4' : Op.bytesLess x'.toList x.toList = false := w4
                have HF : Hid (q = false) := by have := HI1.out; rw [w1, w3, w4, isEmpty_len, decide_eq_false (by rw [← HLN.out]; exact w2), HK.out] at this; exact this.symm
                clear HI1
                go_wp2_with fail
                rw [← hO]
                clear hO
                go_region_held3 (fun w' => w'.cell? ⟨w.heap.size, 0, none⟩ = some (.int .i64 tx) ∧ w'.cell? ⟨w.heap.size, 1, none⟩ = some (.slice (some ⟨b, off, none⟩) n c) ∧ w'.cell? ⟨wr.heap.size, 0, none⟩ = some (.string x) ∧ w'.cell? ⟨wr.heap.size, 1, none⟩ = some (.slice la ln lc) ∧ w'.cell? ⟨b, off + ip * 2, none⟩ = some (.string x'))
                  (first | exact HSK.out _ (Below.refl _ _) | exact HSK.out _ (Below.refl _ _).drew | exact HSK.out _ hB1 | exact HSK.out _ hB1.drew | exact HSK.out _ hB2)
                  (first | (go_at_call 57; refine (HW1.out _).mono ?_; rintro e w1 ⟨rfl, hb1⟩; have hB1 : Below (wr.alloc O).heap.size (wr.alloc O) w1 := (Below.refl _ _).drew.trans hb1) | (go_at_call 58; refine (HW3.out _ (Kd.below HL.out hB1)).mono ?_; rintro e w2 ⟨rfl, hb2⟩; have hB2 : Below (wr.alloc O).heap.size (wr.alloc O) w2 := hB1.trans (hb2.mono hB1.size)))
                go_wp2
                go_ret
                exact ⟨by rw [HF.out]; rfl, b0.trans ((HWR.out _ hB2).mono (by omega))⟩
            | false =>
              have HW3 : Hid (∀ W, (kRow kPosting).is false W TL [.slice la ln lc] l → Calls Try.prog 58 #[.slice la ln lc, .int .i64 tx] W fun e w' => e = .returned (.bool false) ∧ Below W.heap.size W w') := fun W h => by have := l10List_k l la _ lc TL tx tv W h HTV.out; rw [w3] at this; exact this
              have HF : Hid (q = false) := by have := HI1.out; rw [w1, w3, isEmpty_len, decide_eq_false (by rw [← HLN.out]; exact w2)] at this; exact this.symm
              clear HI1
              go_wp2_with fail
              rw [← hO]
              clear hO
              obtain ⟨y0, y1, y2, y3, y4⟩ := HSK.out _ (Below.refl _ _)
              refine wp_region_any (by kernel_rfl) ?_
              change wpAny _ _ _ _ _ _ _ (World.drew _)
              refine wpAny_take (i := 0) (v := ?v75) rfl (by kernel_rfl) (by kernel_rfl) (by kernel_rfl) (fun _ _ _ h => h) (Or.inl ⟨by kernel_rfl, ?h75⟩) ?r75
              case h75 => intro w; go_simp; try (with_reducible rfl)
              refine wpAny_ready (rs := [1]) (by kernel_rfl) (by simp) ?_
              refine AllReady.cons rfl (fun K hK => ?_) ?_
              · go_simp
                refine hK _ _ ?_
                clear hK K
                refine wpAny_ready (rs := [2]) (by kernel_rfl) (by simp) ?_
                refine AllReady.cons rfl (fun K hK => ?_) ?_
                · go_simp
                  go_wp2_with ((go_at_call 57; refine (HW1.out _).mono ?_; rintro e w1 ⟨rfl, hb1⟩; have hB1 : Below (wr.alloc O).heap.size (wr.alloc O) w1 := (Below.refl _ _).drew.trans hb1; obtain ⟨p0, p1, p2, p3, p4⟩ := HSK.out _ hB1))
                  refine wpAny_take (i := 3) (v := ?v76) rfl (by kernel_rfl) (by kernel_rfl) (by kernel_rfl) (fun _ _ _ h => h) (Or.inl ⟨by kernel_rfl, ?h76⟩) ?r76
                  case h76 => intro w; go_simp; try (with_reducible rfl)
                  refine wpAny_take (i := 4) (v := ?v77) rfl (by kernel_rfl) (by kernel_rfl) (by kernel_rfl) (fun _ _ _ h => h) (Or.inl ⟨by kernel_rfl, ?h77⟩) ?r77
                  case h77 => intro w; go_simp; try (with_reducible rfl)
                  refine wpAny_take (i := 5) (v := ?v78) rfl (by kernel_rfl) (by kernel_rfl) (by kernel_rfl) (fun _ _ _ h => h) (Or.inl ⟨by kernel_rfl, ?h78⟩) ?r78
                  case h78 => intro w; go_simp; try (with_reducible rfl)
                  refine wpAny_ready (rs := [6]) (by kernel_rfl) (by simp) ?_
                  refine AllReady.cons rfl (fun K hK => ?_) ?_
                  · go_simp
                    refine hK _ _ ?_
                    clear hK K
                    refine wpAny_take (i := 7) (v := ?v79) rfl (by kernel_rfl) (by kernel_rfl) (by kernel_rfl) (fun _ _ _ h => h) (Or.inl ⟨by kernel_rfl, ?h79⟩) ?r79
                    case h79 => intro w; go_simp; try (with_reducible rfl)
                    refine wpAny_take (i := 8) (v := ?v80) rfl (by kernel_rfl) (by kernel_rfl) (by kernel_rfl) (fun _ _ _ h => h) (Or.inl ⟨by kernel_rfl, ?h80⟩) ?r80
                    case h80 => intro w; go_simp; try (with_reducible rfl)
                    refine wpAny_take (i := 9) (v := ?v81) rfl (by kernel_rfl) (by kernel_rfl) (by kernel_rfl) (fun _ _ _ h => h) (Or.inl ⟨by kernel_rfl, ?h81⟩) ?r81
                    case h81 => intro w; go_simp; try (with_reducible rfl)
                    refine wpAny_take (i := 10) (v := ?v82) rfl (by kernel_rfl) (by kernel_rfl) (by kernel_rfl) (fun _ _ _ h => h) (Or.inl ⟨by kernel_rfl, ?h82⟩) ?r82
                    case h82 => intro w; go_simp; try (with_reducible rfl)
                    refine wpAny_take (i := 11) (v := ?v83) rfl (by kernel_rfl) (by kernel_rfl) (by kernel_rfl) (fun _ _ _ h => h) (Or.inl ⟨by kernel_rfl, ?h83⟩) ?r83
                    case h83 => intro w; go_simp; try (with_reducible rfl)
                    refine wpAny_take (i := 13) (v := ?v84) rfl (by kernel_rfl) (by kernel_rfl) (by kernel_rfl) (fun _ _ _ h => h) (Or.inl ⟨by kernel_rfl, ?h84⟩) ?r84
                    case h84 => intro w; go_simp; try (with_reducible rfl)
                    refine wpAny_ready (rs := [12, 14]) (by kernel_rfl) (by simp) ?_
                    refine AllReady.cons rfl (fun K hK => ?_) ?_
                    · go_simp
                      refine hK _ _ ?_
                      clear hK K
                      refine wpAny_ready (rs := [14]) (by kernel_rfl) (by simp) ?_
                      refine AllReady.cons rfl (fun K hK => ?_) ?_
                      · go_simp
                        refine hK _ _ ?_
                        clear hK K
                        refine wpAny_ready (rs := [15]) (by kernel_rfl) (by simp) ?_
                        refine AllReady.cons rfl (fun K hK => ?_) ?_
                        · go_simp
                          go_wp2_with ((go_at_call 58; refine (HW3.out _ (Kd.below HL.out hB1)).mono ?_; rintro e w2 ⟨rfl, hb2⟩; have hB2 : Below (wr.alloc O).heap.size (wr.alloc O) w2 := hB1.trans (hb2.mono hB1.size); obtain ⟨r0, r1, r2, r3, r4⟩ := HSK.out _ hB2))
                          refine wpAny_take (i := 16) (v := ?v85) rfl (by kernel_rfl) (by kernel_rfl) (by kernel_rfl) (fun _ _ _ h => h) (Or.inl ⟨by kernel_rfl, ?h85⟩) ?r85
                          case h85 => intro w; go_simp; try (with_reducible rfl)
                          refine wpAny_take (i := 17) (v := ?v86) rfl (by kernel_rfl) (by kernel_rfl) (by kernel_rfl) (fun _ _ _ h => h) (Or.inl ⟨by kernel_rfl, ?h86⟩) ?r86
                          case h86 => intro w; go_simp; try (with_reducible rfl)
                          refine wpAny_take (i := 18) (v := ?v87) rfl (by kernel_rfl) (by kernel_rfl) (by kernel_rfl) (fun _ _ _ h => h) (Or.inl ⟨by kernel_rfl, ?h87⟩) ?r87
                          case h87 => intro w; go_simp; try (with_reducible rfl)
                          refine wpAny_take (i := 19) (v := undef) rfl (by kernel_rfl) (by kernel_rfl) (by kernel_rfl) (fun _ _ _ h => h) (Or.inr ⟨by kernel_rfl, rfl⟩) ?_
                          go_simp
                          refine wpAny_take (i := 20) (v := undef) rfl (by kernel_rfl) (by kernel_rfl) (by kernel_rfl) (fun _ _ _ h => h) (Or.inr ⟨by kernel_rfl, rfl⟩) ?_
                          go_simp
                          refine wpAny_take (i := 21) (v := undef) rfl (by kernel_rfl) (by kernel_rfl) (by kernel_rfl) (fun _ _ _ h => h) (Or.inr ⟨by kernel_rfl, rfl⟩) ?_
                          go_simp
                          refine wpAny_take (i := 22) (v := undef) rfl (by kernel_rfl) (by kernel_rfl) (by kernel_rfl) (fun _ _ _ h => h) (Or.inr ⟨by kernel_rfl, rfl⟩) ?_
                          go_simp
                          refine wpAny_take (i := 23) (v := undef) rfl (by kernel_rfl) (by kernel_rfl) (by kernel_rfl) (fun _ _ _ h => h) (Or.inr ⟨by kernel_rfl, rfl⟩) ?_
                          go_simp
                          refine wpAny_take (i := 24) (v := undef) rfl (by kernel_rfl) (by kernel_rfl) (by kernel_rfl) (fun _ _ _ h => h) (Or.inr ⟨by kernel_rfl, rfl⟩) ?_
                          go_simp
                          refine wpAny_take (i := 25) (v := undef) rfl (by kernel_rfl) (by kernel_rfl) (by kernel_rfl) (fun _ _ _ h => h) (Or.inr ⟨by kernel_rfl, rfl⟩) ?_
                          go_simp
                          refine wpAny_take (i := 26) (v := undef) rfl (by kernel_rfl) (by kernel_rfl) (by kernel_rfl) (fun _ _ _ h => h) (Or.inr ⟨by kernel_rfl, rfl⟩) ?_
                          go_simp
                          refine wpAny_take (i := 27) (v := undef) rfl (by kernel_rfl) (by kernel_rfl) (by kernel_rfl) (fun _ _ _ h => h) (Or.inr ⟨by kernel_rfl, rfl⟩) ?_
                          go_simp
                          refine wpAny_take (i := 28) (v := undef) rfl (by kernel_rfl) (by kernel_rfl) (by kernel_rfl) (fun _ _ _ h => h) (Or.inr ⟨by kernel_rfl, rfl⟩) ?_
                          go_simp
                          refine wpAny_take (i := 29) (v := undef) rfl (by kernel_rfl) (by kernel_rfl) (by kernel_rfl) (fun _ _ _ h => h) (Or.inr ⟨by kernel_rfl, rfl⟩) ?_
                          go_simp
                          refine wpAny_take (i := 30) (v := undef) rfl (by kernel_rfl) (by kernel_rfl) (by kernel_rfl) (fun _ _ _ h => h) (Or.inr ⟨by kernel_rfl, rfl⟩) ?_
                          go_simp
                          refine wpAny_take (i := 31) (v := undef) rfl (by kernel_rfl) (by kernel_rfl) (by kernel_rfl) (fun _ _ _ h => h) (Or.inr ⟨by kernel_rfl, rfl⟩) ?_
                          go_simp
                          refine wpAny_take (i := 32) (v := undef) rfl (by kernel_rfl) (by kernel_rfl) (by kernel_rfl) (fun _ _ _ h => h) (Or.inr ⟨by kernel_rfl, rfl⟩) ?_
                          go_simp
                          refine wpAny_take (i := 33) (v := ?v88) rfl (by kernel_rfl) (by kernel_rfl) (by kernel_rfl) (fun _ _ _ h => h) (Or.inl ⟨by kernel_rfl, ?h88⟩) ?r88
                          case h88 => intro w; go_simp; try (with_reducible rfl)
                          refine wpAny_done (by kernel_rfl) ?_ _
                          go_wp2
                          go_ret
                          exact ⟨by rw [HF.out]; rfl, b0.trans ((HWR.out _ hB2).mono (by omega))⟩
                        exact AllReady.nil
                      exact AllReady.nil
                    refine AllReady.cons rfl (fun K hK => ?_) ?_
                    · go_simp
                      refine hK _ _ ?_
                      clear hK K
                      refine wpAny_ready (rs := [12]) (by kernel_rfl) (by simp) ?_
                      refine AllReady.cons rfl (fun K hK => ?_) ?_
                      · go_simp
                        refine hK _ _ ?_
                        clear hK K
                        refine wpAny_ready (rs := [15]) (by kernel_rfl) (by simp) ?_
                        refine AllReady.cons rfl (fun K hK => ?_) ?_
                        · go_simp
                          go_wp2_with ((go_at_call 58; refine (HW3.out _ (Kd.below HL.out hB1)).mono ?_; rintro e w2 ⟨rfl, hb2⟩; have hB2 : Below (wr.alloc O).heap.size (wr.alloc O) w2 := hB1.trans (hb2.mono hB1.size); obtain ⟨r0, r1, r2, r3, r4⟩ := HSK.out _ hB2))
                          refine wpAny_take (i := 16) (v := ?v89) rfl (by kernel_rfl) (by kernel_rfl) (by kernel_rfl) (fun _ _ _ h => h) (Or.inl ⟨by kernel_rfl, ?h89⟩) ?r89
                          case h89 => intro w; go_simp; try (with_reducible rfl)
                          refine wpAny_take (i := 17) (v := ?v90) rfl (by kernel_rfl) (by kernel_rfl) (by kernel_rfl) (fun _ _ _ h => h) (Or.inl ⟨by kernel_rfl, ?h90⟩) ?r90
                          case h90 => intro w; go_simp; try (with_reducible rfl)
                          refine wpAny_take (i := 18) (v := ?v91) rfl (by kernel_rfl) (by kernel_rfl) (by kernel_rfl) (fun _ _ _ h => h) (Or.inl ⟨by kernel_rfl, ?h91⟩) ?r91
                          case h91 => intro w; go_simp; try (with_reducible rfl)
                          refine wpAny_take (i := 19) (v := undef) rfl (by kernel_rfl) (by kernel_rfl) (by kernel_rfl) (fun _ _ _ h => h) (Or.inr ⟨by kernel_rfl, rfl⟩) ?_
                          go_simp
                          refine wpAny_take (i := 20) (v := undef) rfl (by kernel_rfl) (by kernel_rfl) (by kernel_rfl) (fun _ _ _ h => h) (Or.inr ⟨by kernel_rfl, rfl⟩) ?_
                          go_simp
                          refine wpAny_take (i := 21) (v := undef) rfl (by kernel_rfl) (by kernel_rfl) (by kernel_rfl) (fun _ _ _ h => h) (Or.inr ⟨by kernel_rfl, rfl⟩) ?_
                          go_simp
                          refine wpAny_take (i := 22) (v := undef) rfl (by kernel_rfl) (by kernel_rfl) (by kernel_rfl) (fun _ _ _ h => h) (Or.inr ⟨by kernel_rfl, rfl⟩) ?_
                          go_simp
                          refine wpAny_take (i := 23) (v := undef) rfl (by kernel_rfl) (by kernel_rfl) (by kernel_rfl) (fun _ _ _ h => h) (Or.inr ⟨by kernel_rfl, rfl⟩) ?_
                          go_simp
                          refine wpAny_take (i := 24) (v := undef) rfl (by kernel_rfl) (by kernel_rfl) (by kernel_rfl) (fun _ _ _ h => h) (Or.inr ⟨by kernel_rfl, rfl⟩) ?_
                          go_simp
                          refine wpAny_take (i := 25) (v := undef) rfl (by kernel_rfl) (by kernel_rfl) (by kernel_rfl) (fun _ _ _ h => h) (Or.inr ⟨by kernel_rfl, rfl⟩) ?_
                          go_simp
                          refine wpAny_take (i := 26) (v := undef) rfl (by kernel_rfl) (by kernel_rfl) (by kernel_rfl) (fun _ _ _ h => h) (Or.inr ⟨by kernel_rfl, rfl⟩) ?_
                          go_simp
                          refine wpAny_take (i := 27) (v := undef) rfl (by kernel_rfl) (by kernel_rfl) (by kernel_rfl) (fun _ _ _ h => h) (Or.inr ⟨by kernel_rfl, rfl⟩) ?_
                          go_simp
                          refine wpAny_take (i := 28) (v := undef) rfl (by kernel_rfl) (by kernel_rfl) (by kernel_rfl) (fun _ _ _ h => h) (Or.inr ⟨by kernel_rfl, rfl⟩) ?_
                          go_simp
                          refine wpAny_take (i := 29) (v := undef) rfl (by kernel_rfl) (by kernel_rfl) (by kernel_rfl) (fun _ _ _ h => h) (Or.inr ⟨by kernel_rfl, rfl⟩) ?_
                          go_simp
                          refine wpAny_take (i := 30) (v := undef) rfl (by kernel_rfl) (by kernel_rfl) (by kernel_rfl) (fun _ _ _ h => h) (Or.inr ⟨by kernel_rfl, rfl⟩) ?_
                          go_simp
                          refine wpAny_take (i := 31) (v := undef) rfl (by kernel_rfl) (by kernel_rfl) (by kernel_rfl) (fun _ _ _ h => h) (Or.inr ⟨by kernel_rfl, rfl⟩) ?_
                          go_simp
                          refine wpAny_take (i := 32) (v := undef) rfl (by kernel_rfl) (by kernel_rfl) (by kernel_rfl) (fun _ _ _ h => h) (Or.inr ⟨by kernel_rfl, rfl⟩) ?_
                          go_simp
                          refine wpAny_take (i := 33) (v := ?v92) rfl (by kernel_rfl) (by kernel_rfl) (by kernel_rfl) (fun _ _ _ h => h) (Or.inl ⟨by kernel_rfl, ?h92⟩) ?r92
                          case h92 => intro w; go_simp; try (with_reducible rfl)
                          refine wpAny_done (by kernel_rfl) ?_ _
                          go_wp2
                          go_ret
                          exact ⟨by rw [HF.out]; rfl, b0.trans ((HWR.out _ hB2).mono (by omega))⟩
                        exact AllReady.nil
                      exact AllReady.nil
                    exact AllReady.nil
                  exact AllReady.nil
                exact AllReady.nil
              exact AllReady.nil
        | false =>
          have HW1 : Hid (∀ W, Calls Try.prog 57 #[.string x] W fun e w' => e = .returned (.bool false) ∧ Below W.heap.size W w') := fun W => by have := l10Word_k x W HXS.out; rw [w1] at this; exact this
          have HF : Hid (q = false) := by have := HI1.out; rw [w1] at this; exact this.symm
          clear HI1
          go_wp2_with fail
          rw [← hO]
          clear hO
          obtain ⟨y0, y1, y2, y3, y4⟩ := HSK.out _ (Below.refl _ _)
          refine wp_region_any (by kernel_rfl) ?_
          change wpAny _ _ _ _ _ _ _ (World.drew _)
          refine wpAny_take (i := 0) (v := ?v93) rfl (by kernel_rfl) (by kernel_rfl) (by kernel_rfl) (fun _ _ _ h => h) (Or.inl ⟨by kernel_rfl, ?h93⟩) ?r93
          case h93 => intro w; go_simp; try (with_reducible rfl)
          refine wpAny_ready (rs := [1]) (by kernel_rfl) (by simp) ?_
          refine AllReady.cons rfl (fun K hK => ?_) ?_
          · go_simp
            refine hK _ _ ?_
            clear hK K
            refine wpAny_ready (rs := [2]) (by kernel_rfl) (by simp) ?_
            refine AllReady.cons rfl (fun K hK => ?_) ?_
            · go_simp
              go_wp2_with ((go_at_call 57; refine (HW1.out _).mono ?_; rintro e w1 ⟨rfl, hb1⟩; have hB1 : Below (wr.alloc O).heap.size (wr.alloc O) w1 := (Below.refl _ _).drew.trans hb1; obtain ⟨p0, p1, p2, p3, p4⟩ := HSK.out _ hB1))
              refine wpAny_take (i := 3) (v := ?v94) rfl (by kernel_rfl) (by kernel_rfl) (by kernel_rfl) (fun _ _ _ h => h) (Or.inl ⟨by kernel_rfl, ?h94⟩) ?r94
              case h94 => intro w; go_simp; try (with_reducible rfl)
              refine wpAny_take (i := 4) (v := ?v95) rfl (by kernel_rfl) (by kernel_rfl) (by kernel_rfl) (fun _ _ _ h => h) (Or.inl ⟨by kernel_rfl, ?h95⟩) ?r95
              case h95 => intro w; go_simp; try (with_reducible rfl)
              refine wpAny_take (i := 5) (v := undef) rfl (by kernel_rfl) (by kernel_rfl) (by kernel_rfl) (fun _ _ _ h => h) (Or.inr ⟨by kernel_rfl, rfl⟩) ?_
              go_simp
              refine wpAny_take (i := 6) (v := undef) rfl (by kernel_rfl) (by kernel_rfl) (by kernel_rfl) (fun _ _ _ h => h) (Or.inr ⟨by kernel_rfl, rfl⟩) ?_
              go_simp
              refine wpAny_take (i := 7) (v := undef) rfl (by kernel_rfl) (by kernel_rfl) (by kernel_rfl) (fun _ _ _ h => h) (Or.inr ⟨by kernel_rfl, rfl⟩) ?_
              go_simp
              refine wpAny_take (i := 8) (v := undef) rfl (by kernel_rfl) (by kernel_rfl) (by kernel_rfl) (fun _ _ _ h => h) (Or.inr ⟨by kernel_rfl, rfl⟩) ?_
              go_simp
              refine wpAny_take (i := 9) (v := ?v96) rfl (by kernel_rfl) (by kernel_rfl) (by kernel_rfl) (fun _ _ _ h => h) (Or.inl ⟨by kernel_rfl, ?h96⟩) ?r96
              case h96 => intro w; go_simp; try (with_reducible rfl)
              refine wpAny_take (i := 10) (v := ?v97) rfl (by kernel_rfl) (by kernel_rfl) (by kernel_rfl) (fun _ _ _ h => h) (Or.inl ⟨by kernel_rfl, ?h97⟩) ?r97
              case h97 => intro w; go_simp; try (with_reducible rfl)
              refine wpAny_take (i := 11) (v := undef) rfl (by kernel_rfl) (by kernel_rfl) (by kernel_rfl) (fun _ _ _ h => h) (Or.inr ⟨by kernel_rfl, rfl⟩) ?_
              go_simp
              refine wpAny_take (i := 12) (v := undef) rfl (by kernel_rfl) (by kernel_rfl) (by kernel_rfl) (fun _ _ _ h => h) (Or.inr ⟨by kernel_rfl, rfl⟩) ?_
              go_simp
              refine wpAny_take (i := 13) (v := undef) rfl (by kernel_rfl) (by kernel_rfl) (by kernel_rfl) (fun _ _ _ h => h) (Or.inr ⟨by kernel_rfl, rfl⟩) ?_
              go_simp
              refine wpAny_take (i := 14) (v := undef) rfl (by kernel_rfl) (by kernel_rfl) (by kernel_rfl) (fun _ _ _ h => h) (Or.inr ⟨by kernel_rfl, rfl⟩) ?_
              go_simp
              refine wpAny_take (i := 15) (v := undef) rfl (by kernel_rfl) (by kernel_rfl) (by kernel_rfl) (fun _ _ _ h => h) (Or.inr ⟨by kernel_rfl, rfl⟩) ?_
              go_simp
              refine wpAny_take (i := 16) (v := undef) rfl (by kernel_rfl) (by kernel_rfl) (by kernel_rfl) (fun _ _ _ h => h) (Or.inr ⟨by kernel_rfl, rfl⟩) ?_
              go_simp
              refine wpAny_take (i := 17) (v := ?v98) rfl (by kernel_rfl) (by kernel_rfl) (by kernel_rfl) (fun _ _ _ h => h) (Or.inl ⟨by kernel_rfl, ?h98⟩) ?r98
              case h98 => intro w; go_simp; try (with_reducible rfl)
              refine wpAny_take (i := 18) (v := ?v99) rfl (by kernel_rfl) (by kernel_rfl) (by kernel_rfl) (fun _ _ _ h => h) (Or.inl ⟨by kernel_rfl, ?h99⟩) ?r99
              case h99 => intro w; go_simp; try (with_reducible rfl)
              refine wpAny_take (i := 19) (v := undef) rfl (by kernel_rfl) (by kernel_rfl) (by kernel_rfl) (fun _ _ _ h => h) (Or.inr ⟨by kernel_rfl, rfl⟩) ?_
              go_simp
              refine wpAny_take (i := 20) (v := undef) rfl (by kernel_rfl) (by kernel_rfl) (by kernel_rfl) (fun _ _ _ h => h) (Or.inr ⟨by kernel_rfl, rfl⟩) ?_
              go_simp
              refine wpAny_take (i := 21) (v := undef) rfl (by kernel_rfl) (by kernel_rfl) (by kernel_rfl) (fun _ _ _ h => h) (Or.inr ⟨by kernel_rfl, rfl⟩) ?_
              go_simp
              refine wpAny_take (i := 22) (v := undef) rfl (by kernel_rfl) (by kernel_rfl) (by kernel_rfl) (fun _ _ _ h => h) (Or.inr ⟨by kernel_rfl, rfl⟩) ?_
              go_simp
              refine wpAny_take (i := 23) (v := undef) rfl (by kernel_rfl) (by kernel_rfl) (by kernel_rfl) (fun _ _ _ h => h) (Or.inr ⟨by kernel_rfl, rfl⟩) ?_
              go_simp
              refine wpAny_take (i := 24) (v := undef) rfl (by kernel_rfl) (by kernel_rfl) (by kernel_rfl) (fun _ _ _ h => h) (Or.inr ⟨by kernel_rfl, rfl⟩) ?_
              go_simp
              refine wpAny_take (i := 25) (v := undef) rfl (by kernel_rfl) (by kernel_rfl) (by kernel_rfl) (fun _ _ _ h => h) (Or.inr ⟨by kernel_rfl, rfl⟩) ?_
              go_simp
              refine wpAny_take (i := 26) (v := undef) rfl (by kernel_rfl) (by kernel_rfl) (by kernel_rfl) (fun _ _ _ h => h) (Or.inr ⟨by kernel_rfl, rfl⟩) ?_
              go_simp
              refine wpAny_take (i := 27) (v := undef) rfl (by kernel_rfl) (by kernel_rfl) (by kernel_rfl) (fun _ _ _ h => h) (Or.inr ⟨by kernel_rfl, rfl⟩) ?_
              go_simp
              refine wpAny_take (i := 28) (v := undef) rfl (by kernel_rfl) (by kernel_rfl) (by kernel_rfl) (fun _ _ _ h => h) (Or.inr ⟨by kernel_rfl, rfl⟩) ?_
              go_simp
              refine wpAny_take (i := 29) (v := undef) rfl (by kernel_rfl) (by kernel_rfl) (by kernel_rfl) (fun _ _ _ h => h) (Or.inr ⟨by kernel_rfl, rfl⟩) ?_
              go_simp
              refine wpAny_take (i := 30) (v := undef) rfl (by kernel_rfl) (by kernel_rfl) (by kernel_rfl) (fun _ _ _ h => h) (Or.inr ⟨by kernel_rfl, rfl⟩) ?_
              go_simp
              refine wpAny_take (i := 31) (v := undef) rfl (by kernel_rfl) (by kernel_rfl) (by kernel_rfl) (fun _ _ _ h => h) (Or.inr ⟨by kernel_rfl, rfl⟩) ?_
              go_simp
              refine wpAny_take (i := 32) (v := undef) rfl (by kernel_rfl) (by kernel_rfl) (by kernel_rfl) (fun _ _ _ h => h) (Or.inr ⟨by kernel_rfl, rfl⟩) ?_
              go_simp
              refine wpAny_take (i := 33) (v := ?v100) rfl (by kernel_rfl) (by kernel_rfl) (by kernel_rfl) (fun _ _ _ h => h) (Or.inl ⟨by kernel_rfl, ?h100⟩) ?r100
              case h100 => intro w; go_simp; try (with_reducible rfl)
              refine wpAny_done (by kernel_rfl) ?_ _
              go_wp2
              go_ret
              exact ⟨by rw [HF.out]; rfl, b0.trans ((HWR.out _ hB1).mono (by omega))⟩
            exact AllReady.nil
          exact AllReady.nil
    · have i1 : ¬ (k : Int) < (n : Int) := by omega
      have HF : Hid (tl = q) := by
        have := HI.out
        rw [show k = es.length by rw [← HN.out]; omega, List.drop_length, entSp, Bool.true_and] at this
        exact this
      have hb' : Below w.heap.size w wr := b0.trans (hnx.mono (by omega))
      by_cases c1 : 0 ≤ tx ∧ tx ≤ 40
      · have q1 : decide (0 ≤ tx ∧ tx ≤ 40) = true := decide_eq_true c1
        have HL1 : Hid (∀ W, Calls Try.prog 59 #[.int .i64 tx, .int .i64 0, .int .i64 40] W fun e w' => e = .returned (.bool true) ∧ w' = W) := fun W => l1In_is W q1
        have HF2 : Hid (decide ((n : Int) ≤ 200) = q) := by
          show _ = _
          rw [← HF.out, HTL.out, q1, ← HN.out, Bool.true_and]
          apply decide_eq_decide.2
          omega
        clear c1 q1 HI HP
        go_wp2_with fail
        refine (HL1.out _).mono ?_
        rintro e w1 ⟨rfl, rfl⟩
        go_wp2
        go_ret
        exact ⟨by rw [← HF2.out]; rfl, hb'⟩
      · have q1 : decide (0 ≤ tx ∧ tx ≤ 40) = false := decide_eq_false c1
        have HL1 : Hid (∀ W, Calls Try.prog 59 #[.int .i64 tx, .int .i64 0, .int .i64 40] W fun e w' => e = .returned (.bool false) ∧ w' = W) := fun W => l1In_is W q1
        have HF2 : Hid (q = false) := by
          show _ = _
          rw [← HF.out, HTL.out, q1]
          rfl
        clear c1 q1 HI HP
        go_wp2_with fail
        refine (HL1.out _).mono ?_
        rintro e w1 ⟨rfl, rfl⟩
        go_wp2
        go_ret
        exact ⟨by rw [HF2.out]; rfl, hb'⟩
end Go.Proofs.Ytikgcgfigcolmaa
