/- A good treap's pairs, by the specification: l7Of. -/
import Derived.Test.YtnmbnebofbdmfaaTpN
import Derived.Deep.DeepCutAuto
namespace Go.Proofs.Ytnmbnebofbdmfaa
open Go.RowKit
set_option linter.unusedVariables false

/-- What l7Of answers. -/
def PairsOfIs (L : List Lb) (w : World) (e : Ending) (w' : World) : Prop :=
  ((GoodL L ∧ ∃ (T : Bt) (v : Value), e = .returned (.tuple #[v, .bool true]) ∧ T.ok ∧ T.limbs 0 = L ∧ OwnsP w' w.heap.size v T.ino) ∨ (¬ GoodL L ∧ e = .returned (.tuple #[.slice none 0 0, .bool false]))) ∧ Below w.heap.size w w'
theorem PairsOfIs.no {L : List Lb} {w w' : World} (h : ¬ GoodL L) (hb : Below w.heap.size w w') : PairsOfIs L w (.returned (.tuple #[.slice none 0 0, .bool false])) w' := ⟨.inr ⟨h, rfl⟩, hb⟩

/-- Which numbers have been told. -/
def BoolsAt (w : World) (g n : Nat) (U : Nat → Bool) : Prop := ∀ i, i < n → w.cell? ⟨g, i, none⟩ = some (.bool (U i)) ∧ w.frozen? ⟨g, i, none⟩ = false
theorem BoolsAt.below {w w' : World} {B g n : Nat} {U : Nat → Bool} (h : BoolsAt w g n U) (hb : Below B w w') (hg : g < B) : BoolsAt w' g n U := fun i hi => ⟨(hb.cell hg).trans (h i hi).1, (hb.frozen hg).trans (h i hi).2⟩
theorem BoolsAt.set {w : World} {g n k : Nat} {U : Nat → Bool} (h : BoolsAt w g n U) (hk : k < n) : BoolsAt (w.setCell ⟨g, k, none⟩ (.bool true)) g n (fun i => if i = k then true else U i) := fun i hi => by
  rw [cell_set (by rw [(h k hk).1]; rfl), World.frozen?_setCell]
  refine ⟨?_, (h i hi).2⟩
  by_cases e : i = k
  · simp [e]
  · simp [e, (h i hi).1]
theorem infoBool : (Try.prog.info? 4).map (fun i => (i.zero, i.size, i.bytes)) = some (some (.bool false), 1, 1) := by kernel_rfl
theorem make_bools (n : Nat) (hn : n ≤ 2 ^ 30) (W : World) : (Instr.makeSlice 54 (.int .i64 (n : Int)) (.int .i64 (n : Int))).run Try.prog W = .ok (.slice (some ⟨W.heap.size, 0, none⟩) n n) (W.alloc (.cells (madeCells #[.bool false] n) 4)) := by
  obtain ⟨i0, hi, hz0, hz1, hz2⟩ := info_parts infoBool
  have h := run_make (P := Try.prog) W 54 4 i0 _ Try.underlying54 hi hz0 .i64 .i64 n n (by omega) (by omega) (by rw [hz2]; omega) (by omega)
  rw [hz1] at h
  simpa [Value.cells] using h
theorem bools_made (n : Nat) (W : World) (T : TypeId) : BoolsAt (W.alloc (.cells (madeCells #[.bool false] n) T)) W.heap.size n (fun _ => false) := fun i hi => by
  refine ⟨?_, World.frozen?_alloc_new _ _ _ _⟩
  rw [World.cell?_alloc_new]
  simp [madeCells, hi, Nat.mod_one]

set_option maxRecDepth 100000 in
set_option maxHeartbeats 8000000 in
theorem l7Of_any (L : List Lb) (v : Value) (w : World) (h : RowIs w w.heap.size v L.length (lbAt L)) (hL : L.length ≤ 2 ^ 20) (hz : ∀ x ∈ L, x.key.size ≤ 2 ^ 20 ∧ x.val.size ≤ 2 ^ 20) :
    Calls Try.prog 12 #[.agg #[v]] w (PairsOfIs L w) := by
  obtain ⟨a, c, rfl, hn40, hr⟩ := h
  obtain ⟨n, hn⟩ : ∃ n, n = L.length := ⟨_, rfl⟩
  have HN : Hid (n = L.length) := hn
  have HROW : Hid (n = 0 ∨ ∃ b off, a = some ⟨b, off, none⟩ ∧ b < w.heap.size ∧ LimbsAt w b off n (lbAt L)) := by rw [hn]; exact hr
  rw [← hn] at hL hn40 ⊢
  have HZ : Hid (∀ i, (lbAt L i).key.size ≤ 2 ^ 20 ∧ (lbAt L i).val.size ≤ 2 ^ 20) := fun i => by
    by_cases hi : i < L.length
    · rw [lbAt_get hi]; exact hz _ (List.getElem_mem hi)
    · unfold lbAt
      rw [List.getD_eq_getElem?_getD, List.getElem?_eq_none (by omega)]
      exact ⟨by decide, by decide⟩
  clear hz hr hn
  by_cases hn0 : n = 0
  · have HG : Hid (L = []) := List.eq_nil_of_length_eq_zero (by rw [← HN.out]; exact hn0)
    have HR : Hid (GoodL L ∧ ∃ T : Bt, T.ok ∧ T.limbs 0 = L ∧ T.ino = []) := by
      have e := HG.out
      exact ⟨⟨by rw [e]; simp, by rw [e]; simp, .nil, ⟨List.Pairwise.nil, trivial⟩, by rw [e]; rfl⟩, .nil, ⟨List.Pairwise.nil, trivial⟩, by rw [e]; rfl, rfl⟩
    subst hn0
    go_enter Try.func12, Try.ntmps12
    go_wp2
    obtain ⟨h1, T, h2, h3, h4⟩ := HR.out
    refine bodyPost_ret (v := .tuple #[.slice none 0 0, .bool true]) (by simp [results, Try.results12, go_sem]) rfl ⟨.inl ⟨h1, T, _, rfl, h2, h3, ?_⟩, by go_grown⟩
    rw [h4]
    exact World.ownsRow_nil _ _ _ _
  by_cases h60 : n ≤ 60
  · have i60 : ¬ (60 : Int) < (n : Int) := by omega
    have in0 : ¬ (n : Int) = 0 := by omega
    have hmk := make_bools n (by omega)
    have HBM : Hid (∀ (W : World) (T : TypeId), BoolsAt (W.alloc (.cells (madeCells #[.bool false] n) T)) W.heap.size n (fun _ => false)) := fun W T => bools_made n W T
    go_enter Try.func12, Try.ntmps12
    go_wp2_with fail
    obtain ⟨W0, hW0⟩ : ∃ W0, W0 = (w.alloc (.cells #[.slice a n c] 28)).alloc (.cells (madeCells #[.bool false] n) 4) := ⟨_, rfl⟩
    have z0 : W0.heap.size = w.heap.size + 1 + 1 := by rw [hW0]; simp
    have b0 : Below w.heap.size w W0 := by rw [hW0]; exact ((Below.refl _ _).alloc (Nat.le_refl _) _).alloc (by simp) _
    have t0 : W0.cell? ⟨w.heap.size, 0, none⟩ = some (.slice a n c) := by rw [hW0]; simp [go_sem]
    have u0 : BoolsAt W0 (w.heap.size + 1) n (fun _ => false) := by
      rw [hW0]
      have := HBM.out (w.alloc (.cells #[.slice a n c] 28)) 4
      rw [World.size_alloc] at this
      exact this
    rw [← hW0]
    clear hW0 hmk HBM
    have HU0 : Hid (∃ U, BoolsAt W0 (w.heap.size + 1) n U ∧ ∀ i, i < n → (U i = true ↔ ((i : Nat) : Int) ∈ vis L 0 0)) := ⟨_, u0, fun i hi => by simp [vis, kidsF, kidsL]⟩
    have HB0 : Hid (Below w.heap.size w W0) := b0
    clear u0 b0
    go_loopw [28] (fun kv wr => ∃ k : Nat, k ≤ n ∧ kv = .int .i64 k ∧ w.heap.size + 1 + 1 ≤ wr.heap.size ∧ wr.cell? ⟨w.heap.size, 0, none⟩ = some (.slice a n c) ∧ Hid (∃ U, BoolsAt wr (w.heap.size + 1) n U ∧ ∀ i, i < n → (U i = true ↔ ((i : Nat) : Int) ∈ vis L k 0)) ∧ Hid (Below w.heap.size w wr)) (fun kv _ => n - (intOf kv).toNat)
    case atStart => exact ⟨0, Nat.zero_le _, rfl, by omega, t0, HU0, HB0⟩
    case round =>
      obtain ⟨k, hkn, rfl, hzr, tr, HU, HB⟩ := hrel
      obtain ⟨wk, rfl⟩ : ∃ wk, wk = wr := ⟨wr, rfl⟩
      by_cases hlt : k < n
      · rcases HROW.out with h0 | ⟨g, off, rfl, hg, hat⟩
        · omega
        obtain ⟨a0, a1, a2, a3⟩ := hat.below HB.out hg k hlt
        have j0 : (0 : Int) ≤ (k : Int) := by omega
        have j1 : (k : Int) < (n : Int) := by omega
        have hgw : g < wk.heap.size := by omega
        obtain ⟨x, hx⟩ : ∃ x, x = lbAt L k := ⟨_, rfl⟩
        have HX : Hid (x = lbAt L k) := hx
        rw [← hx] at a0 a1 a2 a3
        clear hat hx
        go_wp2_with fail
        obtain ⟨W1, hW1⟩ : ∃ W1, W1 = (wk.alloc (.cells #[.string x.key, .string x.val, .int .i64 x.left, .int .i64 x.right] 55)).alloc (.cells #[.int .i64 x.left, .int .i64 x.right] 3) := ⟨_, rfl⟩
        have z1 : W1.heap.size = wk.heap.size + 1 + 1 := by rw [hW1]; simp
        have b1 : Below wk.heap.size wk W1 := by rw [hW1]; exact ((Below.refl _ _).alloc (Nat.le_refl _) _).alloc (by simp) _
        have y0 : W1.cell? ⟨wk.heap.size + 1, 0, none⟩ = some (.int .i64 x.left) := by rw [hW1]; simp [go_sem]
        have y1 : W1.cell? ⟨wk.heap.size + 1, 1, none⟩ = some (.int .i64 x.right) := by rw [hW1]; simp [go_sem]
        have t1 : W1.cell? ⟨w.heap.size, 0, none⟩ = some (.slice (some ⟨g, off, none⟩) n c) := (b1.cell (by show w.heap.size < _; omega)).trans tr
        rw [← hW1]
        have HU1 : Hid (∃ U, BoolsAt W1 (w.heap.size + 1) n U ∧ ∀ i, i < n → (U i = true ↔ ((i : Nat) : Int) ∈ vis L k 0)) := by
          obtain ⟨U, h1, h2⟩ := HU.out
          exact ⟨U, h1.below b1 (by omega), h2⟩
        have HB1 : Hid (Below w.heap.size w W1) := HB.out.trans (b1.mono (by omega))
        clear hW1 b1 a0 a1 a2 a3 HU tr
        go_loopw [39] (fun jv wi => ∃ j : Nat, j ≤ 2 ∧ jv = .int .i64 j ∧ wk.heap.size + 1 + 1 ≤ wi.heap.size ∧ wi.cell? ⟨w.heap.size, 0, none⟩ = some (.slice (some ⟨g, off, none⟩) n c) ∧ wi.cell? ⟨wk.heap.size + 1, 0, none⟩ = some (.int .i64 x.left) ∧ wi.cell? ⟨wk.heap.size + 1, 1, none⟩ = some (.int .i64 x.right) ∧ Hid (∃ U, BoolsAt wi (w.heap.size + 1) n U ∧ ∀ i, i < n → (U i = true ↔ ((i : Nat) : Int) ∈ vis L k j)) ∧ Hid (Below w.heap.size w wi)) (fun jv _ => 2 - (intOf jv).toNat)
        case atStart => exact ⟨0, by omega, rfl, by omega, t1, y0, y1, HU1, HB1⟩
        case round =>
          obtain ⟨j, hj2, rfl, hzi, ti, yi0, yi1, HUi, HBi⟩ := hrel
          by_cases hj : j < 2
          · obtain ⟨d, hd⟩ : ∃ d, [x.left, x.right][j]? = some d := ⟨[x.left, x.right][j], List.getElem?_eq_getElem (by simpa using hj)⟩
            have yd : wr.cell? ⟨wk.heap.size + 1, j, none⟩ = some (.int .i64 d) := by
              obtain rfl | rfl : j = 0 ∨ j = 1 := by omega
              · simp at hd; subst hd; exact yi0
              · simp at hd; subst hd; exact yi1
            have hd' : [(lbAt L k).left, (lbAt L k).right][j]? = some d := by rw [← HX.out]; exact hd
            have HV : Hid (vis L k (j + 1) = vis L k j ++ if d = -1 then [] else [d]) := vis_step hd'
            have HVG : Hid (GoodL L → d ≠ -1 → ((k : Int) + 1 ≤ d ∧ d ≤ (n : Int) - 1) ∧ d ∉ vis L k j) := fun h1 h2 => by
              have := vis_good h1 (by have := HN.out; omega) hd' h2
              rw [HN.out]
              exact this
            have k0 : (0 : Int) ≤ (j : Int) := by omega
            have k1 : (j : Int) < 2 := by omega
            clear hd hd'
            by_cases d1 : d = -1
            · have HV' : Hid (∃ U, BoolsAt wr (w.heap.size + 1) n U ∧ ∀ i, i < n → (U i = true ↔ ((i : Nat) : Int) ∈ vis L k (j + 1))) := by
                show ∃ U, _
                rw [HV.out, if_pos d1, List.append_nil]
                exact HUi.out
              subst d1
              go_wp2
              go_roundw
              case rel => exact ⟨j + 1, by omega, by go_num, hzi, ti, yi0, yi1, HV', HBi⟩
              case measure => simp [intOf]; omega
            · obtain ⟨q, hq⟩ : ∃ q, q = decide ((k : Int) + 1 ≤ d ∧ d ≤ (n : Int) - 1) := ⟨_, rfl⟩
              have HQ : Hid (q = decide ((k : Int) + 1 ≤ d ∧ d ≤ (n : Int) - 1)) := hq
              have HL1 : Hid (∀ W, Calls Try.prog 23 #[.int .i64 d, .int .i64 ((k : Int) + 1), .int .i64 ((n : Int) - 1)] W fun e w' => e = .returned (.bool q) ∧ w' = W) := fun W => by rw [hq]; exact l1InT_any _ _ _ W
              clear hq
              cases q with
              | false =>
                have HG : Hid (¬ GoodL L) := fun h => by
                  have := (HVG.out h d1).1
                  have h2 := HQ.out
                  simp at h2
                  omega
                go_wp2_with fail
                refine (HL1.out _).mono ?_
                rintro e w2 ⟨rfl, hw2⟩
                have hw := hw2.symm
                subst hw
                clear hw2
                go_wp2
                exact bodyPost_ret (v := .tuple #[.slice none 0 0, .bool false]) (by simp [results, Try.results12, go_sem]) rfl (PairsOfIs.no HG.out HBi.out)
              | true =>
                have hqq : (k : Int) + 1 ≤ d ∧ d ≤ (n : Int) - 1 := by simpa using HQ.out.symm
                obtain ⟨m, rfl⟩ : ∃ m : Nat, d = (m : Int) := ⟨d.toNat, by omega⟩
                obtain ⟨U, hU, hUv⟩ := HUi.out
                have hmn : m < n := by omega
                obtain ⟨um, fm⟩ := hU m hmn
                have HUU : Hid (BoolsAt wr (w.heap.size + 1) n U ∧ ∀ i, i < n → (U i = true ↔ ((i : Nat) : Int) ∈ vis L k j)) := ⟨hU, hUv⟩
                have m0 : (0 : Int) ≤ (m : Int) := by omega
                have m1 : (m : Int) < (n : Int) := by omega
                obtain ⟨q2, hq2⟩ : ∃ q, q = U m := ⟨_, rfl⟩
                have HQ2 : Hid (q2 = U m) := hq2
                rw [← hq2] at um
                clear hU hUv hq2 hqq
                cases q2 with
                | true =>
                  have HG : Hid (¬ GoodL L) := fun h => by
                    exact (HVG.out h d1).2 ((HUU.out.2 m hmn).1 HQ2.out.symm)
                  go_wp2_with fail
                  refine (HL1.out _).mono ?_
                  rintro e w2 ⟨rfl, hw2⟩
                  have hw := hw2.symm
                  subst hw
                  clear hw2
                  go_wp2
                  exact bodyPost_ret (v := .tuple #[.slice none 0 0, .bool false]) (by simp [results, Try.results12, go_sem]) rfl (PairsOfIs.no HG.out HBi.out)
                | false =>
                  have HS : Hid (∃ U', BoolsAt (wr.setCell ⟨w.heap.size + 1, m, none⟩ (.bool true)) (w.heap.size + 1) n U' ∧ ∀ i, i < n → (U' i = true ↔ ((i : Nat) : Int) ∈ vis L k (j + 1))) := by
                    refine ⟨_, HUU.out.1.set hmn, fun i hi => ?_⟩
                    rw [HV.out, if_neg d1, List.mem_append, ← HUU.out.2 i hi]
                    by_cases e : i = m
                    · simp [e]
                    · simp [e]
                      intro h
                      omega
                  have hb9 : BelowBut wr.heap.size (w.heap.size + 1) wr (wr.setCell ⟨w.heap.size + 1, m, none⟩ (.bool true)) := BelowBut.setCell _ _ _
                  have r1 : (wr.setCell ⟨w.heap.size + 1, m, none⟩ (.bool true)).cell? ⟨w.heap.size, 0, none⟩ = some (.slice (some ⟨g, off, none⟩) n c) := (hb9.cell (by omega) (by omega)).trans ti
                  have r2 : (wr.setCell ⟨w.heap.size + 1, m, none⟩ (.bool true)).cell? ⟨wk.heap.size + 1, 0, none⟩ = some (.int .i64 x.left) := (hb9.cell (by omega) (by omega)).trans yi0
                  have r3 : (wr.setCell ⟨w.heap.size + 1, m, none⟩ (.bool true)).cell? ⟨wk.heap.size + 1, 1, none⟩ = some (.int .i64 x.right) := (hb9.cell (by omega) (by omega)).trans yi1
                  have HBS : Hid (Below w.heap.size w (wr.setCell ⟨w.heap.size + 1, m, none⟩ (.bool true)) ∧ wk.heap.size + 1 + 1 ≤ (wr.setCell ⟨w.heap.size + 1, m, none⟩ (.bool true)).heap.size) := ⟨HBi.out.setCell (by simp) _, Nat.le_trans hzi hb9.size⟩
                  have HR : Hid ((wr.setCell ⟨w.heap.size + 1, m, none⟩ (.bool true)).cell? ⟨w.heap.size, 0, none⟩ = some (.slice (some ⟨g, off, none⟩) n c) ∧ (wr.setCell ⟨w.heap.size + 1, m, none⟩ (.bool true)).cell? ⟨wk.heap.size + 1, 0, none⟩ = some (.int .i64 x.left) ∧ (wr.setCell ⟨w.heap.size + 1, m, none⟩ (.bool true)).cell? ⟨wk.heap.size + 1, 1, none⟩ = some (.int .i64 x.right)) := ⟨r1, r2, r3⟩
                  clear hb9 r1 r2 r3
                  go_wp2_with fail
                  refine (HL1.out _).mono ?_
                  rintro e w2 ⟨rfl, hw2⟩
                  have hw := hw2.symm
                  subst hw
                  clear hw2
                  go_wp2
                  go_roundw
                  case rel => exact ⟨j + 1, by omega, by go_num, HBS.out.2, HR.out.1, HR.out.2.1, HR.out.2.2, HS, HBS.out.1⟩
                  case measure => simp [intOf]; omega
          · obtain rfl : j = 2 := by omega
            have HUe : Hid (∃ U, BoolsAt wr (w.heap.size + 1) n U ∧ ∀ i, i < n → (U i = true ↔ ((i : Nat) : Int) ∈ vis L (k + 1) 0)) := by
              rw [← vis_end (by have := HN.out; omega)]
              exact HUi.out
            go_wp2
            go_roundw
            case rel => exact ⟨k + 1, by omega, by go_num, by omega, ti, HUe, HBi⟩
            case measure => simp [intOf]; omega
      · obtain rfl : k = n := by omega
        clear HU HU0
        obtain ⟨m, hm⟩ : ∃ m, m = prsM (lbAt L) k 60 0 := ⟨_, rfl⟩
        have HM : Hid (m = prsM (lbAt L) L.length 60 0) := by show _ = _; rw [hm, HN.out]
        have HRW : Hid (∀ w', Below w.heap.size w w' → RowIs w' w'.heap.size (.slice a k c) k (lbAt L)) := fun w' hb => ⟨a, c, rfl, hn40, HROW.out.imp id (fun ⟨g, off, e, hg, hat⟩ => ⟨g, off, e, by have := hb.size; omega, hat.below hb hg⟩)⟩
        have HPA := pairs_any (lbAt L) k h60 60 0 a c
        rw [← hm] at HPA
        have HPAH : Hid (∀ (w : World), RowIs w w.heap.size (.slice a k c) k (lbAt L) → Calls Try.prog 24 #[.agg #[.slice a k c], .int .i64 0, .int .i64 1] w fun e w' => ∃ v, e = .returned (.tuple #[v, .bool m.isSome]) ∧ OwnsP w' w.heap.size v (m.getD []) ∧ Below w.heap.size w w') := fun w h => HPA w h (by omega)
        clear HPA hm
        go_wp2_with fail
        refine (HPAH.out _ (HRW.out _ HB.out)).mono ?_
        rintro e w2 ⟨v2, rfl, hv2, hb2⟩
        have HV2 : Hid (OwnsP w2 wk.heap.size v2 (m.getD [])) := hv2
        obtain ⟨a2, c2, rfl⟩ := hv2.form
        have z2 := hb2.size
        have HB2 : Hid (Below w.heap.size w w2) := HB.out.trans (hb2.mono (by omega))
        have t2 : w2.cell? ⟨w.heap.size, 0, none⟩ = some (.slice a k c) := (hb2.cell (by show w.heap.size < _; omega)).trans tr
        have HGR : Hid (GoodL L → ∃ l, m = some l ∧ l.length = k ∧ Srt l ∧ ∀ p ∈ l, entryB p.1 p.2 = true) := fun h => by
          obtain ⟨l, h1, h2, h3⟩ := good_rows h (fun e => by have := HN.out; rw [e] at this; exact hn0 this)
          exact ⟨l, HM.out.trans h1, by rw [h2, HN.out], h3⟩
        have HL60 : Hid (∀ l, m = some l → l.length ≤ 60 ∧ ∀ p ∈ l, p.1.size ≤ 2 ^ 20 ∧ p.2.size ≤ 2 ^ 20) := fun l h => by
          have h' := HM.out.symm.trans h
          refine ⟨prsM_len _ _ _ _ _ h', fun p hp => ?_⟩
          obtain ⟨i, rfl⟩ := prsM_mem _ _ _ _ _ h' p hp
          exact HZ.out i
        clear hv2 hb2 tr t0
        cases m with
        | none =>
          have HG : Hid (¬ GoodL L) := fun h => by obtain ⟨l, h1, _⟩ := HGR.out h; cases h1
          go_wp2
          exact bodyPost_ret (v := .tuple #[.slice none 0 0, .bool false]) (by simp [results, Try.results12, go_sem]) rfl (PairsOfIs.no HG.out HB2.out)
        | some l =>
          have hl60 := (HL60.out l rfl).1
          have HLS : Hid (∀ p ∈ l, p.1.size ≤ 2 ^ 20 ∧ p.2.size ≤ 2 ^ 20) := (HL60.out l rfl).2
          replace HV2 : Hid (OwnsP w2 wk.heap.size (.slice a2 l.length c2) l) := HV2.out
          obtain ⟨m, hm⟩ : ∃ m, m = l.length := ⟨_, rfl⟩
          have HML : Hid (m = l.length) := hm
          show (_ : Prop)
          simp only [Option.getD_some, Option.isSome_some]
          rw [← hm] at HV2 hl60 ⊢
          clear hm
          by_cases hmk : m = k
          · subst hmk
            obtain ⟨ax, cx, ex, hcx, hsrc⟩ := HV2.out.src
            have ex' := ex
            simp only [Value.slice.injEq] at ex'
            obtain ⟨rfl, hml, rfl⟩ := ex'
            clear ex hml
            rcases hsrc with h0 | ⟨g2, o2, rfl, hg2, hB2, hat2⟩
            · have := HML.out; rw [h0] at this; exact absurd this hn0
            have HAT2 : Hid (PAt w2 g2 o2 l) := hat2
            have HPD : Hid (∀ i, i < m → ∃ p, l[i]? = some p) := fun i hi => by
              have hi' : i < l.length := by rw [← HML.out]; exact hi
              exact ⟨l[i], List.getElem?_eq_getElem hi'⟩
            have HGS : Hid (GoodL L → Srt l ∧ ∀ p ∈ l, entryB p.1 p.2 = true) := fun h => by
              obtain ⟨l', h1, _, h3⟩ := HGR.out h
              cases h1
              exact h3
            have HLT : Hid (∀ W, ∀ x : Int, Calls Try.prog 23 #[.int .i64 x, .int .i64 1, .int .i64 40] W fun e w' => e = .returned (.bool (decide ((1 : Int) ≤ x ∧ x ≤ 40))) ∧ w' = W) := fun W x => l1InT_any _ _ _ W
            clear hat2 HPAH HL60 hkn
            go_wp2_with fail
            go_loopw [78] (fun iv wr => ∃ i : Nat, i ≤ m ∧ iv = .int .i64 i ∧ Hid (Chk l i) ∧ Below w2.heap.size w2 wr) (fun iv _ => m - (intOf iv).toNat)
            case atStart => exact ⟨0, Nat.zero_le _, rfl, ⟨fun j p h => by omega, fun j p q h => by omega⟩, Below.refl _ _⟩
            case round =>
              obtain ⟨i, him, rfl, HC, hbi⟩ := hrel
              by_cases hi : i < m
              · obtain ⟨p, hp⟩ := HPD.out i hi
                obtain ⟨d0, d1⟩ := HAT2.out i p hp
                replace d0 := (hbi.cell hg2).trans d0
                replace d1 := (hbi.cell hg2).trans d1
                have zi := hbi.size
                have hgi : g2 < wr.heap.size := by omega
                have hps := HLS.out p (List.mem_of_getElem? hp)
                have j0 : (0 : Int) ≤ (i : Int) := by omega
                have j1 : (i : Int) < (m : Int) := by omega
                have HBI : Hid (Below w2.heap.size w2 wr) := hbi
                have HPI : Hid (l[i]? = some p) := hp
                have HNG : Hid (entryB p.1 p.2 = false → ¬ GoodL L) := fun h hg => by
                  have := (HGS.out hg).2 p (List.mem_of_getElem? hp)
                  rw [h] at this
                  cases this
                have HAL : Hid (∀ o nq, Below w2.heap.size w2 ((wr.alloc o).drewN nq)) := fun o nq => drewN_belowT (hbi.trans ((Below.refl _ _).alloc zi o)) nq
                have HWL : Hid (∀ wx, Below w2.heap.size w2 wx → Below w.heap.size w wx) := fun wx h => HB2.out.trans (h.mono (by omega))
                obtain ⟨pk, pv⟩ := p
                dsimp only at d0 d1 hps
                clear hp
                by_cases e1 : (1 : Int) ≤ (pk.size : Int) ∧ (pk.size : Int) ≤ 40
                · have HLQ : Hid (∀ W, Calls Try.prog 23 #[.int .i64 (pk.size : Int), .int .i64 1, .int .i64 40] W fun e w' => e = .returned (.bool true) ∧ w' = W) := fun W => by
                    have := HLT.out W (pk.size : Int)
                    rw [show decide ((1 : Int) ≤ (pk.size : Int) ∧ (pk.size : Int) ≤ 40) = true by simpa using e1] at this
                    exact this
                  by_cases e2 : pv.size ≤ 60
                  · have e2' : decide ((60 : Int) < (pv.size : Int)) = false := by simp; omega
                    have HEN : Hid (entryB pk pv = true) := by show _ = _; unfold entryB; simp; omega
                    by_cases e3 : i = 0
                    · have HI0 : Hid (i = 0) := e3
                      have HC1 : Hid (Chk l (i + 1)) := ⟨fun j p h hp => by
                        obtain rfl : j = i := by have := HI0.out; omega
                        have e := HPI.out.symm.trans hp
                        cases e
                        exact HEN.out, fun j p q h => by have := HI0.out; omega⟩
                      have e3' : decide ((0 : Int) < (i : Int)) = false := by simp; omega
                      have e3'' : decide (0 < i) = false := by simp; omega
                      clear e3
                      go_wp2_with fail
                      go_big_quiet ((go_at_call 23; exact Calls.quiet_of_same (HLQ.out _)))
                      go_wp2
                      go_roundw
                      case rel => exact ⟨i + 1, by omega, by go_num, HC1, HAL.out _ _⟩
                      case measure => simp [intOf]; omega
                    · obtain ⟨ip, hip⟩ : ∃ ip, i = ip + 1 := ⟨i - 1, by omega⟩
                      obtain ⟨⟨qk, qv⟩, hq⟩ := HPD.out ip (by omega)
                      obtain ⟨f0, _⟩ := HAT2.out ip (qk, qv) hq
                      replace f0 := (HBI.out.cell hg2).trans f0
                      dsimp only at f0
                      have HQI : Hid (l[ip]? = some (qk, qv)) := hq
                      have e3' : (0 : Int) < (i : Int) := by omega
                      have e3'' : 0 < i := by omega
                      have e4' : (i : Int) - 1 = (ip : Int) := by omega
                      have e5' : (0 : Int) ≤ (ip : Int) := by omega
                      have e6' : (ip : Int) < (m : Int) := by omega
                      have HIP : Hid (i = ip + 1) := hip
                      clear hip hq
                      cases hkl : Op.bytesLess qk.toList pk.toList with
                      | true =>
                        have HC1 : Hid (Chk l (i + 1)) := ⟨fun j p h hp => by
                          by_cases e : j = i
                          · subst e
                            have e := HPI.out.symm.trans hp
                            cases e
                            exact HEN.out
                          · exact HC.out.1 j p (by omega) hp, fun j p q h hp hq => by
                          by_cases e : j = ip
                          · subst e
                            have e := HQI.out.symm.trans hp
                            cases e
                            rw [← HIP.out] at hq
                            have e := HPI.out.symm.trans hq
                            cases e
                            exact hkl
                          · exact HC.out.2 j p q (by have := HIP.out; omega) hp hq⟩
                        go_wp2_with fail
                        go_big_quiet ((go_at_call 23; exact Calls.quiet_of_same (HLQ.out _)))
                        go_wp2
                        go_roundw
                        case rel => exact ⟨i + 1, by omega, by go_num, HC1, HAL.out _ _⟩
                        case measure => simp [intOf]; omega
                      | false =>
                        have HG : Hid (¬ GoodL L) := fun h => by
                          have := srt_at (HGS.out h).1 HQI.out (by rw [← HIP.out]; exact HPI.out)
                          unfold kLt at this
                          dsimp only at this
                          rw [hkl] at this
                          cases this
                        go_wp2_with fail
                        go_big_quiet ((go_at_call 23; exact Calls.quiet_of_same (HLQ.out _)))
                        go_wp2
                        exact bodyPost_ret (v := .tuple #[.slice none 0 0, .bool false]) (by simp [results, Try.results12, go_sem]) rfl (PairsOfIs.no HG.out (HWL.out _ (HAL.out _ _)))
                  · have e2' : (60 : Int) < (pv.size : Int) := by omega
                    have HG : Hid (¬ GoodL L) := HNG.out (by unfold entryB; simp [e2])
                    go_wp2_with fail
                    go_big_quiet ((go_at_call 23; exact Calls.quiet_of_same (HLQ.out _)))
                    go_wp2
                    exact bodyPost_ret (v := .tuple #[.slice none 0 0, .bool false]) (by simp [results, Try.results12, go_sem]) rfl (PairsOfIs.no HG.out (HWL.out _ (HAL.out _ _)))
                · have HLQ : Hid (∀ W, Calls Try.prog 23 #[.int .i64 (pk.size : Int), .int .i64 1, .int .i64 40] W fun e w' => e = .returned (.bool false) ∧ w' = W) := fun W => by
                    have := HLT.out W (pk.size : Int)
                    rw [show decide ((1 : Int) ≤ (pk.size : Int) ∧ (pk.size : Int) ≤ 40) = false by simpa using e1] at this
                    exact this
                  have HG : Hid (¬ GoodL L) := HNG.out (by
                    rw [← Bool.not_eq_true]
                    intro h
                    unfold entryB at h
                    simp at h
                    omega)
                  go_wp2_with fail
                  go_big_quiet ((go_at_call 23; exact Calls.quiet_of_same (HLQ.out _)))
                  go_wp2
                  exact bodyPost_ret (v := .tuple #[.slice none 0 0, .bool false]) (by simp [results, Try.results12, go_sem]) rfl (PairsOfIs.no HG.out (HWL.out _ (HAL.out _ _)))
              · obtain rfl : i = m := by omega
                have HCE : Hid (Srt l ∧ ∀ p ∈ l, entryB p.1 p.2 = true) := chk_end (by rw [← HML.out]; exact HC.out)
                obtain ⟨T, hT, hTi⟩ := tree_of_row l HCE.out.1
                have HT : Hid (T.ok ∧ T.ino = l) := ⟨hT, hTi⟩
                have HTL : Hid ((T.limbs 0).length = i) := by show _ = _; rw [Bt.limbs_len, ← Bt.ino_len, hTi, HML.out]
                have HEND : Hid (GoodL L ↔ T.limbs 0 = L) := good_end (by have := HN.out; omega) (fun e => by have := HN.out; rw [e] at this; exact hn0 this) hT (by rw [hTi]; exact HM.out.symm) (by rw [hTi]; exact HCE.out.2)
                have HSR : Hid (PSrc wr (.slice (some ⟨g2, o2, none⟩) i c2) T.ino (fun _ => True)) := ⟨_, c2, by rw [hTi, ← HML.out], by rw [hTi]; exact hcx, .inr ⟨g2, o2, rfl, by have := hbi.size; omega, trivial, fun j p hp => by
                  rw [hTi] at hp
                  exact ⟨(hbi.cell hg2).trans (HAT2.out j p hp).1, (hbi.cell hg2).trans (HAT2.out j p hp).2⟩⟩⟩
                have HTS : Hid ((∀ p ∈ T.ino, p.1.size ≤ 2 ^ 20) ∧ T.sz ≤ 2 ^ 20) := ⟨fun p hp => (HLS.out p (by rw [← hTi]; exact hp)).1, by rw [← Bt.ino_len, hTi, ← HML.out]; omega⟩
                have HBI : Hid (Below w2.heap.size w2 wr) := hbi
                have zi := hbi.size
                have t3 : wr.cell? ⟨w.heap.size, 0, none⟩ = some (.slice a i c) := (hbi.cell (by show w.heap.size < _; omega)).trans t2
                have j4 : ¬ (i : Int) < (i : Int) := by omega
                clear hT hTi hbi
                go_wp2_with fail
                refine (l7Treap_any T _ _ HSR.out HT.out.1 HTS.out.1 HTS.out.2).mono ?_
                rintro e w5 ⟨a5, c5, rfl, ho5, hb5⟩
                rw [HTL.out] at ho5 ⊢
                obtain ⟨g5, _, hR5⟩ := own_of_row ho5 (by rw [HTL.out]; omega) zeroLb
                have z5 := hb5.size
                have t5 : w5.cell? ⟨w.heap.size, 0, none⟩ = some (.slice a i c) := (hb5.cell (by show w.heap.size < _; omega)).trans t3
                have HR5 : Hid (RowIs w5 w5.heap.size (.slice a5 i c5) i (lbAt (T.limbs 0))) := by
                  have := hR5.row
                  rw [HTL.out] at this
                  exact this
                have HB5 : Hid (Below w2.heap.size w2 w5) := HBI.out.trans (hb5.mono zi)
                clear ho5 hR5 hb5 t3
                go_wp2_with fail
                obtain ⟨W6, hW6⟩ : ∃ W6, W6 = w5.alloc (.cells #[.slice a5 i c5] 28) := ⟨_, rfl⟩
                have b6 : Below w5.heap.size w5 W6 := by rw [hW6]; exact (Below.refl _ _).alloc (Nat.le_refl _) _
                have z6 : W6.heap.size = w5.heap.size + 1 := by rw [hW6]; simp
                have x6 : W6.cell? ⟨w5.heap.size, 0, none⟩ = some (.slice a5 i c5) := by rw [hW6]; simp [go_sem]
                have t6 : W6.cell? ⟨w.heap.size, 0, none⟩ = some (.slice a i c) := (b6.cell (by show w.heap.size < _; omega)).trans t5
                have HR6 : Hid (RowIs W6 W6.heap.size (.slice a5 i c5) i (lbAt (T.limbs 0))) := HR5.out.below b6 (by omega)
                have HB6 : Hid (Below w2.heap.size w2 W6) := HB5.out.trans (b6.mono (by omega))
                rw [← hW6]
                clear hW6 b6 t5 HR5 HB5
                go_loopw [115] (fun jv wr => ∃ j : Nat, j ≤ i ∧ jv = .int .i64 j ∧ Hid (∀ q, q < j → lbAt (T.limbs 0) q = lbAt L q) ∧ Below W6.heap.size W6 wr) (fun jv _ => i - (intOf jv).toNat)
                case atStart => exact ⟨0, Nat.zero_le _, rfl, fun q h => by omega, Below.refl _ _⟩
                case round =>
                  obtain ⟨j, hji, rfl, HS, hbj⟩ := hrel
                  have zj := hbj.size
                  have HBJ : Hid (Below w2.heap.size w2 wr) := HB6.out.trans (hbj.mono (by omega))
                  have HWJ : Hid (Below w.heap.size w wr) := HB2.out.trans (HBJ.out.mono (by omega))
                  by_cases hj : j < i
                  · obtain ⟨a', c', e', _, hrow5⟩ := HR6.out
                    have e'' := e'
                    simp only [Value.slice.injEq] at e''
                    obtain ⟨rfl, _, rfl⟩ := e''
                    clear e'
                    rcases hrow5 with h0 | ⟨p5, o5, rfl, hp5, hat5⟩
                    · omega
                    rcases HROW.out with h0 | ⟨g, off, rfl, hg, hat⟩
                    · omega
                    obtain ⟨a0, a1, a2, a3⟩ := hat5.below hbj hp5 j hj
                    obtain ⟨d0, d1, d2, d3⟩ := hat.below HWJ.out hg j hj
                    have x7 : wr.cell? ⟨w5.heap.size, 0, none⟩ = some (.slice (some ⟨p5, o5, none⟩) i c5) := (hbj.cell (by show w5.heap.size < _; omega)).trans x6
                    have t7 : wr.cell? ⟨w.heap.size, 0, none⟩ = some (.slice (some ⟨g, off, none⟩) i c) := (hbj.cell (by show w.heap.size < _; omega)).trans t6
                    have k0 : (0 : Int) ≤ (j : Int) := by omega
                    have k1 : (j : Int) < (i : Int) := by omega
                    have hne := neq_limb (lbAt (T.limbs 0) j) (lbAt L j)
                    have hgd := fun op a b => guard_limb op a b (lbAt (T.limbs 0) j) (lbAt L j)
                    obtain ⟨q, hq⟩ : ∃ q, q = lbSame (lbAt (T.limbs 0) j) (lbAt L j) := ⟨_, rfl⟩
                    have HQ : Hid (q = lbSame (lbAt (T.limbs 0) j) (lbAt L j)) := hq
                    rw [← hq] at hne
                    have HBJ2 : Hid (Below W6.heap.size W6 wr) := hbj
                    clear hq hbj hat hat5 x6 t6
                    cases q with
                    | true =>
                      have HS' : Hid (∀ q, q < j + 1 → lbAt (T.limbs 0) q = lbAt L q) := fun r hr => by
                        by_cases e : r = j
                        · subst e; exact lbSame_iff.1 HQ.out.symm
                        · exact HS.out r (by omega)
                      go_wp2_with fail
                      go_big_quiet (fail)
                      go_wp2
                      go_roundw
                      case rel => exact ⟨j + 1, by omega, by go_num, HS', drewN_belowT HBJ2.out _⟩
                      case measure => simp [intOf]; omega
                    | false =>
                      have HG : Hid (¬ GoodL L) := fun h => by
                        have e := HEND.out.1 h
                        have h2 := HQ.out
                        rw [e] at h2
                        rw [lbSame_iff.2 rfl] at h2
                        cases h2
                      go_wp2_with fail
                      go_big_quiet (fail)
                      go_wp2
                      exact bodyPost_ret (v := .tuple #[.slice none 0 0, .bool false]) (by simp [results, Try.results12, go_sem]) rfl (PairsOfIs.no HG.out (drewN_belowT HWJ.out _))
                  · obtain rfl : j = i := by omega
                    have HEQ : Hid (T.limbs 0 = L) := lbAt_ext.1 ⟨by rw [HTL.out, HN.out], fun q hq => HS.out q (by rw [← HTL.out]; exact hq)⟩
                    have HOW : Hid (OwnsP wr w.heap.size (.slice (some ⟨g2, o2, none⟩) j c2) T.ino) := by
                      rw [HT.out.2]
                      exact World.ownsRow.mono (HV2.out.below HBJ.out) (by omega)
                    go_wp2_with fail
                    exact bodyPost_ret (v := .tuple #[.slice (some ⟨g2, o2, none⟩) j c2, .bool true]) (by simp [results, Try.results12, go_sem]) rfl ⟨.inl ⟨HEND.out.2 HEQ.out, T, _, rfl, HT.out.1, HEQ.out, HOW.out⟩, HWJ.out⟩
          · have HG : Hid (¬ GoodL L) := fun h => by
              obtain ⟨l', h1, h2, _⟩ := HGR.out h
              cases h1
              exact hmk (HML.out.trans h2)
            have hne : ¬ (m : Int) = (k : Int) := by omega
            go_wp2
            exact bodyPost_ret (v := .tuple #[.slice none 0 0, .bool false]) (by simp [results, Try.results12, go_sem]) rfl (PairsOfIs.no HG.out HB2.out)
  · have i60 : (60 : Int) < (n : Int) := by omega
    have in0 : ¬ (n : Int) = 0 := by omega
    have HG : Hid (¬ GoodL L) := fun h => by have := h.1; have := HN.out; omega
    go_enter Try.func12, Try.ntmps12
    go_wp2
    exact bodyPost_ret (v := .tuple #[.slice none 0 0, .bool false]) (by simp [results, Try.results12, go_sem]) rfl (PairsOfIs.no HG.out (by go_grown))
end Go.Proofs.Ytnmbnebofbdmfaa
