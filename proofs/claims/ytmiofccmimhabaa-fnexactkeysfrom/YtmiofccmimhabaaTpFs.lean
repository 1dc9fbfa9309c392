/- The keys from one to another: the specification's KeysFrom. -/
import Derived.Test.YtmiofccmimhabaaTpF
import Derived.Test.YtmiofccmimhabaaTpXc
namespace Go.Proofs.Ytmiofccmimhabaa
open Go.RowKit
set_option linter.unusedVariables false

theorem keys_take (T : Bt) (k : Nat) (p : Pr) (h : T.ino[k]? = some p) (f : ByteArray → Bool) : ((T.keys.take (k + 1)).filter f) = (T.keys.take k).filter f ++ (if f p.1 then [p.1] else []) := by
  have : T.keys[k]? = some p.1 := by unfold Bt.keys; rw [List.getElem?_map, h]; rfl
  rw [List.take_add_one, this, List.filter_append]
  simp [List.filter_cons]

set_option maxRecDepth 100000 in
set_option maxHeartbeats 1000000 in
theorem specKeys_any (n c : Nat) (a : Option Addr) (N : Nat → Lb) (lo hi : ByteArray) (w : World) (h : RowIs w w.heap.size (.slice a n c) n N) (hs : SmallR n N) :
    Calls Try.prog 26 #[.agg #[.slice a n c], .string lo, .string hi] w (KfIs (lbs n N) lo hi w) := by
  have HR : Hid (RowIs w w.heap.size (.slice a n c) (lbs n N).length (lbAt (lbs n N))) := h.list
  have HS : Hid ((lbs n N).length ≤ 2 ^ 20 ∧ ∀ x ∈ lbs n N, x.key.size ≤ 2 ^ 20 ∧ x.val.size ≤ 2 ^ 20) := hs.list
  clear h hs
  obtain ⟨i0, hi0, hz0, hz1, hz2⟩ := info_parts infoStrK
  have HI : Hid (Try.prog.info? 9 = some i0 ∧ i0.zero = some (.string ⟨#[]⟩) ∧ i0.size = 1 ∧ i0.bytes = 16) := ⟨hi0, hz0, hz1, hz2⟩
  clear hi0 hz0 hz1 hz2
  go_enter Try.func26, Try.ntmps26
  go_wp2_with fail
  have hB0 : Below w.heap.size w (w.alloc (.cells #[.slice a n c] 31)) := (Below.refl _ _).alloc (Nat.le_refl _) _
  refine (l7Of_any (lbs n N) _ _ (HR.out.below hB0 (by simp)) HS.out.1 HS.out.2).mono ?_
  rintro e w1 ⟨⟨hg, T, v1, rfl, hTo, hTl, ho⟩ | ⟨hg, rfl⟩, hb1⟩
  · have HB1 : Hid (Below w.heap.size w w1) := hB0.trans (hb1.mono (by simp))
    have z1 : w.heap.size ≤ w1.heap.size := HB1.out.size
    have HG : Hid (GoodL (lbs n N) ∧ T.ok ∧ T.limbs 0 = lbs n N) := ⟨hg, hTo, hTl⟩
    have hT60 : T.ino.length ≤ 60 := by rw [Bt.ino_len, ← T.limbs_len 0, hTl]; exact hg.1
    obtain ⟨a1, c1, rfl⟩ := ho.form
    have HSR : Hid (PSrc w1 (.slice a1 T.ino.length c1) T.ino (fun _ => True)) := ho.src.any
    obtain ⟨m, hm⟩ : ∃ m, m = T.ino.length := ⟨_, rfl⟩
    have HM : Hid (m = T.ino.length) := hm
    rw [← hm] at HSR hT60 ⊢
    have HS : Hid (m = 0 ∨ ∃ b off, a1 = some ⟨b, off, none⟩ ∧ b < w1.heap.size ∧ PAt w1 b off T.ino) := by
      obtain ⟨a', c', e', hc', h0 | ⟨b, off, e, hb, _, hat⟩⟩ := HSR.out
      · exact .inl (by rw [hm, h0]; rfl)
      · simp only [Value.slice.injEq] at e'
        exact .inr ⟨b, off, by rw [e'.1, e], hb, hat⟩
    have HPD : Hid (∀ i, i < m → ∃ p, T.ino[i]? = some p) := fun i hi => by
      have hi' : i < T.ino.length := by rw [← HM.out]; exact hi
      exact ⟨T.ino[i], List.getElem?_eq_getElem hi'⟩
    clear hg hTo hTl ho hb1 hm hB0
    go_wp2_with fail
    go_loopw [10, 22] (fun ov iv wr => ∃ k : Nat, k ≤ m ∧ iv = .int .i64 k ∧ Hid (wr.ownsRow w1.heap.size 9 1 ov ((T.keys.take k).filter (wantK lo hi)).length (keyCells ((T.keys.take k).filter (wantK lo hi)))) ∧ Hid (Below w1.heap.size w1 wr)) (fun _ iv _ => m - (intOf iv).toNat)
    case atStart => exact ⟨0, Nat.zero_le _, rfl, World.ownsRow_nil _ _ _ _, Below.refl _ _⟩
    case round =>
      obtain ⟨k, hk, rfl, HRO, HBR⟩ := hrel
      have zr := HBR.out.size
      have HL60 : Hid (((T.keys.take k).filter (wantK lo hi)).length ≤ 60) := by
        show _ ≤ _
        have h1 := List.length_filter_le (wantK lo hi) (T.keys.take k)
        have h2 := List.length_take_le k T.keys
        omega
      obtain ⟨L, hL⟩ : ∃ L, L = (T.keys.take k).filter (wantK lo hi) := ⟨_, rfl⟩
      rw [← hL] at HRO HL60
      have hl60 : L.length ≤ 60 := HL60.out
      obtain ⟨oa, oc, hu⟩ : ∃ oa oc, u10 = .slice oa L.length oc := by
        rcases HRO.out.2 with ⟨e, e0⟩ | ⟨g, cap, cur, e, _⟩
        · exact ⟨none, 0, by rw [e, e0]⟩
        · exact ⟨_, _, e⟩
      subst hu
      by_cases hlt : k < m
      · obtain ⟨⟨pk, pv⟩, hp⟩ := HPD.out k hlt
        rcases HS.out with h0 | ⟨b, off, rfl, hb, hat⟩
        · omega
        obtain ⟨d0, d1⟩ := hat k (pk, pv) hp
        replace d0 := (HBR.out.cell hb).trans d0
        replace d1 := (HBR.out.cell hb).trans d1
        dsimp only at d0 d1
        have j0 : (0 : Int) ≤ (k : Int) := by omega
        have j1 : (k : Int) < (m : Int) := by omega
        have hbw : b < wr.heap.size := by omega
        have HTK := keys_take T k (pk, pv) hp (wantK lo hi)
        rw [← hL] at HTK
        have HNX : Hid (wantK lo hi pk = false → (T.keys.take (k + 1)).filter (wantK lo hi) = L) := fun h => by rw [HTK]; simp [h]
        have HYX : Hid (wantK lo hi pk = true → (T.keys.take (k + 1)).filter (wantK lo hi) = L ++ [pk]) := fun h => by rw [HTK]; simp [h]
        have HAL : Hid (∀ o, (wr.alloc o).ownsRow w1.heap.size 9 1 (.slice oa L.length oc) L.length (keyCells L) ∧ Below w1.heap.size w1 (wr.alloc o)) := fun o => ⟨World.ownsRow.alloc HRO.out o, HBR.out.trans ((Below.refl _ _).alloc zr o)⟩
        have HP1 : Hid (∀ o t, PartT ((wr.alloc o).alloc (.cells #[.string pk] t)) (some ⟨wr.heap.size + 1, 0, none⟩) 1 1 1 [.string pk]) := fun o t => by
          refine ⟨rfl, fun u hu => by simp at hu; rw [hu]; rfl, .inr ⟨_, rfl, fun j u hj => ?_⟩⟩
          have e := cell_one_new (wr.alloc o) (.string pk) t j u hj
          rw [World.size_alloc] at e
          exact e
        clear hat hp HTK hL HRO HL60
        cases hlx : Op.bytesLess pk.toList lo.toList with
        | true =>
          have HE := HNX.out (by unfold wantK; simp [hlx])
          have HE' : Hid ((T.keys.take (k + 1)).filter (wantK lo hi) = L) := HE
          clear HE HNX HYX
          try clear hh
          go_wp2_with fail
          go_roundw
          case rel => exact ⟨k + 1, by omega, by go_num, by rw [HE'.out]; exact (HAL.out _).1, (HAL.out _).2⟩
          case measure => simp [intOf]; omega
        | false =>
          by_cases hh : hi = ⟨#[]⟩
          · have hh1 : (hi.toList == []) = true := by rw [hh, noneL]; rfl
            have hh2 : (hi.toList == (⟨#[]⟩ : ByteArray).toList) = true := by rw [hh]; exact beq_self_eq_true _
            have HE := HYX.out (by unfold wantK; simp [hlx, hh])
            have HE' : Hid ((T.keys.take (k + 1)).filter (wantK lo hi) = L ++ [pk]) := HE
            clear HE HNX HYX
            try clear hh
            go_wp2_with (at_builtin; refine wpList_append_partT rfl _ _ 43 rfl w1.heap.size 9 i0 _ 1 16 Try.underlying43 HI.out.1 HI.out.2.1 HI.out.2.2.1 HI.out.2.2.2 rfl (by decide) _ L.length (keyCells L) rfl (World.ownsRow.alloc (HAL.out _).1 _) (some ⟨wr.heap.size + 1, 0, none⟩) 1 1 [.string pk] rfl (HP1.out _ _) (by unfold maxLen; omega) (by omega) (by simp; omega) ?_)
            intro v3 w3 ho3 hg3
            have HO3 : Hid (w3.ownsRow w1.heap.size 9 1 v3 (L ++ [pk]).length (keyCells (L ++ [pk]))) := by
              show World.ownsRow _ _ _ _ _ _ _
              rw [List.length_append]
              simpa [keyCells] using ho3
            have HB3 : Hid (Below w1.heap.size w1 w3) := grown_belowT ((HAL.out _).2.trans ((Below.refl _ _).alloc (by simp; omega) _)) (by simp; omega) (World.ownsRow.alloc (HAL.out _).1 _) hg3
            clear ho3 hg3
            go_wp2_with fail
            go_roundw
            case rel => exact ⟨k + 1, by omega, by go_num, by rw [HE'.out]; exact HO3, HB3⟩
            case measure => simp [intOf]; omega
          · have hh2 : (hi.toList == (⟨#[]⟩ : ByteArray).toList) = false := by
              rw [← Bool.not_eq_true]
              exact fun h => hh (toL_inj (eq_of_beq h))
            have hh1 : (hi.toList == []) = false := by rw [← noneL]; exact hh2
            cases hxh : Op.bytesLess pk.toList hi.toList with
            | true =>
              have HE := HYX.out (by unfold wantK; simp [hlx, hxh])
              have HE' : Hid ((T.keys.take (k + 1)).filter (wantK lo hi) = L ++ [pk]) := HE
              clear HE HNX HYX
              try clear hh
              go_wp2_with (at_builtin; refine wpList_append_partT rfl _ _ 43 rfl w1.heap.size 9 i0 _ 1 16 Try.underlying43 HI.out.1 HI.out.2.1 HI.out.2.2.1 HI.out.2.2.2 rfl (by decide) _ L.length (keyCells L) rfl (World.ownsRow.alloc (HAL.out _).1 _) (some ⟨wr.heap.size + 1, 0, none⟩) 1 1 [.string pk] rfl (HP1.out _ _) (by unfold maxLen; omega) (by omega) (by simp; omega) ?_)
              intro v3 w3 ho3 hg3
              have HO3 : Hid (w3.ownsRow w1.heap.size 9 1 v3 (L ++ [pk]).length (keyCells (L ++ [pk]))) := by
                show World.ownsRow _ _ _ _ _ _ _
                rw [List.length_append]
                simpa [keyCells] using ho3
              have HB3 : Hid (Below w1.heap.size w1 w3) := grown_belowT ((HAL.out _).2.trans ((Below.refl _ _).alloc (by simp; omega) _)) (by simp; omega) (World.ownsRow.alloc (HAL.out _).1 _) hg3
              clear ho3 hg3
              go_wp2_with fail
              go_roundw
              case rel => exact ⟨k + 1, by omega, by go_num, by rw [HE'.out]; exact HO3, HB3⟩
              case measure => simp [intOf]; omega
            | false =>
              have HE := HNX.out (by unfold wantK; simp [hxh, hh])
              have HE' : Hid ((T.keys.take (k + 1)).filter (wantK lo hi) = L) := HE
              clear HE HNX HYX
              try clear hh
              go_wp2_with fail
              go_roundw
              case rel => exact ⟨k + 1, by omega, by go_num, by rw [HE'.out]; exact (HAL.out _).1, (HAL.out _).2⟩
              case measure => simp [intOf]; omega
      · obtain rfl : k = m := by omega
        have hall : L = T.keys.filter (wantK lo hi) := by
          rw [hL, List.take_of_length_le (by rw [Bt.keys_len, ← Bt.ino_len, ← HM.out]; exact Nat.le_refl _)]
        have HOUT : Hid (KfIs (lbs n N) lo hi w (.returned (.tuple #[.slice oa L.length oc, .bool true])) wr) := ⟨_, _, L, rfl, .inl ⟨HG.out.1, T, HG.out.2.1, HG.out.2.2, rfl, hall⟩, World.ownsRow.mono HRO.out z1, HB1.out.trans (HBR.out.mono z1)⟩
        clear hL hall HRO HL60
        go_wp2_with fail
        refine bodyPost_ret (v := .tuple #[.slice oa L.length oc, .bool true]) ?_ rfl ?_
        · simp [results, Try.results26, go_sem]
        · exact HOUT.out
  · have HB1 : Hid (Below w.heap.size w w1) := hB0.trans (hb1.mono (by simp))
    have HD : Hid (KfTold (lbs n N) lo hi false []) := .inr ⟨hg, rfl, rfl⟩
    clear hg hb1 hB0
    go_wp2_with fail
    exact bodyPost_ret (v := .tuple #[.slice none 0 0, .bool false]) (by simp [results, Try.results26, go_sem]) rfl ⟨_, _, [], rfl, HD.out, World.ownsRow_nil _ _ _ _, HB1.out⟩
end Go.Proofs.Ytmiofccmimhabaa
